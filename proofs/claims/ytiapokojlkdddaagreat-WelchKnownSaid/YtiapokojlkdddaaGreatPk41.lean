/- Of the program and its document, joined: MatOne, MatInv, WcMat. -/
import Derived.Test.YtiapokojlkdddaaGreatPk30
import Derived.Test.YtiapokojlkdddaaGreatPk40
import Derived.Test.YtiapokojlkdddaaGreatPk28
/- What the program's One does. What the program's Turned does. -/
namespace Go.Proofs.YtiapokojlkdddaaGreat.Mat
open Go.RowKit Go.Shelf F8 Poly GF
attribute [local go_sem] Oper.semAt_some

/-- The identity, its first k rows done. -/
def oneT (k i j : Nat) : F8 := if i = j ∧ i < k then 1 else 0
theorem oneT_step {n k : Nat} {s : List F8} (h : IsM n n s (oneT k)) (hk : k < n) : IsM n n (s.set (k * n + k) 1) (oneT (k + 1)) := by
  refine ⟨by rw [List.length_set, h.len], fun i j hi hj => ?_⟩
  rw [ent_set h.len hk hk _ _ _ hj]
  unfold oneT
  by_cases e : i = k ∧ j = k
  · rw [if_pos e, if_pos (by omega)]
  · rw [if_neg e, h.ent i j hi hj]
    unfold oneT
    by_cases e2 : i = j ∧ i < k
    · rw [if_pos e2, if_pos (by omega)]
    · rw [if_neg e2, if_neg (by omega)]
theorem n_one' : ((1 : F8).n : Int) = 1 := rfl
end Go.Proofs.YtiapokojlkdddaaGreat.Mat
namespace Go.Proofs.YtiapokojlkdddaaGreat.Mat
open Go.RowKit Go.Shelf F8 Poly GF
attribute [local go_sem] Oper.semAt_some

/-- The transpose of s (of c columns), the rows ahead of i done, and j elements of that. -/
def turnT (s : List F8) (c i j a b : Nat) : F8 := if b < i ∨ (b = i ∧ a < j) then ent s c b a else 0
theorem turnT_step {r c i j : Nat} {s t : List F8} (h : IsM c r t (turnT s c i j)) (hi : i < r) (hj : j < c) : IsM c r (t.set (j * r + i) (ent s c i j)) (turnT s c i (j + 1)) := by
  refine ⟨by rw [List.length_set, h.len], fun a b ha hb => ?_⟩
  rw [ent_set h.len hj hi _ _ _ hb]
  unfold turnT
  by_cases e : a = j ∧ b = i
  · rw [if_pos e, if_pos (by omega), e.1, e.2]
  · rw [if_neg e, h.ent a b ha hb]
    unfold turnT
    by_cases e2 : b < i ∨ (b = i ∧ a < j)
    · rw [if_pos e2, if_pos (by omega)]
    · rw [if_neg e2, if_neg (by omega)]
theorem turnT_row {r c i : Nat} {s t : List F8} (h : IsM c r t (turnT s c i c)) : IsM c r t (turnT s c (i + 1) 0) :=
  h.congr fun a b ha hb => by
    unfold turnT
    by_cases e2 : b < i ∨ (b = i ∧ a < c)
    · rw [if_pos e2, if_pos (by omega)]
    · rw [if_neg e2, if_neg (by omega)]
set_option maxHeartbeats 1000000 in
theorem turned_bad (R C : Int) (A : Option Addr) (n cap : Nat) (h : RightB R C n = false) (w : World) : Calls Tryz.prog 147 #[.agg #[.int .i64 R, .int .i64 C, .slice A n cap]] w fun e w' => MatResE w w' e 0 0 [] 50 := by
  go_enter Tryz.func147, Tryz.ntmps147
  go_wp2_with fail
  refine (right_calls R C A n cap _).mono ?_
  rintro e w1 ⟨rfl, hB⟩
  rw [h]
  have hb : Block w1 (w.heap.size + 1) 91 #[.int .i64 0, .int .i64 0, .slice none 0 0] := by
    have := Block.new (w.alloc (.cells #[.int .i64 R, .int .i64 C, .slice A n cap] 91)) 91 #[.int .i64 0, .int .i64 0, .slice none 0 0]
    rw [World.size_alloc] at this
    exact this.below hB (by simp)
  obtain ⟨l0, l1, l2⟩ := cells3 hb
  have f0 := hb.frozen 0
  have f1 := hb.frozen 1
  have f2 := hb.frozen 2
  have hB1 : Below w.heap.size w w1 := (((Below.refl _ w).alloc (Nat.le_refl _) _).alloc (by simp) _).trans (hB.mono (by simp; omega))
  clear hB h
  go_wp2
  refine bodyPost_ret (v := .tuple #[.agg #[.int .i64 0, .int .i64 0, .slice none 0 0], .int .i64 50]) (by simp [results, Tryz.results147, go_sem, l0, l1, l2]) rfl ?_
  exact ⟨none, 0, rfl, Nat.le_refl _, Own.nil _ _ _, below_set3 hB1 (by omega) _ _ _⟩

set_option maxRecDepth 100000 in
set_option maxHeartbeats 4000000 in
theorem turned_calls (r c N cap : Nat) (A : Option Addr) (s : List F8) (hN : N = r * c) (hr : r ≤ 65536) (hc : c ≤ 65536) (hN9 : N ≤ 1000000000) (hcap : N ≤ cap) (hl : s.length = N) (w : World) (hb : Bytes w A (bs s)) :
    Calls Tryz.prog 147 #[.agg #[.int .i64 r, .int .i64 c, .slice A N cap]] w fun e w' => MatResE w w' e c r (flat c r (tr (ent s c))) 0 := by
  have HR : Hid (RightB r c N = true) := Lib.hid (rightB_iff.2 ⟨r, c, rfl, rfl, hr, hc, hN⟩)
  have HB := Lib.hid hb
  have HL := Lib.hid hl
  have HN := Lib.hid hN
  have HT : Hid (c * r = N) := Lib.hid (by rw [hN, Nat.mul_comm])
  clear hb hl hN
  refine (callsIn_wide (n := 9)).1 (callsIn_of_wp_marks Tryz.func147 rfl trivial ?_ rfl)
  simp only [Tryz.ntmps147, List.size_toArray, List.length_cons, List.length_nil, Nat.reduceAdd, Nat.reduceSub, Array.replicate_succ, Array.replicate_zero, List.push_toArray, List.append_toArray, List.nil_append, List.cons_append]
  refine wpIn_wide.2 ?_
  obtain ⟨wa, hwa⟩ : ∃ wa, (w.alloc (.cells #[.int .i64 r, .int .i64 c, .slice A N cap] 91)).alloc (.cells #[.int .i64 0, .int .i64 0, .slice none 0 0] 91) = wa := ⟨_, rfl⟩
  have hbm : Block wa w.heap.size 91 #[.int .i64 r, .int .i64 c, .slice A N cap] := by rw [← hwa]; exact (Block.new _ _ _).alloc _
  have hbr : Block wa (w.heap.size + 1) 91 #[.int .i64 0, .int .i64 0, .slice none 0 0] := by
    rw [← hwa]
    have := Block.new (w.alloc (.cells #[.int .i64 r, .int .i64 c, .slice A N cap] 91)) 91 #[.int .i64 0, .int .i64 0, .slice none 0 0]
    rwa [World.size_alloc] at this
  have hBa : Below w.heap.size w wa := by rw [← hwa]; exact ((Below.refl _ w).alloc (Nat.le_refl _) _).alloc (by simp) _
  have hsa : wa.heap.size = w.heap.size + 2 := by rw [← hwa]; simp
  obtain ⟨n0, n1, n2⟩ := cells3 hbm
  go_wp2_with fail
  refine (right_calls r c A N cap _).mono ?_
  rintro e w1 ⟨rfl, hB1⟩
  rw [HR.out]
  have hs1 := hB1.size
  have hbm1 := hbm.below hB1 hbm.lt
  have hbr1 := hbr.below hB1 hbr.lt
  have hBw1 := hBa.trans (hB1.mono (by omega))
  obtain ⟨l0, l1, l2⟩ := cells3 hbm1
  clear hwa hbm hbr hB1 hBa n0 n1 n2
  go_wp2_with fail
  refine (zeros_calls c r N HT.out (by omega) _).mono ?_
  rintro e w2 ⟨gz, rfl, z1, z2, hO, hB2⟩
  have hs2 := hB2.size
  have hbm2 := hbm1.below hB2 hbm1.lt
  have hbr2 := hbr1.below hB2 hbr1.lt
  have hBw2 := hBw1.trans (hB2.mono (by omega))
  obtain ⟨m0, m1, m2⟩ := cells3 (hbm2.alloc (.cells #[.int .i64 c, .int .i64 r, .slice (some ⟨gz, 0, none⟩) N N] 91))
  clear hbm1 hbr1 hB2 hBw1 l0 l1 l2
  go_wp2_with fail
  refine (all_calls r c N cap A (by omega) _).mono ?_
  rintro e W0 ⟨Bat, Bm, gi, rfl, a1, a2, a3, hV, hB0, a4⟩
  simp only [World.size_alloc] at a1 a2 a3
  have hbr0 : Block W0 (w.heap.size + 1) 91 #[.int .i64 0, .int .i64 0, .slice none 0 0] := (hbr2.alloc _).below hB0 (by simp; omega)
  have hbt0 : Block W0 w2.heap.size 91 #[.int .i64 c, .int .i64 r, .slice (some ⟨gz, 0, none⟩) N N] := (Block.new _ _ _).below hB0 (by simp)
  have hO0 : Own W0 w.heap.size 5 (.slice (some ⟨gz, 0, none⟩) N N) (bv (bs (List.replicate N 0))) := ((hO.more (by omega)).alloc _).below hB0
  have hBw : Below w.heap.size w W0 := (hBw2.alloc (by omega) _).trans (hB0.mono (by simp; omega))
  have hs0 := hB0.size
  simp only [World.size_alloc] at hs0
  have hN2 : ∀ k, k < r → (k + 1) * c ≤ N := fun k hk => by rw [HN.out]; exact Nat.mul_le_mul_right c (by omega)
  clear hO hB0 hbm2 hbr2 hBw2 m0 m1 m2
  go_wp2_with fail
  refine wpIn_wide.1 (wpIn_rows (n := 9) (by omega) (Bat := Bat) (Bm := Bm) (na := r) (ca := r) (c := c) (N := N) (cap := cap) (Aat := some ⟨gi, 0, none⟩) (A := A) (ats := List.range r) (R := r) (fun k => k) (by simp) (by omega) (fun k hk => List.getElem?_range hk)
    (by omega) hcap (by omega) (fun k hk => ⟨hN2 k hk, by omega⟩) rfl
    (fun k W => Vis W Bat Bm (some ⟨gi, 0, none⟩) r r (List.range r) r c A N cap ∧ Block W (w.heap.size + 1) 91 #[.int .i64 0, .int .i64 0, .slice none 0 0] ∧ Block W w2.heap.size 91 #[.int .i64 c, .int .i64 r, .slice (some ⟨gz, 0, none⟩) N N] ∧ Below w.heap.size w W ∧ ∃ t, IsM c r t (turnT s c k 0) ∧ Own W w.heap.size 5 (.slice (some ⟨gz, 0, none⟩) N N) (bv (bs t)))
    (fun _ _ => False)
    (fun k W W' ⟨h1, h2, h3, h4, s, h5, h6⟩ t => ⟨h1.turn t, t.block h2, t.block h3, h4.trans (t.below.mono (by omega)), s, h5, t.own h6⟩)
    (fun _ _ _ h _ => h)
    (fun k W h => h.1)
    ⟨hV, hbr0, hbt0, hBw, _, ⟨by rw [List.length_replicate]; exact HT.out.symm, fun i j _ _ => by rw [ent_replicate]; unfold turnT; rw [if_neg (by omega)]⟩, hO0⟩
    ?a1 ?assign ?body ?done (fun _ _ h => h.elim))
  case assign =>
    intro l k W K hk hK
    gi_wp2
    exact hK
  case body =>
    rintro l i W hi ⟨k1, k2, k3, k4, t, k5, k6⟩ hsz
    have HV := Lib.hid k1
    have HR2 := Lib.hid k2
    have HT2 := Lib.hid k3
    have HU := Lib.hid k4
    have HM := Lib.hid k5
    have HO := Lib.hid k6
    clear k1 k2 k3 k4 k5 k6
    gi_wp2
    gi_loopw [24] (fun ii wr => ∃ (j : Nat) (t : List F8), j ≤ c ∧ ii = .int .i64 j ∧ Hid (Vis wr Bat Bm (some ⟨gi, 0, none⟩) r r (List.range r) r c A N cap) ∧ Hid (Block wr (w.heap.size + 1) 91 #[.int .i64 0, .int .i64 0, .slice none 0 0]) ∧ Hid (Block wr w2.heap.size 91 #[.int .i64 c, .int .i64 r, .slice (some ⟨gz, 0, none⟩) N N]) ∧ Hid (Below w.heap.size w wr) ∧ Hid (IsM c r t (turnT s c i j)) ∧ Hid (Own wr w.heap.size 5 (.slice (some ⟨gz, 0, none⟩) N N) (bv (bs t))) ∧ Hid (KeepsFrom W0.heap.size W wr)) (fun ii _ => c - (intOf ii).toNat)
    case atStart => exact ⟨0, t, Nat.zero_le _, rfl, HV, HR2, HT2, HU, HM, HO, Lib.hid (keeps_below (Below.refl _ _))⟩
    case round =>
      clear HV HR2 HT2 HU HM HO
      obtain ⟨j, t, hj, rfl, HV, HR2, HT2, HU, HM, HO, HK⟩ := hrel
      by_cases hjc : j < c
      · have hx : i * c + j < s.length := by rw [HL.out, HN.out]; exact idx_lt hi hjc
        have hbw := HB.out.below HU.out
        obtain ⟨b, o, rfl⟩ := where_ hbw (by omega)
        have hcell := cellAt hbw _ hx
        have hxN := hN2 i hi
        have hlt : j * r + i < N := by rw [← HT.out]; exact idx_lt hjc hi
        have hjr : (j + 1) * r ≤ N := by rw [← HT.out]; exact Nat.mul_le_mul_right r (by omega)
        have htl : t.length = N := by rw [HM.out.len, HT.out]
        have HST := Lib.hid (turnT_step HM.out hi hjc)
        obtain ⟨l0, l1, l2⟩ := cells3 HT2.out
        rw [rowA_some _ _ _ _ (by omega)]
        have hy : coef s (i * c + j) = ent s c i j := rfl
        rw [hy, ← Nat.add_assoc] at hcell
        obtain ⟨y, hy⟩ : ∃ y, ent s c i j = y := ⟨_, rfl⟩
        rw [hy] at hcell HST
        obtain ⟨x, hx⟩ : ∃ x, i * c = x := ⟨_, rfl⟩
        rw [hx] at hcell ⊢
        clear hy hx hbw
        gi_wp2_with fail
        refine ⟨trivial, (callsIn_round (rowAt_laid c (some ⟨gz, 0, none⟩) N N j r (by omega) hjr (Nat.le_refl _) hr (by omega) _)).mono ?_⟩
        rintro e W2 ⟨rfl, ht⟩
        rw [rowA_some _ _ _ _ (by omega)]
        obtain ⟨z, hz⟩ : ∃ z, j * r = z := ⟨_, rfl⟩
        rw [hz] at hlt HST ⊢
        have hO2 := ht.own HO.out
        have hc2 := own_cell hO2 htl hlt
        have hf2 := own_frozen hO2 htl (z + i)
        have hO3 := Lib.hid (own_set (k := z + i) (x := y) hO2 htl)
        have hz2 := HU.out.size
        have htz := ht.size
        have gv : gz ≠ Bat ∧ gz ≠ Bm ∧ gz ≠ gi ∧ gz ≠ w.heap.size + 1 ∧ gz ≠ w2.heap.size ∧ w.heap.size ≤ gz := by omega
        have HV3 := Lib.hid ((HV.out.turn ht).keep (W' := W2.setCell ⟨gz, z + i, none⟩ (.int .u8 (y.n : Int))) (fun q hq e => Below.heap_setCell _ _ _ _ (by
          simp
          rcases e with rfl | rfl | ⟨a, ha, rfl⟩
          · omega
          · omega
          · cases ha; simp; omega)))
        have HR3 := Lib.hid ((ht.block HR2.out).far (p := ⟨gz, z + i, none⟩) (by simp; omega) (.int .u8 (y.n : Int)))
        have HT3 := Lib.hid ((ht.block HT2.out).far (p := ⟨gz, z + i, none⟩) (by simp; omega) (.int .u8 (y.n : Int)))
        have HU3 := Lib.hid ((HU.out.trans (ht.below.mono hz2)).setCell (p := ⟨gz, z + i, none⟩) gv.2.2.2.2.2 (.int .u8 (y.n : Int)))
        have HK3 : Hid (KeepsFrom W0.heap.size W (W2.setCell ⟨gz, z + i, none⟩ (.int .u8 (y.n : Int)))) := Lib.hid ((HK.out.trans (keeps_turn ht)).trans ((KeepsOthers.setCell _ _ _).from _))
        clear hz hO2 gv l0 l1 l2 hcell
        gi_wp2
        go_roundw
        case rel => exact ⟨j + 1, _, by omega, by go_num, HV3, HR3, HT3, HU3, HST, hO3, HK3⟩
        case measure => simp [intOf]; omega
      · obtain rfl : j = c := by omega
        gi_wp2
        exact ⟨HK.out, HV.out, HR2.out, HT2.out, HU.out, t, turnT_row HM.out, HO.out⟩
  case done =>
    rintro W ⟨k1, k2, k3, k4, t, k5, k6⟩ hD
    obtain ⟨l0, l1, l2⟩ := cells3 k3
    have c0 := k2.cell 0
    have c1 := k2.cell 1
    have c2 := k2.cell 2
    have f0 := k2.frozen 0
    have f1 := k2.frozen 1
    have f2 := k2.frozen 2
    go_wp2
    have hK := set3_other hD (show W0.heap.size ≠ w.heap.size + 1 by omega) (.int .i64 c) (.int .i64 r) (.slice (some ⟨gz, 0, none⟩) N N)
    refine ⟨by simp, .inl ⟨_, _, rfl, run_takeDeferred hK, ?_⟩⟩
    have ht : Turn w.heap.size (set3 W (w.heap.size + 1) (.int .i64 c) (.int .i64 r) (.slice (some ⟨gz, 0, none⟩) N N)) _ := Turn.put hK rfl (by omega) (.deferred none)
    obtain ⟨r0, r1, r2⟩ := cells3 (ht.block (block_set3_self k2 (.int .i64 c) (.int .i64 r) (.slice (some ⟨gz, 0, none⟩) N N)))
    have e : t = flat c r (tr (ent s c)) := k5.only (isM_flat c r _) (fun a b ha hb => by unfold turnT tr; rw [if_pos (.inl hb)])
    refine ⟨.tuple #[.agg #[.int .i64 c, .int .i64 r, .slice (some ⟨gz, 0, none⟩) N N], .int .i64 0], ?_, some ⟨gz, 0, none⟩, N, ?_, ?_, ?_, ?_⟩
    · unfold set3 at r0 r1 r2
      simp [results, Tryz.results147, go_sem, r0, r1, r2]
    · rw [flat_length, HT.out]
    · rw [flat_length, HT.out]; exact Nat.le_refl _
    · rw [flat_length, HT.out, ← e]
      exact ht.own (own_set3 k6 (by simp [Value.ownBlock]; omega) _ _ _)
    · exact (below_set3 k4 (by omega) _ _ _).trans ht.below
end Go.Proofs.YtiapokojlkdddaaGreat.Mat

/- What the program's Solve does, in one; Inverse. -/
namespace Go.Proofs.YtiapokojlkdddaaGreat.Mat
open Go.RowKit Go.Shelf F8 Poly GF
attribute [local go_sem] Oper.semAt_some

theorem past_rb {w w5 w' : World} {pf : Option Addr} (hw : w.heap.size ≤ w5.heap.size) (h : Past w5.heap.size (rb w5 pf) w5 w') : Past w.heap.size (rb w pf) w5 w' := by
  cases pf with
  | none => exact Past.of_below ((h.below (Nat.le_refl _)).mono hw) _
  | some a => exact h.mono hw
theorem Sol.congr {r n q : Nat} {a a' b b' X : Nat → Nat → F8} (h : Sol r n q a b X) (ha : ∀ i j, i < r → j < n → a i j = a' i j) (hb : ∀ i k, i < r → k < q → b i k = b' i k) : Sol r n q a' b' X :=
  ⟨fun x hx => h.ker x ((ker_congr x ha).2 hx), fun i k hi hk => by rw [← hb i k hi hk, ← h.eq i k hi hk]; exact mulF_congr (fun j hj => (ha i j hi hj).symm) (fun _ _ => rfl)⟩
/-- What Solve gives, whichever it is. -/
def SolAny (r n q : Nat) (s t : List F8) (rr cc : Nat) (u : List F8) (k : Int) : Prop :=
  (∃ X, Sol r n q (ent s n) (ent t q) X ∧ rr = n ∧ cc = q ∧ u = flat n q X ∧ k = 0) ∨ ((¬ ∃ X, Sol r n q (ent s n) (ent t q) X) ∧ rr = 0 ∧ cc = 0 ∧ u = [] ∧ k = 51)
theorem solve_calls (pf : Option Addr) (r n q N1 N2 c1 c2 : Nat) (A B : Option Addr) (s t : List F8) (hr : r ≤ 65536) (hn : n ≤ 65536) (hq : q ≤ 65536) (hN1 : r * n = N1) (hN2 : r * q = N2) (hc1 : N1 ≤ c1) (hc2 : N2 ≤ c2) (hl1 : s.length = N1) (hl2 : t.length = N2) (hbig : N1 + N2 ≤ 1000000000) (w : World) (hb1 : Bytes w A (bs s)) (hb2 : Bytes w B (bs t)) (hf : FldP w pf) :
    Calls Tryz.prog 148 #[.pointer pf, .agg #[.int .i64 r, .int .i64 n, .slice A N1 c1], .agg #[.int .i64 r, .int .i64 q, .slice B N2 c2]] w fun e w' => ∃ (rr cc : Nat) (u : List F8) (k : Int), SolAny r n q s t rr cc u k ∧ MatResF pf w w' e rr cc u k := by
  by_cases h : r < n
  · refine (solve_wide pf r n q N1 N2 c1 c2 A B hr hn hq hN1 hN2 h w).mono ?_
    rintro e w' ⟨A', c', h1, h2, h3, h4⟩
    exact ⟨0, 0, [], 51, .inr ⟨fun ⟨X, hX⟩ => by have := sol_wide hX; omega, rfl, rfl, rfl, rfl⟩, A', c', h1, h2, h3, hf.below h4, Past.of_below h4 _⟩
  · refine (solve_tall pf r n q N1 N2 c1 c2 A B s t hr hn hq hN1 hN2 hc1 hc2 hl1 hl2 hbig (by omega) w hb1 hb2 hf).mono ?_
    rintro e w' (⟨X, hX, hm⟩ | ⟨hX, hm⟩)
    · exact ⟨n, q, _, 0, .inl ⟨X, hX, rfl, rfl, rfl, rfl⟩, hm⟩
    · exact ⟨0, 0, [], 51, .inr ⟨hX, rfl, rfl, rfl, rfl⟩, hm⟩
end Go.Proofs.YtiapokojlkdddaaGreat.Mat

/- The equations of the program's locator, as lists. -/
namespace Go.Proofs.YtiapokojlkdddaaGreat.Wl
open F8 Poly Rd
open Mat (sum sum_congr mulF Sol KerT Ker app ent flat IsM tr)

/-- The rows of the equations' transpose, one after the other. -/
def rowsL (P : Nat → List F8) (m size : Nat) : Nat → List F8
  | 0 => []
  | i + 1 => rowsL P m size i ++ up (P i) m size
theorem rowsL_length (P : Nat → List F8) (m size : Nat) : ∀ i, (rowsL P m size i).length = i * (m - size)
  | 0 => by simp [rowsL]
  | i + 1 => by rw [rowsL, List.length_append, rowsL_length P m size i, up_length, Nat.succ_mul]
theorem rowsL_isM {P : Nat → List F8} {m size : Nat} (hP : ∀ i, (P i).length ≤ m) : ∀ i, IsM i (m - size) (rowsL P m size i) (fun a b => coef (P a) (size + b))
  | 0 => ⟨by simp [rowsL], fun a b ha => by omega⟩
  | i + 1 => by
    have ih := rowsL_isM (size := size) hP i
    refine ⟨rowsL_length P m size (i + 1), fun a b ha hb => ?_⟩
    rcases Nat.lt_or_ge a i with h | h
    · rw [rowsL, Mat.ent_app_lo (rowsL_length P m size i) h hb]
      exact ih.ent a b h hb
    · obtain rfl : a = i := by omega
      rw [rowsL, Mat.ent_app_hi (rowsL_length P m size a), coef_up (hP a)]
theorem prt_exists {xs ys : List F8} (hn : xs.Nodup) (hl : xs.length = ys.length) (i : Nat) : ∃ p, Prt xs ys i p := by
  obtain ⟨m, h1, h2⟩ := msg_of xs (tw xs ys i) hn (by rw [tw_length hl])
  exact ⟨trim m, thru_of (by omega) h2⟩
theorem prts {xs ys : List F8} (hn : xs.Nodup) (hl : xs.length = ys.length) : ∃ P : Nat → List F8, ∀ i, Prt xs ys i (P i) :=
  ⟨fun i => Classical.choose (prt_exists hn hl i), fun i => Classical.choose_spec (prt_exists hn hl i)⟩
theorem prt_only {xs ys p q : List F8} {i : Nat} (hn : xs.Nodup) (hl : xs.length = ys.length) (h : Prt xs ys i p) (h' : Prt xs ys i q) : p = q := Thru.only hn (by rw [tw_length hl]) h h'
/-- What the solution tells. -/
theorem loc_solve {xs ys u : List F8} {k count m rr cc : Nat} {kk : Int} {P : Nat → List F8} (hn : xs.Nodup) (hx : xs.length = m) (hl : xs.length = ys.length) (hP : ∀ i, Prt xs ys i (P i)) (hk : k + 2 * count ≤ m)
    (h : Mat.SolAny (m - (k + count)) count 1 (flat (m - (k + count)) count (tr (ent (rowsL P m (k + count) count) (m - (k + count))))) (up (P count) m (k + count)) rr cc u kk) :
    (kk = 0 ∧ rr = count ∧ cc = 1 ∧ u.length = count ∧ LocIs xs ys k count (u ++ [1])) ∨ (kk = 51 ∧ rr = 0 ∧ cc = 0 ∧ u = [] ∧ ∀ m : List F8, m.length = k → wr m xs ys ≠ count) := by
  have hlen : ∀ i, (P i).length ≤ m := fun i => hx ▸ prt_len (hP i)
  have hM := rowsL_isM (size := k + count) hlen count
  have e1 : ∀ i j, i < m - (k + count) → j < count → ent (flat (m - (k + count)) count (tr (ent (rowsL P m (k + count) count) (m - (k + count))))) count i j = coef (P j) (k + count + i) := fun i j hi hj => by
    rw [Mat.ent_flat hi hj]
    exact hM.ent j i hj hi
  have e2 : ∀ i j, i < m - (k + count) → j < 1 → ent (up (P count) m (k + count)) 1 i j = coef (P count) (k + count + i) := fun i j _ hj => by
    obtain rfl : j = 0 := by omega
    unfold ent
    rw [coef_up (hlen count)]
    congr 1
    omega
  rcases h with ⟨X, hX, rfl, rfl, rfl, rfl⟩ | ⟨hno, rfl, rfl, rfl, rfl⟩
  · refine .inl ⟨rfl, rfl, rfl, by rw [Mat.flat_length, Nat.mul_one], ?_⟩
    have h2 := hX.congr e1 e2
    have hf : flat rr 1 X = (List.range rr).map fun j => X j 0 := by
      unfold flat
      rw [Nat.mul_one]
      exact List.map_congr_left fun j _ => by rw [Nat.div_one, Nat.mod_one]
    rw [hf]
    exact loc_of hn hx hl (fun i _ => hP i) hk h2
  · refine .inr ⟨rfl, rfl, rfl, rfl, loc_none hn hx hl (fun i _ => hP i) hk fun ⟨X, h2⟩ => hno ⟨X, h2.congr (fun i j hi hj => (e1 i j hi hj).symm) (fun i j hi hj => (e2 i j hi hj).symm)⟩⟩
end Go.Proofs.YtiapokojlkdddaaGreat.Wl
