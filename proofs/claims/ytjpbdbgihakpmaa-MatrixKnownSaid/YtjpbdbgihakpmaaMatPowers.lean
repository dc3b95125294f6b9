/- What the program's Powers does. -/
import Derived.Test.YtjpbdbgihakpmaaMatReduce
namespace Go.Proofs.Ytjpbdbgihakpmaa.Mat
open Go.RowKit Go.Shelf F8 Poly GF
attribute [local go_sem] Oper.semAt_some

/-- A power of an element. -/
def pw (x : F8) : Nat → F8
  | 0 => 1
  | k + 1 => pw x k * x
/-- The powers of some elements. -/
def powF (xs : List F8) (i j : Nat) : F8 := pw (coef xs i) j
/-- The powers of some elements, the rows ahead of i done, and j elements of that. -/
def powT (xs : List F8) (i j a b : Nat) : F8 := if a < i ∨ (a = i ∧ b < j) then powF xs a b else 0
theorem powT_step {m n i j : Nat} {xs t : List F8} (h : IsM m n t (powT xs i j)) (hi : i < m) (hj : j < n) : IsM m n (t.set (i * n + j) (pw (coef xs i) j)) (powT xs i (j + 1)) := by
  refine ⟨by rw [List.length_set, h.len], fun a b ha hb => ?_⟩
  rw [ent_set h.len hi hj _ _ _ hb]
  unfold powT
  by_cases e : a = i ∧ b = j
  · rw [if_pos e, if_pos (by omega), e.1, e.2]; rfl
  · rw [if_neg e, h.ent a b ha hb]
    unfold powT
    by_cases e2 : a < i ∨ (a = i ∧ b < j)
    · rw [if_pos e2, if_pos (by omega)]
    · rw [if_neg e2, if_neg (by omega)]
theorem powT_row {m n i : Nat} {xs t : List F8} (h : IsM m n t (powT xs i n)) : IsM m n t (powT xs (i + 1) 0) :=
  h.congr fun a b ha hb => by
    unfold powT
    by_cases e2 : a < i ∨ (a = i ∧ b < n)
    · rw [if_pos e2, if_pos (by omega)]
    · rw [if_neg e2, if_neg (by omega)]
/-- What Powers gives. -/
def PowRes (pf : Option Addr) (r c : Nat) (s : List F8) (w : World) (e : Ending) (w' : World) : Prop :=
  ∃ A cap, e = .returned (.agg #[.int .i64 r, .int .i64 c, .slice A s.length cap]) ∧ s.length ≤ cap ∧ Own w' w.heap.size 5 (.slice A s.length cap) (bv (bs s)) ∧ FldP w' pf ∧ Past w.heap.size (rb w pf) w w'

theorem n_one'' : ((1 : F8).n : Int) = 1 := rfl
set_option maxRecDepth 100000 in
set_option maxHeartbeats 4000000 in
theorem powers_calls (pf A : Option Addr) (xs : List F8) (m n cap : Nat) (hl : xs.length = m) (hm : m ≤ 65536) (hn : n ≤ 65536) (hmn : m * n ≤ 16777216) (w : World) (hb : Bytes w A (bs xs)) (hfar : Far pf A xs) (hf : FldP w pf) :
    Calls Try.prog 61 #[.pointer pf, .slice A m cap, .int .i64 n] w (PowRes pf m n (flat m n (powF xs)) w) := by
  have HB := Lib.hid hb
  have HL := Lib.hid hl
  have HFar := Lib.hid hfar
  have HF := Lib.hid hf
  obtain ⟨N, hN⟩ : ∃ N, m * n = N := ⟨_, rfl⟩
  rw [hN] at hmn
  have HN := Lib.hid hN
  have g1 : decide ((m : Int) > 65536) = false := by simp; omega
  have g2 : decide (((N : Nat) : Int) > 16777216) = false := by simp; omega
  have hside : sideB n = true := sideB_true hn
  have harea : ∀ V, Calls Try.prog 68 #[.int .i64 m, .int .i64 n] V fun e w' => e = .returned (.int .i64 (N : Nat)) ∧ w' = V := fun V => by
    rw [← HN.out]
    exact (area_nat m n (by rw [HN.out]; omega) V).mono fun _ _ h => ⟨h.1, h.2.symm⟩
  have hmx : Try.prog.follows .mixedOrders = true := by kernel_rfl
  clear hb hl hfar hf hN
  refine (callsIn_wide (n := 9)).1 (callsIn_of_wp_marks Try.func61 rfl trivial ?_ rfl)
  simp only [Try.ntmps61, List.size_toArray, List.length_cons, List.length_nil, Nat.reduceAdd, Nat.reduceSub, Array.replicate_succ, Array.replicate_zero, List.push_toArray, List.append_toArray, List.nil_append, List.cons_append]
  refine wpIn_wide.2 ?_
  obtain ⟨wa, hwa⟩ : ∃ wa, ((w.alloc (.cells #[.pointer pf] 40)).alloc (.cells #[.slice A m cap] 22)).alloc (.cells #[.int .i64 0, .int .i64 0, .slice none 0 0] 24) = wa := ⟨_, rfl⟩
  have hbf : Block wa w.heap.size 40 #[.pointer pf] := by rw [← hwa]; exact ((Block.new _ _ _).alloc _).alloc _
  have hbx : Block wa (w.heap.size + 1) 22 #[.slice A m cap] := by
    rw [← hwa]
    have := Block.new (w.alloc (.cells #[.pointer pf] 40)) 22 #[.slice A m cap]
    rw [World.size_alloc] at this
    exact this.alloc _
  have hbr : Block wa (w.heap.size + 2) 24 #[.int .i64 0, .int .i64 0, .slice none 0 0] := by
    rw [← hwa]
    have := Block.new ((w.alloc (.cells #[.pointer pf] 40)).alloc (.cells #[.slice A m cap] 22)) 24 #[.int .i64 0, .int .i64 0, .slice none 0 0]
    rwa [World.size_alloc, World.size_alloc] at this
  have hBa : Below w.heap.size w wa := by rw [← hwa]; exact (((Below.refl _ w).alloc (Nat.le_refl _) _).alloc (by simp) _).alloc (by simp; omega) _
  have hsa : wa.heap.size = w.heap.size + 3 := by rw [← hwa]; simp
  have x0 := hbx.cell 0
  have y0 := hbf.cell 0
  go_wp2_with fail
  refine (isSide_calls n _).mono ?_
  rintro e w1 ⟨rfl, rfl⟩
  rw [hside]
  go_wp2_with fail
  refine (harea _).mono ?_
  rintro e w1 ⟨rfl, rfl⟩
  go_wp2_with fail
  refine (orNew_f pf w w1 HF.out hBa).mono ?_
  rintro e w2 ⟨gf, rfl, hg, hF2, hB2⟩
  have hs2 := hB2.size
  have hgf0 : w.heap.size ≠ gf := hg.ne (Nat.le_refl _) (by omega)
  have hgfr : w.heap.size + 2 ≠ gf := hg.ne (by omega) (by omega)
  have hbf2 := hbf.below hB2 hbf.lt
  have hbx2 := hbx.below hB2 hbx.lt
  have hbr2 := hbr.below hB2 hbr.lt
  have hBw2 := hBa.trans (hB2.mono (by omega))
  have z0 := hbf2.frozen 0
  obtain ⟨w3, hw3⟩ : ∃ w3, w2.setCell ⟨w.heap.size, 0, none⟩ (.pointer (some ⟨gf, 0, none⟩)) = w3 := ⟨_, rfl⟩
  have hbf3 : Block w3 w.heap.size 40 #[.pointer (some ⟨gf, 0, none⟩)] := by rw [← hw3]; simpa using hbf2.set_ 0 (.pointer (some ⟨gf, 0, none⟩))
  have hbx3 : Block w3 (w.heap.size + 1) 22 #[.slice A m cap] := by rw [← hw3]; exact hbx2.far (p := ⟨w.heap.size, 0, none⟩) (by simp) _
  have hbr3 : Block w3 (w.heap.size + 2) 24 #[.int .i64 0, .int .i64 0, .slice none 0 0] := by rw [← hw3]; exact hbr2.far (p := ⟨w.heap.size, 0, none⟩) (by simp) _
  have hF3 : Fld w3 gf := by rw [← hw3]; exact hF2.imp (fun h => h.far (p := ⟨w.heap.size, 0, none⟩) (Ne.symm hgf0) _) (fun h => h.far (p := ⟨w.heap.size, 0, none⟩) (Ne.symm hgf0) _)
  have hBw3 : Below w.heap.size w w3 := by rw [← hw3]; exact hBw2.setCell (p := ⟨w.heap.size, 0, none⟩) (Nat.le_refl _) _
  have hs3 : w3.heap.size = w2.heap.size := by rw [← hw3]; simp [World.setCell]
  have x3 := hbx3.cell 0
  have y2 := hbf2.cell 0
  clear hbf hbx hbr hBa hwa x0 y0 hB2 hbf2 hbx2 hbr2 hBw2 hF2
  go_wp2_with fail
  clear x3 y2 z0 hw3
  refine (zeros_calls m n N HN.out (by omega) _).mono ?_
  rintro e w4 ⟨gz, rfl, z1, z2, hO, hB4⟩
  have hs4 := hB4.size
  have hbf4 := hbf3.below hB4 hbf3.lt
  have hbx4 := hbx3.below hB4 hbx3.lt
  have hbr4 := hbr3.below hB4 hbr3.lt
  have hF4 := hF3.below hB4 hF3.lt
  have hBw4 := hBw3.trans (hB4.mono (by omega))
  clear hbf3 hbx3 hbr3 hF3 hBw3 hB4
  go_wp2_with fail
  refine (all_calls m n N N (some ⟨gz, 0, none⟩) (by omega) _).mono ?_
  rintro e W0 ⟨Bat, Bm, gi, rfl, a1, a2, a3, hV, hB0, a4⟩
  simp only [World.size_alloc] at a1 a2 a3
  have hbf0 := (hbf4.alloc (.cells #[.int .i64 m, .int .i64 n, .slice (some ⟨gz, 0, none⟩) N N] 24)).below hB0 (by simp; have := hbf4.lt; omega)
  have hbx0 := (hbx4.alloc (.cells #[.int .i64 m, .int .i64 n, .slice (some ⟨gz, 0, none⟩) N N] 24)).below hB0 (by simp; have := hbx4.lt; omega)
  have hbr0 := (hbr4.alloc (.cells #[.int .i64 m, .int .i64 n, .slice (some ⟨gz, 0, none⟩) N N] 24)).below hB0 (by simp; have := hbr4.lt; omega)
  have hbo0 : Block W0 w4.heap.size 24 #[.int .i64 m, .int .i64 n, .slice (some ⟨gz, 0, none⟩) N N] := (Block.new _ _ _).below hB0 (by simp)
  have hO0 : Own W0 w.heap.size 5 (.slice (some ⟨gz, 0, none⟩) N N) (bv (bs (List.replicate N 0))) := ((hO.more (by omega)).alloc _).below hB0
  have hF0 := (hF4.alloc (.cells #[.int .i64 m, .int .i64 n, .slice (some ⟨gz, 0, none⟩) N N] 24)).below hB0 (by simp; have := hF4.lt; omega)
  have hBw : Below w.heap.size w W0 := (hBw4.alloc (by omega) _).trans (hB0.mono (by simp; omega))
  have hs0 := hB0.size
  simp only [World.size_alloc] at hs0
  have hgz := Fld.ne_own hF0 (by decide) hO0
  have hgp : w4.heap.size ≠ gf := fun e => Fld.ne_block hF0 hbo0 (by decide) e.symm
  have hgx : w.heap.size + 1 ≠ gf := hg.ne (by omega) (by omega)
  have hN2 : ∀ k, k < m → (k + 1) * n ≤ N := fun k hk => by rw [← HN.out]; exact Nat.mul_le_mul_right n (by omega)
  have hfa := hg.far (by omega) HFar.out HB.out
  have hVf : Bat ≠ gf ∧ Bm ≠ gf ∧ gi ≠ gf := by
    have := hF4.lt
    omega
  clear hbf4 hbx4 hbr4 hF4 hBw4 hB0 hO
  go_wp2_with fail
  refine wpIn_wide.1 (wpIn_rows (n := 9) (by omega) (Bat := Bat) (Bm := Bm) (na := m) (ca := m) (c := n) (N := N) (cap := N) (Aat := some ⟨gi, 0, none⟩) (A := some ⟨gz, 0, none⟩) (ats := List.range m) (R := m) (fun k => k) (by simp) (by omega) (fun k hk => List.getElem?_range hk)
    (by omega) (Nat.le_refl _) (by omega) (fun k hk => ⟨hN2 k hk, by omega⟩) rfl
    (fun k W => Vis W Bat Bm (some ⟨gi, 0, none⟩) m m (List.range m) m n (some ⟨gz, 0, none⟩) N N ∧ Block W (w.heap.size + 2) 24 #[.int .i64 0, .int .i64 0, .slice none 0 0] ∧ Block W w.heap.size 40 #[.pointer (some ⟨gf, 0, none⟩)] ∧ Block W (w.heap.size + 1) 22 #[.slice A m cap] ∧ Block W w4.heap.size 24 #[.int .i64 m, .int .i64 n, .slice (some ⟨gz, 0, none⟩) N N] ∧ Past w.heap.size gf w W ∧ Fld W gf ∧ ∃ t, IsM m n t (powT xs k 0) ∧ Own W w.heap.size 5 (.slice (some ⟨gz, 0, none⟩) N N) (bv (bs t)))
    (fun _ _ => False)
    (fun k W W' ⟨h1, h2, h3, h4, h5, h6, h7, s, h8, h9⟩ t => ⟨h1.turn t, t.block h2, t.block h3, t.block h4, t.block h5, t.past h6 (by omega), h7.imp t.block t.block, s, h8, t.own h9⟩)
    (fun _ _ _ h _ => h)
    (fun k W h => h.1)
    ⟨hV, hbr0, hbf0, hbx0, hbo0, Past.of_below hBw gf, hF0, _, ⟨by rw [List.length_replicate]; exact HN.out.symm, fun i j _ _ => by rw [ent_replicate]; unfold powT; rw [if_neg (by omega)]⟩, hO0⟩
    ?a1 ?assign ?body ?done (fun _ _ h => h.elim))
  case assign =>
    intro l k W K hk hK
    gi_wp2
    exact hK
  case body =>
    rintro l i W hi ⟨k1, k2, k3, k4, k5, k6, k7, t, k8, k9⟩ hsz
    have HV := Lib.hid k1
    have HR := Lib.hid k2
    have HBf := Lib.hid k3
    have HBx := Lib.hid k4
    have HBo := Lib.hid k5
    have HU := Lib.hid k6
    have HFd := Lib.hid k7
    have HT := Lib.hid k8
    have HO := Lib.hid k9
    clear k1 k2 k3 k4 k5 k6 k7 k8 k9
    obtain ⟨x, hx⟩ : ∃ x, i * n = x := ⟨_, rfl⟩
    have HX := Lib.hid hx
    rw [hx]
    clear hx
    obtain ⟨RA, hRA⟩ : ∃ RA, rowA (some ⟨gz, 0, none⟩) x n = RA := ⟨_, rfl⟩
    rw [hRA]
    have HRA := Lib.hid hRA
    clear hRA
    gi_wp2
    have hil : i < xs.length := by rw [HL.out]; exact hi
    gi_loopw [10, 37] (fun pv ii wr => ∃ (j : Nat) (t : List F8), j ≤ n ∧ pv = .int .u8 ((pw (coef xs i) j).n : Int) ∧ ii = .int .i64 j ∧ Hid (Vis wr Bat Bm (some ⟨gi, 0, none⟩) m m (List.range m) m n (some ⟨gz, 0, none⟩) N N) ∧ Hid (Block wr (w.heap.size + 2) 24 #[.int .i64 0, .int .i64 0, .slice none 0 0]) ∧ Hid (Block wr w.heap.size 40 #[.pointer (some ⟨gf, 0, none⟩)]) ∧ Hid (Block wr (w.heap.size + 1) 22 #[.slice A m cap]) ∧ Hid (Block wr w4.heap.size 24 #[.int .i64 m, .int .i64 n, .slice (some ⟨gz, 0, none⟩) N N]) ∧ Hid (Past w.heap.size gf w wr) ∧ Hid (Fld wr gf) ∧ Hid (IsM m n t (powT xs i j)) ∧ Hid (Own wr w.heap.size 5 (.slice (some ⟨gz, 0, none⟩) N N) (bv (bs t))) ∧ Hid (KeepsFrom W0.heap.size W wr)) (fun _ ii _ => n - (intOf ii).toNat)
    case atStart => exact ⟨0, t, Nat.zero_le _, by unfold pw; rw [n_one''], rfl, HV, HR, HBf, HBx, HBo, HU, HFd, HT, HO, Lib.hid (keeps_below (Below.refl _ _))⟩
    case round =>
      clear HV HR HBf HBx HBo HU HFd HT HO
      obtain ⟨j, t, hj, rfl, rfl, HV, HR, HBf, HBx, HBo, HU, HFd, HT, HO, HK⟩ := hrel
      by_cases hjn : j < n
      · have hbw := bytes_far HB.out (fun hp a ha => (hfa hp a ha).1) HU.out
        have hne : xs ≠ [] := by rintro rfl; simp at hil
        obtain ⟨b, o, rfl⟩ := where_ hbw (by omega)
        have hcell := cellAt hbw _ hil
        have hbA := hfa hne _ rfl
        have hlt : i * n + j < N := by rw [← HN.out]; exact idx_lt hi hjn
        have htl : t.length = N := by rw [HT.out.len, HN.out]
        have HST := Lib.hid (powT_step HT.out hi hjn)
        have HPW : Hid (pw (coef xs i) j * coef xs i = pw (coef xs i) (j + 1)) := Lib.hid rfl
        obtain rfl : RA = some ⟨gz, x, none⟩ := by rw [← HRA.out, rowA_some _ _ _ _ (by omega), Nat.zero_add]
        rw [HX.out] at hlt HST
        obtain ⟨p, hp⟩ : ∃ p, pw (coef xs i) j = p := ⟨_, rfl⟩
        obtain ⟨y, hy⟩ : ∃ y, coef xs i = y := ⟨_, rfl⟩
        rw [hp] at HST HPW ⊢
        rw [hy] at hcell
        have HP := Lib.hid hp
        have HY := Lib.hid hy
        have hc := own_cell HO.out htl hlt
        have hf := own_frozen HO.out htl (x + j)
        have HO2 := Lib.hid (own_set (k := x + j) (x := p) HO.out htl)
        have hwr := HU.out.size
        obtain ⟨W2, hW2⟩ : ∃ W2, wr.setCell ⟨gz, x + j, none⟩ (.int .u8 (p.n : Int)) = W2 := ⟨_, rfl⟩
        have HV2 : Hid (Vis W2 Bat Bm (some ⟨gi, 0, none⟩) m m (List.range m) m n (some ⟨gz, 0, none⟩) N N) := Lib.hid (by
          rw [← hW2]
          exact HV.out.keep (fun q hq e => Below.heap_setCell _ _ _ _ (by
            simp
            rcases e with rfl | rfl | ⟨a, ha, rfl⟩
            · omega
            · omega
            · cases ha; simp; omega)))
        have HR2 : Hid (Block W2 (w.heap.size + 2) 24 #[.int .i64 0, .int .i64 0, .slice none 0 0]) := Lib.hid (by rw [← hW2]; exact HR.out.far (p := ⟨gz, x + j, none⟩) (by simp; omega) _)
        have HBf2 : Hid (Block W2 w.heap.size 40 #[.pointer (some ⟨gf, 0, none⟩)]) := Lib.hid (by rw [← hW2]; exact HBf.out.far (p := ⟨gz, x + j, none⟩) (by simp; omega) _)
        have HBx2 : Hid (Block W2 (w.heap.size + 1) 22 #[.slice (some ⟨b, o, none⟩) m cap]) := Lib.hid (by rw [← hW2]; exact HBx.out.far (p := ⟨gz, x + j, none⟩) (by simp; omega) _)
        have HBo2 : Hid (Block W2 w4.heap.size 24 #[.int .i64 m, .int .i64 n, .slice (some ⟨gz, 0, none⟩) N N]) := Lib.hid (by rw [← hW2]; exact HBo.out.far (p := ⟨gz, x + j, none⟩) (by simp; omega) _)
        have HF2 : Hid (Fld W2 gf) := Lib.hid (by rw [← hW2]; exact HFd.out.imp (fun h => h.far (p := ⟨gz, x + j, none⟩) hgz _) (fun h => h.far (p := ⟨gz, x + j, none⟩) hgz _))
        have HU2 : Hid (Past w.heap.size gf w W2) := Lib.hid (by rw [← hW2]; exact HU.out.setCell (p := ⟨gz, x + j, none⟩) (.inr (by simp; omega)) _)
        have HO3 : Hid (Own W2 w.heap.size 5 (.slice (some ⟨gz, 0, none⟩) N N) (bv (bs (t.set (x + j) p)))) := Lib.hid (by rw [← hW2]; exact HO2.out)
        have HK2 : Hid (KeepsFrom W0.heap.size W W2) := Lib.hid (by rw [← hW2]; exact HK.out.trans ((KeepsOthers.setCell _ _ _).from _))
        have hc2 : W2.cell? ⟨b, o + i, none⟩ = some (.int .u8 (y.n : Int)) := by
          rw [← hW2, ← hcell]
          exact World.cell?_of_block (Below.heap_setCell _ _ _ _ (by have := hbA.2; simp at this ⊢; omega))
        obtain ⟨S, hSdef⟩ : ∃ S : World → Prop, S = fun V => V.cell? ⟨w.heap.size, 0, none⟩ = some (.pointer (some ⟨gf, 0, none⟩)) ∧ V.cell? ⟨w.heap.size + 1, 0, none⟩ = some (.slice (some ⟨b, o, none⟩) m cap) ∧ V.cell? ⟨b, o + i, none⟩ = some (.int .u8 (y.n : Int)) := ⟨_, rfl⟩
        have hSi : ∀ V, Block V w.heap.size 40 #[.pointer (some ⟨gf, 0, none⟩)] → Block V (w.heap.size + 1) 22 #[.slice (some ⟨b, o, none⟩) m cap] → V.cell? ⟨b, o + i, none⟩ = some (.int .u8 (y.n : Int)) → S V := fun V h1 h2 h3 => by rw [hSdef]; exact ⟨h1.cell 0, h2.cell 0, h3⟩
        have hSc : ∀ V, S V → V.cell? ⟨w.heap.size, 0, none⟩ = some (.pointer (some ⟨gf, 0, none⟩)) ∧ V.cell? ⟨w.heap.size + 1, 0, none⟩ = some (.slice (some ⟨b, o, none⟩) m cap) ∧ V.cell? ⟨b, o + i, none⟩ = some (.int .u8 (y.n : Int)) := fun V hV => by rw [hSdef] at hV; exact hV
        have hS0 : S W2.drew := hSi _ HBf2.out.drew HBx2.out.drew hc2
        have hszW2 : W2.heap.size = wr.heap.size := by rw [← hW2]; simp [World.setCell]
        clear hSdef hp hy hbw HO2 HO hcell HV HR HBf HBx HBo HFd HU HK
        gi_wp2_with fail
        refine region_round_held (S := S) hmx (by kernel_rfl) (fun h => by obtain ⟨a, w, h⟩ := h; exact h) hS0 (fun hS0 => ?_)
        refine wpAnyH_takeD (i := 0) (some 44) (.pointer (some ⟨gf, 0, none⟩)) rfl rfl (by kernel_rfl) (by kernel_rfl) (by kernel_rfl) (fun _ _ _ h => h) (Or.inl ⟨by kernel_rfl, fun W hW => by obtain ⟨s1, s2, s3⟩ := hSc W hW; go_simp⟩) hS0 ?_
        simp only [Act.put, List.setIfInBounds_toArray, List.set_cons_zero, List.set_cons_succ]
        refine wpAnyH_takeD (i := 1) (some 45) (.int .u8 (p.n : Int)) rfl rfl (by kernel_rfl) (by kernel_rfl) (by kernel_rfl) (fun _ _ _ h => h) (Or.inl ⟨by kernel_rfl, fun W hW => by go_simp⟩) hS0 ?_
        simp only [Act.put, List.setIfInBounds_toArray, List.set_cons_zero, List.set_cons_succ]
        refine wpAnyH_takeD (i := 2) (some 46) (.slice (some ⟨b, o, none⟩) m cap) rfl rfl (by kernel_rfl) (by kernel_rfl) (by kernel_rfl) (fun _ _ _ h => h) (Or.inl ⟨by kernel_rfl, fun W hW => by obtain ⟨s1, s2, s3⟩ := hSc W hW; go_simp⟩) hS0 ?_
        simp only [Act.put, List.setIfInBounds_toArray, List.set_cons_zero, List.set_cons_succ]
        refine wpAnyH_takeD (i := 3) (some 47) (.int .i64 (i : Int)) rfl rfl (by kernel_rfl) (by kernel_rfl) (by kernel_rfl) (fun _ _ _ h => h) (Or.inl ⟨by kernel_rfl, fun W hW => by go_simp⟩) hS0 ?_
        simp only [Act.put, List.setIfInBounds_toArray, List.set_cons_zero, List.set_cons_succ]
        refine wpAnyH_takeD (i := 4) (some 48) (.pointer (some ⟨b, o + i, none⟩)) rfl rfl (by kernel_rfl) (by kernel_rfl) (by kernel_rfl) (fun _ _ _ h => h) (Or.inl ⟨by kernel_rfl, fun W hW => by go_simp⟩) hS0 ?_
        simp only [Act.put, List.setIfInBounds_toArray, List.set_cons_zero, List.set_cons_succ]
        refine wpAnyH_takeD (i := 5) (some 49) (.int .u8 (y.n : Int)) rfl rfl (by kernel_rfl) (by kernel_rfl) (by kernel_rfl) (fun _ _ _ h => h) (Or.inl ⟨by kernel_rfl, fun W hW => by obtain ⟨s1, s2, s3⟩ := hSc W hW; go_simp⟩) hS0 ?_
        simp only [Act.put, List.setIfInBounds_toArray, List.set_cons_zero, List.set_cons_succ]
        refine wpAnyH_one (i := 6) (by kernel_rfl) rfl (by kernel_rfl) ?_
        go_simp
        refine (mul_f gf p y _ (HF2.out.imp (fun h => h.drew) (fun h => h.drew))).mono ?_
        rintro e W3 ⟨rfl, hF3, hP3⟩
        have hszw := HU2.out.size
        have HBf3 : Hid (Block W3 w.heap.size 40 #[.pointer (some ⟨gf, 0, none⟩)]) := Lib.hid ((hP3.block _ HBf2.out.lt hgf0).trans HBf2.out)
        have HBx3 : Hid (Block W3 (w.heap.size + 1) 22 #[.slice (some ⟨b, o, none⟩) m cap]) := Lib.hid ((hP3.block _ HBx2.out.lt hgx).trans HBx2.out)
        have HR3 : Hid (Block W3 (w.heap.size + 2) 24 #[.int .i64 0, .int .i64 0, .slice none 0 0]) := Lib.hid ((hP3.block _ HR2.out.lt hgfr).trans HR2.out)
        have HBo3 : Hid (Block W3 w4.heap.size 24 #[.int .i64 m, .int .i64 n, .slice (some ⟨gz, 0, none⟩) N N]) := Lib.hid ((hP3.block _ HBo2.out.lt hgp).trans HBo2.out)
        have HV3 : Hid (Vis W3 Bat Bm (some ⟨gi, 0, none⟩) m m (List.range m) m n (some ⟨gz, 0, none⟩) N N) := Lib.hid (HV2.out.keep (fun q hq e => hP3.block q hq (by
          rcases e with rfl | rfl | ⟨a, ha, rfl⟩
          · exact hVf.1
          · exact hVf.2.1
          · cases ha; exact hVf.2.2)))
        have hF2d : Fld W2.drew gf := HF2.out.imp (fun h => h.drew) (fun h => h.drew)
        have HO4 := Lib.hid (own_keep HO3.out.drew (by decide) hF2d hP3)
        have HU3 : Hid (Past w.heap.size gf w W3) := Lib.hid ((show Past w.heap.size gf w W2.drew from ⟨HU2.out.os, HU2.out.tape, HU2.out.output, HU2.out.size, HU2.out.block⟩).trans (hP3.mono HU2.out.size))
        have HK3 : Hid (KeepsFrom W0.heap.size W W3) := Lib.hid ((HK2.out.trans (keeps_turn (Turn.drewN (Turn.refl _ _) 1))).trans (keeps_past hP3 (.inr (by
          rcases hF2d with hb | hb
          · exact ⟨_, _, _, hb⟩
          · exact ⟨_, _, _, hb⟩))))
        have hc3 : W3.cell? ⟨b, o + i, none⟩ = some (.int .u8 (y.n : Int)) := by
          rw [past_cell hP3 ⟨b, o + i, none⟩ (by have := hbA.2; show b < W2.heap.size; omega) hbA.1]
          exact hc2
        have HF3 := Lib.hid hF3
        have hS3 := hSi _ HBf3.out HBx3.out hc3
        clear HV2 HR2 HBf2 HBx2 HBo2 HF2 HU2 HO3 HK2 hP3 hF2d hF3 hc2 hS0
        show S W3 ∧ _
        refine ⟨hS3, ?_⟩
        refine wpAnyH_takeD (i := 7) (some 10) (.int .u8 ((p * y).n : Int)) rfl rfl (by kernel_rfl) (by kernel_rfl) (by kernel_rfl) (fun _ _ _ h => h) (Or.inl ⟨by kernel_rfl, fun W hW => by go_simp⟩) hS3 ?_
        simp only [Act.put, List.setIfInBounds_toArray, List.set_cons_zero, List.set_cons_succ]
        refine wpAnyH_done (by kernel_rfl) ?_ _
        clear hSc hSi hS3
        gi_wp2
        go_roundw
        case rel => exact ⟨j + 1, _, by omega, by rw [← HPW.out, HY.out], by go_num, HV3, HR3, HBf3, HBx3, HBo3, HU3, HF3, HST, HO4, HK3⟩
        case measure => simp [intOf]; omega
      · obtain rfl : j = n := by omega
        gi_wp2
        exact ⟨HK.out, HV.out, HR.out, HBf.out, HBx.out, HBo.out, HU.out, HFd.out, t, powT_row HT.out, HO.out⟩
  case done =>
    rintro W ⟨k1, k2, k3, k4, k5, k6, k7, t, k8, k9⟩ hD
    obtain ⟨l0, l1, l2⟩ := cells3 k5
    have d0 := k2.cell 0
    have d1 := k2.cell 1
    have d2 := k2.cell 2
    have f0 := k2.frozen 0
    have f1 := k2.frozen 1
    have f2 := k2.frozen 2
    go_wp2
    have hK := set3_other hD (show W0.heap.size ≠ w.heap.size + 2 by omega) (.int .i64 m) (.int .i64 n) (.slice (some ⟨gz, 0, none⟩) N N)
    refine ⟨by simp, .inl ⟨_, _, rfl, run_takeDeferred hK, ?_⟩⟩
    have ht : Turn w.heap.size (set3 W (w.heap.size + 2) (.int .i64 m) (.int .i64 n) (.slice (some ⟨gz, 0, none⟩) N N)) _ := Turn.put hK rfl (by omega) (.deferred none)
    obtain ⟨e0, e1, e2⟩ := cells3 (ht.block (block_set3_self k2 (.int .i64 m) (.int .i64 n) (.slice (some ⟨gz, 0, none⟩) N N)))
    have e : t = flat m n (powF xs) := k8.only (isM_flat m n _) (fun a b ha hb => by unfold powT; rw [if_pos (.inl ha)])
    refine ⟨.agg #[.int .i64 m, .int .i64 n, .slice (some ⟨gz, 0, none⟩) N N], ?_, some ⟨gz, 0, none⟩, N, ?_, ?_, ?_, ?_, ?_⟩
    · unfold set3 at e0 e1 e2
      simp [results, Try.results61, go_sem, e0, e1, e2]
    · rw [flat_length, HN.out]
    · rw [flat_length, HN.out]; exact Nat.le_refl _
    · rw [flat_length, HN.out, ← e]
      exact ht.own (own_set3 k9 (by simp [Value.ownBlock]; omega) _ _ _)
    · exact hg.fldP ((fld_set3 k7 (Ne.symm hgfr) _ _ _).imp ht.block ht.block)
    · exact hg.past (by omega) (ht.past (past_set3 k6 (.inr (by omega)) _ _ _) (Nat.le_refl _))
end Go.Proofs.Ytjpbdbgihakpmaa.Mat
