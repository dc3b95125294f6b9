/- Of the program, joined: MatPowers, MsCode1, ElCode, MsCode2, MsCode3. -/
import Derived.Test.YtjoghbmedfmioaaGreatPb15
import Derived.Test.YtjoghbmedfmioaaGreatPb11
import Derived.Test.YtjoghbmedfmioaaGreatPb12
import Derived.StillTailTactics
namespace Go.Proofs.YtjoghbmedfmioaaGreat.Mat
open Go.RowKit Go.Shelf F8 Poly GF
attribute [local go_sem] Oper.semAt_some
def pw (x : F8) : Nat → F8
 | 0 => 1
 | k + 1 => pw x k * x
def powF (xs : List F8) (i j : Nat) : F8 := pw (coef xs i) j
def powT (xs : List F8) (i j a b : Nat) : F8 := if a < i ∨ (a = i ∧ b < j) then powF xs a b else 0
theorem powT_step {m n i j : Nat} {xs t : List F8} (h : IsM m n t (powT xs i j)) (hi : i < m) (hj : j < n) : IsM m n (t.set (i * n + j) (pw (coef xs i) j)) (powT xs i (j + 1)) := by
 refine ⟨by rw [List.length_set, h.len], fun a b ha hb => ?_⟩
 rw [ent_set h.len hi hj _ _ _ hb]
 unfold powT
 by_cases e : a = i ∧ b = j
 ·rw [if_pos e, if_pos (by omega), e.1, e.2]; rfl
 ·rw [if_neg e, h.ent a b ha hb]
  unfold powT
  by_cases e2 : a < i ∨ (a = i ∧ b < j)
  ·rw [if_pos e2, if_pos (by omega)]
  ·rw [if_neg e2, if_neg (by omega)]
theorem powT_row {m n i : Nat} {xs t : List F8} (h : IsM m n t (powT xs i n)) : IsM m n t (powT xs (i + 1) 0) :=
 h.congr fun a b ha hb => by
  unfold powT
  by_cases e2 : a < i ∨ (a = i ∧ b < n)
  ·rw [if_pos e2, if_pos (by omega)]
  ·rw [if_neg e2, if_neg (by omega)]
def PowRes (pf : Option Addr) (r c : Nat) (s : List F8) (w : World) (e : Ending) (w' : World) : Prop :=
 ∃ A cap, e = .returned (.agg #[.int .i64 r, .int .i64 c, .slice A s.length cap]) ∧ s.length ≤ cap ∧ Own w' w.heap.size 5 (.slice A s.length cap) (bv (bs s)) ∧ FldP w' pf ∧ Past w.heap.size (rb w pf) w w'
theorem n_one'' : ((1 : F8).n : Int) = 1 := rfl
set_option maxRecDepth 100000 in
set_option maxHeartbeats 4000000 in
theorem powers_calls (pf A : Option Addr) (xs : List F8) (m n cap : Nat) (hl : xs.length = m) (hm : m ≤ 65536) (hn : n ≤ 65536) (hmn : m * n ≤ 16777216) (w : World) (hb : Bytes w A (bs xs)) (hfar : Far pf A xs) (hf : FldP w pf) :
  Calls Tryz.prog 36 #[.pointer pf, .slice A m cap, .int .i64 n] w (PowRes pf m n (flat m n (powF xs)) w) := by
 have HB := Lib.hid hb
 have HL := Lib.hid hl
 have HFar := Lib.hid hfar
 have HF := Lib.hid hf
 obtain ⟨N, hN⟩ : ∃ N, m * n = N := ⟨_, rfl⟩
 rw [hN] at hmn
 have HN := Lib.hid hN
 have g1 : decide ((m : Int) > 65536) = false := by simp; omega
 have g2 : decide (((N : Nat) : Int) > 16777216) = false := by simp; omega
 have hside : sideB n = true := sideB_true hn
 have harea : ∀ V, Calls Tryz.prog 67 #[.int .i64 m, .int .i64 n] V fun e w' => e = .returned (.int .i64 (N : Nat)) ∧ w' = V := fun V => by
  rw [← HN.out]
  exact (area_nat m n (by rw [HN.out]; omega) V).mono fun _ _ h => ⟨h.1, h.2.symm⟩
 have hmx : Tryz.prog.follows .mixedOrders = true := by kernel_rfl
 clear hb hl hfar hf hN
 refine (callsIn_wide (n := 9)).1 (callsIn_of_wp_marks Tryz.func36 rfl trivial ?_ rfl)
 simp only [Tryz.ntmps36, List.size_toArray, List.length_cons, List.length_nil, Nat.reduceAdd, Nat.reduceSub, Array.replicate_succ, Array.replicate_zero, List.push_toArray, List.append_toArray, List.nil_append, List.cons_append]
 refine wpIn_wide.2 ?_
 obtain ⟨wa, hwa⟩ : ∃ wa, ((w.alloc (.cells #[.pointer pf] 28)).alloc (.cells #[.slice A m cap] 34)).alloc (.cells #[.int .i64 0, .int .i64 0, .slice none 0 0] 62) = wa := ⟨_, rfl⟩
 have hbf : Block wa w.heap.size 28 #[.pointer pf] := by rw [← hwa]; exact ((Block.new _ _ _).alloc _).alloc _
 have hbx : Block wa (w.heap.size + 1) 34 #[.slice A m cap] := by
  rw [← hwa]
  have := Block.new (w.alloc (.cells #[.pointer pf] 28)) 34 #[.slice A m cap]
  rw [World.size_alloc] at this
  exact this.alloc _
 have hbr : Block wa (w.heap.size + 2) 62 #[.int .i64 0, .int .i64 0, .slice none 0 0] := by
  rw [← hwa]
  have := Block.new ((w.alloc (.cells #[.pointer pf] 28)).alloc (.cells #[.slice A m cap] 34)) 62 #[.int .i64 0, .int .i64 0, .slice none 0 0]
  rwa [World.size_alloc, World.size_alloc] at this
 have hBa : Below w.heap.size w wa := by rw [← hwa]; exact (((Below.refl _ w).alloc (Nat.le_refl _) _).alloc (by simp) _).alloc (by simp; omega) _
 have hsa : wa.heap.size = w.heap.size + 3 := by rw [← hwa]; simp
 have x0 := hbx.cell 0
 have y0 := hbf.cell 0
 go_wp2_with fail
 refine (isSide_calls n _).mono ?_
 rintro e w1 ⟨rfl, rfl⟩
 rw [hside]
 go_wp2_with fail
 refine (harea _).mono ?_
 rintro e w1 ⟨rfl, rfl⟩
 go_wp2_with fail
 refine (orNew_f pf w w1 HF.out hBa).mono ?_
 rintro e w2 ⟨gf, rfl, hg, hF2, hB2⟩
 have hs2 := hB2.size
 have hgf0 : w.heap.size ≠ gf := hg.ne (Nat.le_refl _) (by omega)
 have hgfr : w.heap.size + 2 ≠ gf := hg.ne (by omega) (by omega)
 have hbf2 := hbf.below hB2 hbf.lt
 have hbx2 := hbx.below hB2 hbx.lt
 have hbr2 := hbr.below hB2 hbr.lt
 have hBw2 := hBa.trans (hB2.mono (by omega))
 have z0 := hbf2.frozen 0
 obtain ⟨w3, hw3⟩ : ∃ w3, w2.setCell ⟨w.heap.size, 0, none⟩ (.pointer (some ⟨gf, 0, none⟩)) = w3 := ⟨_, rfl⟩
 have hbf3 : Block w3 w.heap.size 28 #[.pointer (some ⟨gf, 0, none⟩)] := by rw [← hw3]; simpa using hbf2.set_ 0 (.pointer (some ⟨gf, 0, none⟩))
 have hbx3 : Block w3 (w.heap.size + 1) 34 #[.slice A m cap] := by rw [← hw3]; exact hbx2.far (p := ⟨w.heap.size, 0, none⟩) (by simp) _
 have hbr3 : Block w3 (w.heap.size + 2) 62 #[.int .i64 0, .int .i64 0, .slice none 0 0] := by rw [← hw3]; exact hbr2.far (p := ⟨w.heap.size, 0, none⟩) (by simp) _
 have hF3 : Fld w3 gf := by rw [← hw3]; exact hF2.imp (fun h => h.far (p := ⟨w.heap.size, 0, none⟩) (Ne.symm hgf0) _) (fun h => h.far (p := ⟨w.heap.size, 0, none⟩) (Ne.symm hgf0) _)
 have hBw3 : Below w.heap.size w w3 := by rw [← hw3]; exact hBw2.setCell (p := ⟨w.heap.size, 0, none⟩) (Nat.le_refl _) _
 have hs3 : w3.heap.size = w2.heap.size := by rw [← hw3]; simp [World.setCell]
 have x3 := hbx3.cell 0
 have y2 := hbf2.cell 0
 clear hbf hbx hbr hBa hwa x0 y0 hB2 hbf2 hbx2 hbr2 hBw2 hF2
 go_wp2_with fail
 clear x3 y2 z0 hw3
 refine (zeros_calls m n N HN.out (by omega) _).mono ?_
 rintro e w4 ⟨gz, rfl, z1, z2, hO, hB4⟩
 have hs4 := hB4.size
 have hbf4 := hbf3.below hB4 hbf3.lt
 have hbx4 := hbx3.below hB4 hbx3.lt
 have hbr4 := hbr3.below hB4 hbr3.lt
 have hF4 := hF3.below hB4 hF3.lt
 have hBw4 := hBw3.trans (hB4.mono (by omega))
 clear hbf3 hbx3 hbr3 hF3 hBw3 hB4
 go_wp2_with fail
 refine (all_calls m n N N (some ⟨gz, 0, none⟩) (by omega) _).mono ?_
 rintro e W0 ⟨Bat, Bm, gi, rfl, a1, a2, a3, hV, hB0, a4⟩
 simp only [World.size_alloc] at a1 a2 a3
 have hbf0 := (hbf4.alloc (.cells #[.int .i64 m, .int .i64 n, .slice (some ⟨gz, 0, none⟩) N N] 62)).below hB0 (by simp; have := hbf4.lt; omega)
 have hbx0 := (hbx4.alloc (.cells #[.int .i64 m, .int .i64 n, .slice (some ⟨gz, 0, none⟩) N N] 62)).below hB0 (by simp; have := hbx4.lt; omega)
 have hbr0 := (hbr4.alloc (.cells #[.int .i64 m, .int .i64 n, .slice (some ⟨gz, 0, none⟩) N N] 62)).below hB0 (by simp; have := hbr4.lt; omega)
 have hbo0 : Block W0 w4.heap.size 62 #[.int .i64 m, .int .i64 n, .slice (some ⟨gz, 0, none⟩) N N] := (Block.new _ _ _).below hB0 (by simp)
 have hO0 : Own W0 w.heap.size 5 (.slice (some ⟨gz, 0, none⟩) N N) (bv (bs (List.replicate N 0))) := ((hO.more (by omega)).alloc _).below hB0
 have hF0 := (hF4.alloc (.cells #[.int .i64 m, .int .i64 n, .slice (some ⟨gz, 0, none⟩) N N] 62)).below hB0 (by simp; have := hF4.lt; omega)
 have hBw : Below w.heap.size w W0 := (hBw4.alloc (by omega) _).trans (hB0.mono (by simp; omega))
 have hs0 := hB0.size
 simp only [World.size_alloc] at hs0
 have hgz := Fld.ne_own hF0 (by decide) hO0
 have hgp : w4.heap.size ≠ gf := fun e => Fld.ne_block hF0 hbo0 (by decide) e.symm
 have hgx : w.heap.size + 1 ≠ gf := hg.ne (by omega) (by omega)
 have hN2 : ∀ k, k < m → (k + 1) * n ≤ N := fun k hk => by rw [← HN.out]; exact Nat.mul_le_mul_right n (by omega)
 have hfa := hg.far (by omega) HFar.out HB.out
 have hVf : Bat ≠ gf ∧ Bm ≠ gf ∧ gi ≠ gf := by
  have := hF4.lt
  omega
 clear hbf4 hbx4 hbr4 hF4 hBw4 hB0 hO
 go_wp2_with fail
 refine wpIn_wide.1 (wpIn_rows (n := 9) (by omega) (Bat := Bat) (Bm := Bm) (na := m) (ca := m) (c := n) (N := N) (cap := N) (Aat := some ⟨gi, 0, none⟩) (A := some ⟨gz, 0, none⟩) (ats := List.range m) (R := m) (fun k => k) (by simp) (by omega) (fun k hk => List.getElem?_range hk)
  (by omega) (Nat.le_refl _) (by omega) (fun k hk => ⟨hN2 k hk, by omega⟩) rfl
  (fun k W => Vis W Bat Bm (some ⟨gi, 0, none⟩) m m (List.range m) m n (some ⟨gz, 0, none⟩) N N ∧ Block W (w.heap.size + 2) 62 #[.int .i64 0, .int .i64 0, .slice none 0 0] ∧ Block W w.heap.size 28 #[.pointer (some ⟨gf, 0, none⟩)] ∧ Block W (w.heap.size + 1) 34 #[.slice A m cap] ∧ Block W w4.heap.size 62 #[.int .i64 m, .int .i64 n, .slice (some ⟨gz, 0, none⟩) N N] ∧ Past w.heap.size gf w W ∧ Fld W gf ∧ ∃ t, IsM m n t (powT xs k 0) ∧ Own W w.heap.size 5 (.slice (some ⟨gz, 0, none⟩) N N) (bv (bs t)))
  (fun _ _ => False)
  (fun k W W' ⟨h1, h2, h3, h4, h5, h6, h7, s, h8, h9⟩ t => ⟨h1.turn t, t.block h2, t.block h3, t.block h4, t.block h5, t.past h6 (by omega), h7.imp t.block t.block, s, h8, t.own h9⟩)
  (fun _ _ _ h _ => h)
  (fun k W h => h.1)
  ⟨hV, hbr0, hbf0, hbx0, hbo0, Past.of_below hBw gf, hF0, _, ⟨by rw [List.length_replicate]; exact HN.out.symm, fun i j _ _ => by rw [ent_replicate]; unfold powT; rw [if_neg (by omega)]⟩, hO0⟩
  ?a1 ?assign ?body ?done (fun _ _ h => h.elim))
 case assign =>
  intro l k W K hk hK
  gi_wp2
  exact hK
 case body =>
  rintro l i W hi ⟨k1, k2, k3, k4, k5, k6, k7, t, k8, k9⟩ hsz
  have HV := Lib.hid k1
  have HR := Lib.hid k2
  have HBf := Lib.hid k3
  have HBx := Lib.hid k4
  have HBo := Lib.hid k5
  have HU := Lib.hid k6
  have HFd := Lib.hid k7
  have HT := Lib.hid k8
  have HO := Lib.hid k9
  clear k1 k2 k3 k4 k5 k6 k7 k8 k9
  obtain ⟨x, hx⟩ : ∃ x, i * n = x := ⟨_, rfl⟩
  have HX := Lib.hid hx
  rw [hx]
  clear hx
  obtain ⟨RA, hRA⟩ : ∃ RA, rowA (some ⟨gz, 0, none⟩) x n = RA := ⟨_, rfl⟩
  rw [hRA]
  have HRA := Lib.hid hRA
  clear hRA
  gi_wp2
  have hil : i < xs.length := by rw [HL.out]; exact hi
  gi_loopw [10, 37] (fun pv ii wr => ∃ (j : Nat) (t : List F8), j ≤ n ∧ pv = .int .u8 ((pw (coef xs i) j).n : Int) ∧ ii = .int .i64 j ∧ Hid (Vis wr Bat Bm (some ⟨gi, 0, none⟩) m m (List.range m) m n (some ⟨gz, 0, none⟩) N N) ∧ Hid (Block wr (w.heap.size + 2) 62 #[.int .i64 0, .int .i64 0, .slice none 0 0]) ∧ Hid (Block wr w.heap.size 28 #[.pointer (some ⟨gf, 0, none⟩)]) ∧ Hid (Block wr (w.heap.size + 1) 34 #[.slice A m cap]) ∧ Hid (Block wr w4.heap.size 62 #[.int .i64 m, .int .i64 n, .slice (some ⟨gz, 0, none⟩) N N]) ∧ Hid (Past w.heap.size gf w wr) ∧ Hid (Fld wr gf) ∧ Hid (IsM m n t (powT xs i j)) ∧ Hid (Own wr w.heap.size 5 (.slice (some ⟨gz, 0, none⟩) N N) (bv (bs t))) ∧ Hid (KeepsFrom W0.heap.size W wr)) (fun _ ii _ => n - (intOf ii).toNat)
  case atStart => exact ⟨0, t, Nat.zero_le _, by unfold pw; rw [n_one''], rfl, HV, HR, HBf, HBx, HBo, HU, HFd, HT, HO, Lib.hid (keeps_below (Below.refl _ _))⟩
  case round =>
   clear HV HR HBf HBx HBo HU HFd HT HO
   obtain ⟨j, t, hj, rfl, rfl, HV, HR, HBf, HBx, HBo, HU, HFd, HT, HO, HK⟩ := hrel
   by_cases hjn : j < n
   ·have hbw := bytes_far HB.out (fun hp a ha => (hfa hp a ha).1) HU.out
    have hne : xs ≠ [] := by rintro rfl; simp at hil
    obtain ⟨b, o, rfl⟩ := where_ hbw (by omega)
    have hcell := cellAt hbw _ hil
    have hbA := hfa hne _ rfl
    have hlt : i * n + j < N := by rw [← HN.out]; exact idx_lt hi hjn
    have htl : t.length = N := by rw [HT.out.len, HN.out]
    have HST := Lib.hid (powT_step HT.out hi hjn)
    have HPW : Hid (pw (coef xs i) j * coef xs i = pw (coef xs i) (j + 1)) := Lib.hid rfl
    obtain rfl : RA = some ⟨gz, x, none⟩ := by rw [← HRA.out, rowA_some _ _ _ _ (by omega), Nat.zero_add]
    rw [HX.out] at hlt HST
    obtain ⟨p, hp⟩ : ∃ p, pw (coef xs i) j = p := ⟨_, rfl⟩
    obtain ⟨y, hy⟩ : ∃ y, coef xs i = y := ⟨_, rfl⟩
    rw [hp] at HST HPW ⊢
    rw [hy] at hcell
    have HP := Lib.hid hp
    have HY := Lib.hid hy
    have hc := own_cell HO.out htl hlt
    have hf := own_frozen HO.out htl (x + j)
    have HO2 := Lib.hid (own_set (k := x + j) (x := p) HO.out htl)
    have hwr := HU.out.size
    obtain ⟨W2, hW2⟩ : ∃ W2, wr.setCell ⟨gz, x + j, none⟩ (.int .u8 (p.n : Int)) = W2 := ⟨_, rfl⟩
    have HV2 : Hid (Vis W2 Bat Bm (some ⟨gi, 0, none⟩) m m (List.range m) m n (some ⟨gz, 0, none⟩) N N) := Lib.hid (by
     rw [← hW2]
     exact HV.out.keep (fun q hq e => Below.heap_setCell _ _ _ _ (by
      simp
      rcases e with rfl | rfl | ⟨a, ha, rfl⟩
      ·omega
      ·omega
      ·cases ha; simp; omega)))
    have HR2 : Hid (Block W2 (w.heap.size + 2) 62 #[.int .i64 0, .int .i64 0, .slice none 0 0]) := Lib.hid (by rw [← hW2]; exact HR.out.far (p := ⟨gz, x + j, none⟩) (by simp; omega) _)
    have HBf2 : Hid (Block W2 w.heap.size 28 #[.pointer (some ⟨gf, 0, none⟩)]) := Lib.hid (by rw [← hW2]; exact HBf.out.far (p := ⟨gz, x + j, none⟩) (by simp; omega) _)
    have HBx2 : Hid (Block W2 (w.heap.size + 1) 34 #[.slice (some ⟨b, o, none⟩) m cap]) := Lib.hid (by rw [← hW2]; exact HBx.out.far (p := ⟨gz, x + j, none⟩) (by simp; omega) _)
    have HBo2 : Hid (Block W2 w4.heap.size 62 #[.int .i64 m, .int .i64 n, .slice (some ⟨gz, 0, none⟩) N N]) := Lib.hid (by rw [← hW2]; exact HBo.out.far (p := ⟨gz, x + j, none⟩) (by simp; omega) _)
    have HF2 : Hid (Fld W2 gf) := Lib.hid (by rw [← hW2]; exact HFd.out.imp (fun h => h.far (p := ⟨gz, x + j, none⟩) hgz _) (fun h => h.far (p := ⟨gz, x + j, none⟩) hgz _))
    have HU2 : Hid (Past w.heap.size gf w W2) := Lib.hid (by rw [← hW2]; exact HU.out.setCell (p := ⟨gz, x + j, none⟩) (.inr (by simp; omega)) _)
    have HO3 : Hid (Own W2 w.heap.size 5 (.slice (some ⟨gz, 0, none⟩) N N) (bv (bs (t.set (x + j) p)))) := Lib.hid (by rw [← hW2]; exact HO2.out)
    have HK2 : Hid (KeepsFrom W0.heap.size W W2) := Lib.hid (by rw [← hW2]; exact HK.out.trans ((KeepsOthers.setCell _ _ _).from _))
    have hc2 : W2.cell? ⟨b, o + i, none⟩ = some (.int .u8 (y.n : Int)) := by
     rw [← hW2, ← hcell]
     exact World.cell?_of_block (Below.heap_setCell _ _ _ _ (by have := hbA.2; simp at this ⊢; omega))
    obtain ⟨S, hSdef⟩ : ∃ S : World → Prop, S = fun V => V.cell? ⟨w.heap.size, 0, none⟩ = some (.pointer (some ⟨gf, 0, none⟩)) ∧ V.cell? ⟨w.heap.size + 1, 0, none⟩ = some (.slice (some ⟨b, o, none⟩) m cap) ∧ V.cell? ⟨b, o + i, none⟩ = some (.int .u8 (y.n : Int)) := ⟨_, rfl⟩
    have hSi : ∀ V, Block V w.heap.size 28 #[.pointer (some ⟨gf, 0, none⟩)] → Block V (w.heap.size + 1) 34 #[.slice (some ⟨b, o, none⟩) m cap] → V.cell? ⟨b, o + i, none⟩ = some (.int .u8 (y.n : Int)) → S V := fun V h1 h2 h3 => by rw [hSdef]; exact ⟨h1.cell 0, h2.cell 0, h3⟩
    have hSc : ∀ V, S V → V.cell? ⟨w.heap.size, 0, none⟩ = some (.pointer (some ⟨gf, 0, none⟩)) ∧ V.cell? ⟨w.heap.size + 1, 0, none⟩ = some (.slice (some ⟨b, o, none⟩) m cap) ∧ V.cell? ⟨b, o + i, none⟩ = some (.int .u8 (y.n : Int)) := fun V hV => by rw [hSdef] at hV; exact hV
    have hS0 : S W2.drew := hSi _ HBf2.out.drew HBx2.out.drew hc2
    have hszW2 : W2.heap.size = wr.heap.size := by rw [← hW2]; simp [World.setCell]
    clear hSdef hp hy hbw HO2 HO hcell HV HR HBf HBx HBo HFd HU HK
    gi_wp2_with fail
    refine region_round_held (S := S) hmx (by kernel_rfl) (fun h => by obtain ⟨a, w, h⟩ := h; exact h) hS0 (fun hS0 => ?_)
    refine wpAnyH_takeD (i := 0) (some 44) (.pointer (some ⟨gf, 0, none⟩)) rfl rfl (by kernel_rfl) (by kernel_rfl) (by kernel_rfl) (fun _ _ _ h => h) (Or.inl ⟨by kernel_rfl, fun W hW => by obtain ⟨s1, s2, s3⟩ := hSc W hW; go_simp⟩) hS0 ?_
    simp only [Act.put, List.setIfInBounds_toArray, List.set_cons_zero, List.set_cons_succ]
    refine wpAnyH_takeD (i := 1) (some 45) (.int .u8 (p.n : Int)) rfl rfl (by kernel_rfl) (by kernel_rfl) (by kernel_rfl) (fun _ _ _ h => h) (Or.inl ⟨by kernel_rfl, fun W hW => by go_simp⟩) hS0 ?_
    simp only [Act.put, List.setIfInBounds_toArray, List.set_cons_zero, List.set_cons_succ]
    refine wpAnyH_takeD (i := 2) (some 46) (.slice (some ⟨b, o, none⟩) m cap) rfl rfl (by kernel_rfl) (by kernel_rfl) (by kernel_rfl) (fun _ _ _ h => h) (Or.inl ⟨by kernel_rfl, fun W hW => by obtain ⟨s1, s2, s3⟩ := hSc W hW; go_simp⟩) hS0 ?_
    simp only [Act.put, List.setIfInBounds_toArray, List.set_cons_zero, List.set_cons_succ]
    refine wpAnyH_takeD (i := 3) (some 47) (.int .i64 (i : Int)) rfl rfl (by kernel_rfl) (by kernel_rfl) (by kernel_rfl) (fun _ _ _ h => h) (Or.inl ⟨by kernel_rfl, fun W hW => by go_simp⟩) hS0 ?_
    simp only [Act.put, List.setIfInBounds_toArray, List.set_cons_zero, List.set_cons_succ]
    refine wpAnyH_takeD (i := 4) (some 48) (.pointer (some ⟨b, o + i, none⟩)) rfl rfl (by kernel_rfl) (by kernel_rfl) (by kernel_rfl) (fun _ _ _ h => h) (Or.inl ⟨by kernel_rfl, fun W hW => by go_simp⟩) hS0 ?_
    simp only [Act.put, List.setIfInBounds_toArray, List.set_cons_zero, List.set_cons_succ]
    refine wpAnyH_takeD (i := 5) (some 49) (.int .u8 (y.n : Int)) rfl rfl (by kernel_rfl) (by kernel_rfl) (by kernel_rfl) (fun _ _ _ h => h) (Or.inl ⟨by kernel_rfl, fun W hW => by obtain ⟨s1, s2, s3⟩ := hSc W hW; go_simp⟩) hS0 ?_
    simp only [Act.put, List.setIfInBounds_toArray, List.set_cons_zero, List.set_cons_succ]
    refine wpAnyH_one (i := 6) (by kernel_rfl) rfl (by kernel_rfl) ?_
    go_simp
    refine (mul_f gf p y _ (HF2.out.imp (fun h => h.drew) (fun h => h.drew))).mono ?_
    rintro e W3 ⟨rfl, hF3, hP3⟩
    have hszw := HU2.out.size
    have HBf3 : Hid (Block W3 w.heap.size 28 #[.pointer (some ⟨gf, 0, none⟩)]) := Lib.hid ((hP3.block _ HBf2.out.lt hgf0).trans HBf2.out)
    have HBx3 : Hid (Block W3 (w.heap.size + 1) 34 #[.slice (some ⟨b, o, none⟩) m cap]) := Lib.hid ((hP3.block _ HBx2.out.lt hgx).trans HBx2.out)
    have HR3 : Hid (Block W3 (w.heap.size + 2) 62 #[.int .i64 0, .int .i64 0, .slice none 0 0]) := Lib.hid ((hP3.block _ HR2.out.lt hgfr).trans HR2.out)
    have HBo3 : Hid (Block W3 w4.heap.size 62 #[.int .i64 m, .int .i64 n, .slice (some ⟨gz, 0, none⟩) N N]) := Lib.hid ((hP3.block _ HBo2.out.lt hgp).trans HBo2.out)
    have HV3 : Hid (Vis W3 Bat Bm (some ⟨gi, 0, none⟩) m m (List.range m) m n (some ⟨gz, 0, none⟩) N N) := Lib.hid (HV2.out.keep (fun q hq e => hP3.block q hq (by
     rcases e with rfl | rfl | ⟨a, ha, rfl⟩
     ·exact hVf.1
     ·exact hVf.2.1
     ·cases ha; exact hVf.2.2)))
    have hF2d : Fld W2.drew gf := HF2.out.imp (fun h => h.drew) (fun h => h.drew)
    have HO4 := Lib.hid (own_keep HO3.out.drew (by decide) hF2d hP3)
    have HU3 : Hid (Past w.heap.size gf w W3) := Lib.hid ((show Past w.heap.size gf w W2.drew from ⟨HU2.out.os, HU2.out.tape, HU2.out.output, HU2.out.size, HU2.out.block⟩).trans (hP3.mono HU2.out.size))
    have HK3 : Hid (KeepsFrom W0.heap.size W W3) := Lib.hid ((HK2.out.trans (keeps_turn (Turn.drewN (Turn.refl _ _) 1))).trans (keeps_past hP3 (.inr (by
     rcases hF2d with hb | hb
     ·exact ⟨_, _, _, hb⟩
     ·exact ⟨_, _, _, hb⟩))))
    have hc3 : W3.cell? ⟨b, o + i, none⟩ = some (.int .u8 (y.n : Int)) := by
     rw [past_cell hP3 ⟨b, o + i, none⟩ (by have := hbA.2; show b < W2.heap.size; omega) hbA.1]
     exact hc2
    have HF3 := Lib.hid hF3
    have hS3 := hSi _ HBf3.out HBx3.out hc3
    clear HV2 HR2 HBf2 HBx2 HBo2 HF2 HU2 HO3 HK2 hP3 hF2d hF3 hc2 hS0
    show S W3 ∧ _
    refine ⟨hS3, ?_⟩
    refine wpAnyH_takeD (i := 7) (some 10) (.int .u8 ((p * y).n : Int)) rfl rfl (by kernel_rfl) (by kernel_rfl) (by kernel_rfl) (fun _ _ _ h => h) (Or.inl ⟨by kernel_rfl, fun W hW => by go_simp⟩) hS3 ?_
    simp only [Act.put, List.setIfInBounds_toArray, List.set_cons_zero, List.set_cons_succ]
    refine wpAnyH_done (by kernel_rfl) ?_ _
    clear hSc hSi hS3
    gi_wp2
    go_roundw
    case rel => exact ⟨j + 1, _, by omega, by rw [← HPW.out, HY.out], by go_num, HV3, HR3, HBf3, HBx3, HBo3, HU3, HF3, HST, HO4, HK3⟩
    case measure => simp [intOf]; omega
   ·obtain rfl : j = n := by omega
    gi_wp2
    exact ⟨HK.out, HV.out, HR.out, HBf.out, HBx.out, HBo.out, HU.out, HFd.out, t, powT_row HT.out, HO.out⟩
 case done =>
  rintro W ⟨k1, k2, k3, k4, k5, k6, k7, t, k8, k9⟩ hD
  obtain ⟨l0, l1, l2⟩ := cells3 k5
  have d0 := k2.cell 0
  have d1 := k2.cell 1
  have d2 := k2.cell 2
  have f0 := k2.frozen 0
  have f1 := k2.frozen 1
  have f2 := k2.frozen 2
  go_wp2
  have hK := set3_other hD (show W0.heap.size ≠ w.heap.size + 2 by omega) (.int .i64 m) (.int .i64 n) (.slice (some ⟨gz, 0, none⟩) N N)
  refine ⟨by simp, .inl ⟨_, _, rfl, run_takeDeferred hK, ?_⟩⟩
  have ht : Turn w.heap.size (set3 W (w.heap.size + 2) (.int .i64 m) (.int .i64 n) (.slice (some ⟨gz, 0, none⟩) N N)) _ := Turn.put hK rfl (by omega) (.deferred none)
  obtain ⟨e0, e1, e2⟩ := cells3 (ht.block (block_set3_self k2 (.int .i64 m) (.int .i64 n) (.slice (some ⟨gz, 0, none⟩) N N)))
  have e : t = flat m n (powF xs) := k8.only (isM_flat m n _) (fun a b ha hb => by unfold powT; rw [if_pos (.inl ha)])
  refine ⟨.agg #[.int .i64 m, .int .i64 n, .slice (some ⟨gz, 0, none⟩) N N], ?_, some ⟨gz, 0, none⟩, N, ?_, ?_, ?_, ?_, ?_⟩
  ·unfold set3 at e0 e1 e2
   simp [results, Tryz.results36, go_sem, e0, e1, e2]
  ·rw [flat_length, HN.out]
  ·rw [flat_length, HN.out]; exact Nat.le_refl _
  ·rw [flat_length, HN.out, ← e]
   exact ht.own (own_set3 k9 (by simp [Value.ownBlock]; omega) _ _ _)
  ·exact hg.fldP ((fld_set3 k7 (Ne.symm hgfr) _ _ _).imp ht.block ht.block)
  ·exact hg.past (by omega) (ht.past (past_set3 k6 (.inr (by omega)) _ _ _) (Nat.le_refl _))
end Go.Proofs.YtjoghbmedfmioaaGreat.Mat

namespace Go.Proofs.YtjoghbmedfmioaaGreat.Ms
open Go.RowKit Go.Shelf F8 Poly GF Rd
attribute [local go_sem] Oper.semAt_some
theorem pow_xpow (x : F8) (hx : x ≠ 0) : ∀ n : Nat, gpow x.n (n : Int) = (xpow x n).n
 | 0 => by rw [gpow_of (n_ne_zero.2 hx)]; simp [xpow]; rfl
 | n + 1 => by
  rw [Wl.xpow_succ, n_mul, ← pow_xpow x hx n, show ((n + 1 : Nat) : Int) = 1 + (n : Int) by omega, gpow_add (n_ne_zero.2 hx)]
  congr 1
  rw [gpow_of (n_ne_zero.2 hx)]
  rw [Int.mul_one]
  exact ge_log x.h (n_ne_zero.2 hx)
structure Co where
 b : Nat
 g : Nat
 bp : Nat
 bh : Nat
 n : Nat
 k : Nat
 d : Nat
 a : Nat
 v : Nat
 nx : Nat
 aa : Nat
 nw : Nat
 nz : Nat
 xs : List F8
 X : Option Addr
 cX : Nat
 W : Option Addr
 cW : Nat
 Z : Option Addr
 cZ : Nat
 Ap : Option Addr
 cp : Nat
 Ah : Option Addr
 ch : Nat
def Co.cs (S : Co) : Array Value := #[.pointer (some ⟨S.g, 0, none⟩), .int .i64 S.n, .int .i64 S.k, .int .i64 S.d, .int .i64 S.a, .int .i64 S.v, .slice S.X S.nx S.cX, .int .i64 S.nx, .int .i64 S.aa, .slice S.W S.nw S.cW, .slice S.Z S.nz S.cZ, .pointer (some ⟨S.bp, 0, none⟩), .pointer (some ⟨S.bh, 0, none⟩)]
structure Co.Ok (S : Co) (w : World) : Prop where
 blk : Block w S.b 106 S.cs
 bg : S.b ≠ S.g
 par : Par S.xs S.n S.k S.d S.a S.v
 a16 : S.a ≤ 16
 xs_ : S.xs = Rd.pts S.nx
 nx_ : S.nx = S.n + S.v
 aa_ : S.aa = 2 * S.a
 nw_ : S.nw = S.nx * S.aa
 nz_ : S.nz = S.v + 1
 bx : BF S.g w S.X S.xs
 cx : S.nx ≤ S.cX
 bw : BF S.g w S.W (Mat.flat S.nx S.aa (Mat.powF S.xs))
 cw : S.nw ≤ S.cW
 bz : BF S.g w S.Z (trim (roots (S.xs.take S.v)))
 cz : S.nz ≤ S.cZ
 cdp : Cd w S.bp S.g S.Ap S.xs S.nx S.cp S.a
 cdh : Cd w S.bh S.g S.Ah (S.xs.drop S.v) S.n S.ch S.d
section
variable {S : Co} {w w' : World}
theorem Co.Ok.fld (h : S.Ok w) : FldP w (some ⟨S.g, 0, none⟩) := h.cdp.fld
theorem Co.Ok.past (h : S.Ok w) (hf : FldP w' (some ⟨S.g, 0, none⟩)) (hp : Past w.heap.size S.g w w') : S.Ok w' :=
 { h with blk := h.blk.past hp h.blk.lt h.bg, bx := h.bx.past hp, bw := h.bw.past hp, bz := h.bz.past hp, cdp := h.cdp.past hf hp, cdh := h.cdh.past hf hp }
theorem Co.Ok.below (h : S.Ok w) (hb : Below w.heap.size w w') : S.Ok w' := h.past (h.fld.below hb) (Past.of_below hb _)
theorem Co.Ok.drew (h : S.Ok w) : S.Ok w.drew := h.below ((Below.refl _ _).drew)
theorem Co.Ok.alloc (h : S.Ok w) (o : Obj) : S.Ok (w.alloc o) := h.below ((Below.refl _ _).alloc (Nat.le_refl _) o)
theorem Co.Ok.len (h : S.Ok w) : S.xs.length = S.nx := h.par.len.trans h.nx_.symm
theorem Co.Ok.cells (h : S.Ok w) : w.cell? ⟨S.b, 0, none⟩ = some (.pointer (some ⟨S.g, 0, none⟩)) ∧ w.cell? ⟨S.b, 1, none⟩ = some (.int .i64 S.n) ∧ w.cell? ⟨S.b, 2, none⟩ = some (.int .i64 S.k) ∧ w.cell? ⟨S.b, 3, none⟩ = some (.int .i64 S.d) ∧ w.cell? ⟨S.b, 4, none⟩ = some (.int .i64 S.a) ∧ w.cell? ⟨S.b, 5, none⟩ = some (.int .i64 S.v) ∧ w.cell? ⟨S.b, 6, none⟩ = some (.slice S.X S.nx S.cX) ∧ w.cell? ⟨S.b, 7, none⟩ = some (.int .i64 S.nx) ∧ w.cell? ⟨S.b, 8, none⟩ = some (.int .i64 S.aa) ∧ w.cell? ⟨S.b, 9, none⟩ = some (.slice S.W S.nw S.cW) ∧ w.cell? ⟨S.b, 10, none⟩ = some (.slice S.Z S.nz S.cZ) ∧ w.cell? ⟨S.b, 11, none⟩ = some (.pointer (some ⟨S.bp, 0, none⟩)) ∧ w.cell? ⟨S.b, 12, none⟩ = some (.pointer (some ⟨S.bh, 0, none⟩)) := by
 have hb := h.blk
 refine ⟨?_, ?_, ?_, ?_, ?_, ?_, ?_, ?_, ?_, ?_, ?_, ?_, ?_⟩ <;> (rw [hb.cell]; rfl)
theorem Co.Ok.nums (h : S.Ok w) : 1 ≤ S.a ∧ S.a ≤ 16 ∧ 2 ≤ S.k ∧ S.k ≤ 17 ∧ S.v ≤ 15 ∧ S.d ≤ 254 ∧ S.n ≤ 255 ∧ S.nx ≤ 255 ∧ S.v + S.k = S.a + 1 ∧ S.a + S.k = S.d + 1 ∧ S.d < S.n ∧ S.nx = S.n + S.v := by
 have h1 := h.par.vk; have h2 := h.par.ak; have h3 := h.par.k2; have h4 := h.par.dn; have h5 := h.par.n255; have h6 := h.a16; have h7 := h.nx_; have h8 := h.cdp.k1
 refine ⟨?_, ?_, ?_, ?_, ?_, ?_, ?_, ?_, ?_, ?_, ?_, ?_⟩ <;> omega
end
section
variable {S : Co} {w : World} (h : S.Ok w)
include h
theorem isNone_calls : Calls Tryz.prog 56 #[.pointer (some ⟨S.b, 0, none⟩)] w fun e w' => e = .returned (.bool false) ∧ w = w' := by
 obtain ⟨c0, c1, -⟩ := h.cells
 have hn : ((S.n : Int) == 0) = false := by have := h.nums; simp; omega
 go_enter Tryz.func56, Tryz.ntmps56
 go_wp2
 go_ret
 exact ⟨rfl, rfl⟩
set_option maxRecDepth 100000 in
theorem b_calls : Calls Tryz.prog 31 #[.pointer (some ⟨S.b, 0, none⟩)] w fun e w' => e = .returned (.int .i64 (S.k * S.a : Nat)) ∧ Below w.heap.size w w' := by
 obtain ⟨c0, c1, c2, c3, c4, -⟩ := h.cells
 have H := Lib.hid (isNone_calls h)
 have hn := h.nums
 obtain ⟨q, hq⟩ : ∃ q, S.k * S.a = q := ⟨_, rfl⟩
 have hq2 : (S.k : Int) * (S.a : Int) = (q : Int) := by rw [← hq]; simp
 have hqb : q ≤ 17 * 16 := by rw [← hq]; exact Nat.mul_le_mul (by omega) (by omega)
 have hmx : Tryz.prog.follows .mixedOrders = true := by kernel_rfl
 have HW : Hid (IntKind.i64.wrap ((S.k : Int) * (S.a : Int)) = (q : Int)) := Lib.hid (by rw [hq2]; exact IntWalk.i64_in _ (by omega))
 rw [hq]
 clear hq hn hq2 h
 go_enter Tryz.func31, Tryz.ntmps31
 go_wp2_with (go_at_call 56; refine H.out.mono ?_; rintro e w1 ⟨rfl, rfl⟩)
 refine wp_region_still_tail 9 hmx (by kernel_rfl) ?_
 simp only [List.take_succ_cons, List.take_zero, List.drop_succ_cons, List.drop_zero]
 iterate 9 still_step
 refine wpStill_nil ?_
 go_wp2
 go_ret
 exact ⟨ret_int HW.out, (Below.refl _ _).drew⟩
set_option maxRecDepth 100000 in
set_option maxHeartbeats 1000000 in
theorem lambda_calls (p : Nat) (hp : p < S.nx) : Calls Tryz.prog 97 #[.pointer (some ⟨S.b, 0, none⟩), .int .i64 (p : Nat)] w fun e w' => e = .returned (.int .u8 (xpow (coef S.xs p) S.a).n) ∧ FldP w' (some ⟨S.g, 0, none⟩) ∧ Past w.heap.size S.g w w' := by
 obtain ⟨c0, c1, c2, c3, c4, c5, c6, -⟩ := h.cells
 have hmx : Tryz.prog.follows .mixedOrders = true := by kernel_rfl
 have hn := h.nums
 have hx0 : coef S.xs p ≠ 0 := h.par.P.nz p (by rw [h.len]; exact hp)
 have hpw := pow_xpow _ hx0 S.a
 obtain ⟨bx, ox, hX⟩ := where_ h.bx.by_ (by rw [h.len]; omega)
 have hb := h.bx.by_
 rw [hX] at hb c6
 have cx := cellAt hb p (by rw [h.len]; exact hp)
 have hcx := h.cx
 obtain ⟨x, hx⟩ : ∃ x, coef S.xs p = x := ⟨_, rfl⟩
 rw [hx] at hpw cx ⊢
 have hf : FldP w.drew (some ⟨S.g, 0, none⟩) := h.fld
 have HP := Lib.hid (pow_calls (some ⟨S.g, 0, none⟩) x.n x.h (S.a : Int) (by omega) (by omega) w.drew hf)
 have HE := Lib.hid hpw
 have hpi : (p : Int) < (S.nx : Int) := by omega
 have hp0 : (0 : Int) ≤ (p : Int) := by omega
 clear hpw hx hx0 hb hX hf h hn
 go_enter Tryz.func97, Tryz.ntmps97
 go_wp2_with fail
 refine wp_region_still_tail 15 hmx (by kernel_rfl) ?_
 simp only [List.take_succ_cons, List.take_zero, List.drop_succ_cons, List.drop_zero]
 iterate 15 still_step
 refine wpStill_nil ?_
 go_wp2_with fail
 refine HP.out.mono ?_
 rintro e w1 ⟨rfl, hf1, hp1⟩
 rw [HE.out]
 have hp1' : Past w.heap.size S.g w w1 := ⟨hp1.os, hp1.tape, hp1.output, hp1.size, hp1.block⟩
 go_wp2
 go_ret
 exact ⟨rfl, hf1, hp1'⟩
end
end Go.Proofs.YtjoghbmedfmioaaGreat.Ms

namespace Go.Proofs.YtjoghbmedfmioaaGreat.Ms
open Go.RowKit Go.Shelf F8 Poly GF Rd
attribute [local go_sem] Oper.semAt_some
set_option maxRecDepth 100000 in
set_option maxHeartbeats 1000000 in
theorem index_calls (A : Option Addr) (l : List Int) (m c : Nat) (x : Int) (w : World) (hl : l.length = m) (hm : m ≤ 1000000) (hr : Row w A (zs l)) :
  Calls Tryz.prog 110 #[.slice A m c, .int .i64 x] w fun e w' => ∃ z : Int, e = .returned (.int .i64 z) ∧ ((z = -1 ∧ x ∉ l) ∨ (0 ≤ z ∧ x ∈ l)) ∧ w = w' := by
 have HR := Lib.hid hr
 have HM := Lib.hid hl
 clear hr hl
 go_enter Tryz.func110, Tryz.ntmps110
 go_wp2
 go_loopw [8] (fun i wr => ∃ t : Nat, t ≤ m ∧ i = .int .i64 t ∧ Hid (x ∉ l.take t) ∧ w = wr) (fun i _ => m - (intOf i).toNat)
 case atStart => exact ⟨0, by omega, rfl, Lib.hid (by simp), rfl⟩
 case round =>
  obtain ⟨t, ht, rfl, HN, rfl⟩ := hrel
  by_cases htm : t < m
  ·have hti : t < l.length := by rw [HM.out]; exact htm
   obtain ⟨b, off, rfl, hcell⟩ := zs_at HR.out hti
   have HE : Hid (l.take (t + 1) = l.take t ++ [l[t]]) := Lib.hid (take_succ' l hti)
   have HI : Hid (l[t] ∈ l) := Lib.hid (List.getElem_mem hti)
   obtain ⟨y, hy⟩ : ∃ y, l[t] = y := ⟨_, rfl⟩
   rw [hy] at hcell HE HI
   by_cases hxy : x = y
   ·have hb : ((x : Int) == y) = true := by simp [hxy]
    have HX : Hid (x ∈ l) := Lib.hid (by rw [hxy]; exact HI.out)
    clear hy hxy
    go_wp2
    go_ret
    exact ⟨t, rfl, .inr ⟨by omega, HX.out⟩, rfl⟩
   ·have hb : ((x : Int) == y) = false := by simp [hxy]
    have HN2 : Hid (x ∉ l.take (t + 1)) := Lib.hid (by rw [HE.out]; simp; exact ⟨HN.out, hxy⟩)
    clear hy hxy
    go_wp2
    go_roundw
    case rel => exact ⟨t + 1, by omega, by go_num, HN2, by first | rfl | trivial⟩
    case measure => simp [intOf]; omega
  ·obtain rfl : t = m := by omega
   have hn := HN.out
   rw [List.take_of_length_le (by rw [HM.out]; exact Nat.le_refl _)] at hn
   have HX := Lib.hid hn
   clear hn HN
   go_wp2
   go_ret
   exact ⟨-1, rfl, .inl ⟨rfl, HX.out⟩, rfl⟩
theorem contains_calls (A : Option Addr) (l : List Int) (m c : Nat) (x : Int) (w : World) (hl : l.length = m) (hm : m ≤ 1000000) (hr : Row w A (zs l)) :
  Calls Tryz.prog 78 #[.slice A m c, .int .i64 x] w fun e w' => e = .returned (.bool (decide (x ∈ l))) ∧ w = w' := by
 have HI := Lib.hid (index_calls A l m c x w hl hm hr)
 clear hr hl
 go_enter Tryz.func78, Tryz.ntmps78
 go_wp2_with fail
 refine HI.out.mono ?_
 rintro e w1 ⟨z, rfl, hz, rfl⟩
 rcases hz with ⟨rfl, hx⟩ | ⟨hz, hx⟩
 ·have HX : Hid (decide (x ∈ l) = false) := Lib.hid (decide_eq_false hx)
  clear hx
  go_wp2
  go_ret
  exact ⟨by rw [HX.out]; rfl, rfl⟩
 ·have HX : Hid (decide (x ∈ l) = true) := Lib.hid (decide_eq_true hx)
  have hd : decide (z ≥ 0) = true := by simpa using hz
  clear hx
  go_wp2
  go_ret
  exact ⟨by rw [HX.out]; rfl, rfl⟩
end Go.Proofs.YtjoghbmedfmioaaGreat.Ms

namespace Go.Proofs.YtjoghbmedfmioaaGreat.Ms
open Go.RowKit Go.Shelf F8 Poly GF Rd
attribute [local go_sem] Oper.semAt_some
def colOf (l : List El) (col : Nat) : List F8 := l.map fun e => coef e.s col
set_option maxRecDepth 100000 in
set_option maxHeartbeats 2000000 in
theorem columnOf_calls (g : Nat) (A : Option Addr) (l : List El) (m c col : Nat) (w : World) (hl : l.length = m) (hm : m ≤ 1000) (hr : Row w A (cells1 l)) (hL : Lst g w l) (hc : ∀ e ∈ l, col < e.s.length) (hcol : col ≤ 1000) :
  Calls Tryz.prog 96 #[.slice A m c, .int .i64 (col : Nat)] w (ROwn w (colOf l col) m) := by
 have HR := Lib.hid hr
 have HL := Lib.hid hL
 have HC := Lib.hid hc
 have HM := Lib.hid hl
 clear hr hL hc hl
 go_enter Tryz.func96, Tryz.ntmps96
 go_wp2
 go_loopw [5, 10] (fun o i wr => ∃ t : Nat, t ≤ m ∧ i = .int .i64 t ∧ Hid (Own wr w.heap.size 5 o (bv (bs (colOf (l.take t) col)))) ∧ Hid (Below w.heap.size w wr)) (fun _ i _ => m - (intOf i).toNat)
 case atStart => exact ⟨0, by omega, rfl, Lib.hid (Own.nil _ _ _), Lib.hid (Below.refl _ _)⟩
 case round =>
  obtain ⟨t, ht, rfl, HO, HW⟩ := hrel
  by_cases htm : t < m
  ·have hti : t < l.length := by rw [HM.out]; exact htm
   obtain ⟨b, off, rfl, hcell⟩ := cells1_at (HR.out.below HW.out) hti
   have HE : Hid (colOf (l.take (t + 1)) col = colOf (l.take t) col ++ [coef (l[t]).s col]) := Lib.hid (by rw [take_succ' l hti, colOf, List.map_append]; rfl)
   have HN : Hid ((bv (bs (colOf (l.take t) col))).length = t) := Lib.hid (by rw [bvs_length, colOf, List.length_map, List.length_take, HM.out]; omega)
   obtain ⟨e, he⟩ : ∃ e, l[t] = e := ⟨_, rfl⟩
   have hem : e ∈ l := he ▸ List.getElem_mem hti
   rw [he] at hcell HE
   have hcl : col < e.s.length := HC.out e hem
   obtain ⟨hbf, hec⟩ := HL.out e hem
   obtain ⟨eA, hA⟩ : ∃ a, e.A = a := ⟨_, rfl⟩
   obtain ⟨es, hs⟩ : ∃ a, e.s = a := ⟨_, rfl⟩
   obtain ⟨ec, hcc⟩ : ∃ a, e.c = a := ⟨_, rfl⟩
   obtain ⟨en, hn⟩ : ∃ a, es.length = a := ⟨_, rfl⟩
   have hby := (hbf.below HW.out).by_
   rw [hA, hs] at hby
   rw [hA, hs, hcc, hn] at hcell
   rw [hs] at HE hcl
   obtain ⟨b2, o2, rfl⟩ := where_ hby (by omega)
   have hc2 := cellAt hby col hcl
   rw [hn] at hcl
   obtain ⟨x, hx⟩ : ∃ x, coef es col = x := ⟨_, rfl⟩
   rw [hx] at hc2 HE
   have hsz := HW.out.size
   have HX := Lib.hid (bvs_snoc (colOf (l.take t) col) x)
   clear hn hx hby hbf hec hem he hA hs hcc
   go_wp2_with (at_builtin; refine wpList_app _ rfl _ _ _ rfl w.heap.size 5 _ 1 Tryz.underlying34 info_u8 rfl (by omega) _ _ rfl (HO.out.alloc _) (some ⟨wr.heap.size, 0, none⟩) 1 1 (bv [x.n]) rfl rfl (Row.new _ _ _ _) (bv_one _) (by rw [HN.out]; omega) (by simp; omega) ?_; rintro v2 w3 hown hg3 -)
   have hB3 := (HW.out.alloc hsz (.cells #[.int .u8 (x.n : Int)] 5)).trans ((HO.out.alloc _).grew (by simp; omega) hg3)
   rw [← HX.out, ← HE.out] at hown
   have HO3 := Lib.hid hown
   have HW3 := Lib.hid hB3
   clear hown hg3 hB3
   go_roundw
   case rel => exact ⟨t + 1, by omega, by go_num, HO3, HW3⟩
   case measure => simp [intOf]; omega
  ·obtain rfl : t = m := by omega
   have hown := HO.out
   rw [List.take_of_length_le (by rw [HM.out]; exact Nat.le_refl _)] at hown
   obtain ⟨B, d, rfl, hd⟩ := Own.shape hown
   have hcl : (colOf l col).length = t := by rw [colOf, List.length_map, HM.out]
   rw [hcl] at hown hd ⊢
   have hX : ROwn w (colOf l col) t (.returned (.slice B t d)) wr := ⟨B, d, rfl, hd, hown, HW.out⟩
   clear hown hd hcl HO
   go_wp2
   go_ret
   exact hX
def accV (acc : Nat → Nat) : List Value := (List.range 255).map fun p => .int .i64 (acc p : Int)
theorem accV_at {w : World} {A : Option Addr} {acc : Nat → Nat} (h : Row w A (accV acc)) {i : Nat} (hi : i < 255) : ∃ b off, A = some ⟨b, off, none⟩ ∧ w.cell? ⟨b, off + i, none⟩ = some (.int .i64 (acc i : Int)) := h i _ (by simp [accV, hi])
def sureTo (acc : Nat → Nat) (T i : Nat) : List Int := ((List.range i).filter fun p => decide (T < acc p)).map fun p : Nat => (p : Int)
theorem sureTo_succ (acc : Nat → Nat) (T i : Nat) : sureTo acc T (i + 1) = sureTo acc T i ++ if T < acc i then [(i : Int)] else [] := by
 unfold sureTo
 rw [List.range_succ, List.filter_append, List.map_append, List.filter_cons]
 by_cases h : T < acc i <;> simp [h]
theorem sureTo_length (acc : Nat → Nat) (T i : Nat) : (sureTo acc T i).length ≤ i := by
 unfold sureTo; rw [List.length_map]; have := List.length_filter_le (fun p => decide (T < acc p)) (List.range i); rw [List.length_range] at this; exact this
set_option maxRecDepth 100000 in
set_option maxHeartbeats 2000000 in
theorem above_calls (A : Option Addr) (acc : Nat → Nat) (c T : Nat) (w : World) (hr : Row w A (accV acc)) (ha : ∀ p, acc p ≤ 1000000) :
  Calls Tryz.prog 102 #[.slice A 255 c, .int .i64 (T : Nat)] w fun e w' => ∃ B d, e = .returned (.slice B (sureL acc T).length d) ∧ (sureL acc T).length ≤ d ∧ Own w' w.heap.size 3 (.slice B (sureL acc T).length d) (zs (sureL acc T)) ∧ Below w.heap.size w w' := by
 have HR := Lib.hid hr
 have HA := Lib.hid ha
 clear hr ha
 go_enter Tryz.func102, Tryz.ntmps102
 go_wp2
 go_loopw [5, 10] (fun o i wr => ∃ t : Nat, t ≤ 255 ∧ i = .int .i64 t ∧ Hid (Own wr w.heap.size 3 o (zs (sureTo acc T t))) ∧ Hid (Below w.heap.size w wr)) (fun _ i _ => 255 - (intOf i).toNat)
 case atStart => exact ⟨0, by omega, rfl, Lib.hid (Own.nil _ _ _), Lib.hid (Below.refl _ _)⟩
 case round =>
  obtain ⟨t, ht, rfl, HO, HW⟩ := hrel
  by_cases htm : t < 255
  ·obtain ⟨b, off, rfl, hcell⟩ := accV_at (HR.out.below HW.out) htm
   have HE := Lib.hid (sureTo_succ acc T t)
   have HN : Hid ((zs (sureTo acc T t)).length ≤ t) := Lib.hid (by rw [zs_length]; exact sureTo_length _ _ _)
   have hab := HA.out t
   obtain ⟨x, hx⟩ : ∃ x, acc t = x := ⟨_, rfl⟩
   rw [hx] at hcell HE hab
   have hsz := HW.out.size
   by_cases hgt : T < x
   ·have hgt' : decide ((x : Int) > (T : Int)) = true := by simp; omega
    have HE2 : Hid (sureTo acc T (t + 1) = sureTo acc T t ++ [(t : Int)]) := Lib.hid (by rw [HE.out, if_pos hgt])
    clear HE hx
    go_wp2_with (at_builtin; refine wpList_app _ rfl _ _ _ rfl w.heap.size 3 _ 8 Tryz.underlying44 info_i rfl (by omega) _ _ rfl (HO.out.alloc _) (some ⟨wr.heap.size, 0, none⟩) 1 1 (zs [(t : Int)]) rfl rfl (Row.new _ _ _ _) (zs_one _) (by have := HN.out; omega) (by simp; omega) ?_; rintro v2 w3 hown hg3 -)
    have hB3 := (HW.out.alloc hsz (.cells #[.int .i64 (t : Int)] 3)).trans ((HO.out.alloc _).grew (by simp; omega) hg3)
    rw [← zs_append, ← HE2.out] at hown
    have HO3 := Lib.hid hown
    have HW3 := Lib.hid hB3
    clear hown hg3 hB3
    go_roundw
    case rel => exact ⟨t + 1, by omega, by go_num, HO3, HW3⟩
    case measure => simp [intOf]; omega
   ·have hgt' : decide ((x : Int) > (T : Int)) = false := by simp; omega
    have HE2 : Hid (sureTo acc T (t + 1) = sureTo acc T t) := Lib.hid (by rw [HE.out, if_neg hgt, List.append_nil])
    have h9 := HO.out
    rw [← HE2.out] at h9
    have HO3 := Lib.hid h9
    clear h9
    clear HE hx
    go_wp2
    go_roundw
    case rel => exact ⟨t + 1, by omega, by go_num, HO3, HW⟩
    case measure => simp [intOf]; omega
  ·obtain rfl : t = 255 := by omega
   have hown := HO.out
   have e1 : sureTo acc T 255 = sureL acc T := rfl
   rw [e1] at hown
   obtain ⟨B, d, rfl, hr, -⟩ := hown.form
   have hcap : (sureL acc T).length ≤ d := own_cap2 (n := (sureL acc T).length) (by rw [zs_length] at hown; exact hown) (zs_length _)
   rw [zs_length] at hown ⊢
   have hX : ∃ B' d', Ending.returned (.slice B (sureL acc T).length d) = .returned (.slice B' (sureL acc T).length d') ∧ (sureL acc T).length ≤ d' ∧ Own wr w.heap.size 3 (.slice B' (sureL acc T).length d') (zs (sureL acc T)) ∧ Below w.heap.size w wr := ⟨B, d, rfl, hcap, hown, HW.out⟩
   clear hown HO hr hcap e1
   go_wp2
   go_ret
   exact hX
end Go.Proofs.YtjoghbmedfmioaaGreat.Ms

namespace Go.Proofs.YtjoghbmedfmioaaGreat.Ms
open Go.RowKit Go.Shelf F8 Poly GF Rd
attribute [local go_sem] Oper.semAt_some
section
variable {S : Co} {w : World} (h : S.Ok w)
include h
theorem mbw1_calls (q : Nat) (hq : Block w q 57 #[.pointer (some ⟨S.b, 0, none⟩)]) (p : Int) :
  Calls Tryz.prog 143 #[.int .i64 p, .pointer (some ⟨q, 0, none⟩)] w fun e w' => e = .returned (.bool (decide (p < (S.v : Int)))) ∧ w = w' := by
 obtain ⟨c0, c1, c2, c3, c4, c5, -⟩ := h.cells
 have hq0 := hq.cell 0
 clear h hq
 go_enter Tryz.func143, Tryz.ntmps143
 go_wp2
 go_ret
 exact ⟨rfl, rfl⟩
set_option maxRecDepth 100000 in
set_option maxHeartbeats 1000000 in
theorem mbwIndex_calls (q : Nat) (hq : Block w q 57 #[.pointer (some ⟨S.b, 0, none⟩)]) (A : Option Addr) (l : List Int) (m c : Nat) (hl : l.length = m) (hm : m ≤ 1000000) (hr : Row w A (zs l)) :
  Calls Tryz.prog 168 #[.slice A m c, .func (.func 143) #[] #[.pointer (some ⟨q, 0, none⟩)]] w fun e w' => ∃ z : Int, e = .returned (.int .i64 z) ∧ ((z = -1 ∧ ∀ p ∈ l, (S.v : Int) ≤ p) ∨ (0 ≤ z ∧ ∃ p ∈ l, p < (S.v : Int))) ∧ w = w' := by
 have HR := Lib.hid hr
 have HM := Lib.hid hl
 have HF := Lib.hid (mbw1_calls h q hq)
 clear hr hl h hq
 go_enter Tryz.func168, Tryz.ntmps168
 go_wp2
 go_loopw [8] (fun i wr => ∃ t : Nat, t ≤ m ∧ i = .int .i64 t ∧ Hid (∀ p ∈ l.take t, (S.v : Int) ≤ p) ∧ w = wr) (fun i _ => m - (intOf i).toNat)
 case atStart => exact ⟨0, by omega, rfl, Lib.hid (by simp), rfl⟩
 case round =>
  obtain ⟨t, ht, rfl, HN, rfl⟩ := hrel
  by_cases htm : t < m
  ·have hti : t < l.length := by rw [HM.out]; exact htm
   obtain ⟨b, off, rfl, hcell⟩ := zs_at HR.out hti
   have HE : Hid (l.take (t + 1) = l.take t ++ [l[t]]) := Lib.hid (take_succ' l hti)
   have HI : Hid (l[t] ∈ l) := Lib.hid (List.getElem_mem hti)
   obtain ⟨y, hy⟩ : ∃ y, l[t] = y := ⟨_, rfl⟩
   rw [hy] at hcell HE HI
   clear hy
   by_cases hxy : y < (S.v : Int)
   ·have HB : Hid (decide (y < (S.v : Int)) = true) := Lib.hid (decide_eq_true hxy)
    have HX : Hid (∃ p ∈ l, p < (S.v : Int)) := Lib.hid ⟨y, HI.out, hxy⟩
    clear hxy
    go_wp2_with (go_at_call 143; refine (HF.out y).mono ?_; rintro e w1 ⟨rfl, rfl⟩; rw [HB.out])
    go_ret
    exact ⟨t, rfl, .inr ⟨by omega, HX.out⟩, rfl⟩
   ·have HB : Hid (decide (y < (S.v : Int)) = false) := Lib.hid (decide_eq_false hxy)
    have HN2 : Hid (∀ p ∈ l.take (t + 1), (S.v : Int) ≤ p) := Lib.hid (fun p hp => by
     rw [HE.out] at hp
     rcases List.mem_append.1 hp with hp | hp
     ·exact HN.out p hp
     ·have : p = y := by simpa using hp
      omega)
    clear hxy
    go_wp2_with (go_at_call 143; refine (HF.out y).mono ?_; rintro e w1 ⟨rfl, rfl⟩; rw [HB.out])
    go_roundw
    case rel => exact ⟨t + 1, by omega, by go_num, HN2, by first | rfl | trivial⟩
    case measure => simp [intOf]; omega
  ·obtain rfl : t = m := by omega
   have hn := HN.out
   rw [List.take_of_length_le (by rw [HM.out]; exact Nat.le_refl _)] at hn
   have HX := Lib.hid hn
   clear hn HN
   go_wp2
   go_ret
   exact ⟨-1, rfl, .inl ⟨rfl, HX.out⟩, rfl⟩
theorem mbwContains_calls (q : Nat) (hq : Block w q 57 #[.pointer (some ⟨S.b, 0, none⟩)]) (A : Option Addr) (l : List Int) (m c : Nat) (hl : l.length = m) (hm : m ≤ 1000000) (hr : Row w A (zs l)) :
  Calls Tryz.prog 142 #[.slice A m c, .func (.func 143) #[] #[.pointer (some ⟨q, 0, none⟩)]] w fun e w' => e = .returned (.bool (!decide (∀ p ∈ l, (S.v : Int) ≤ p))) ∧ w = w' := by
 have HI := Lib.hid (mbwIndex_calls h q hq A l m c hl hm hr)
 clear hr hl h hq
 go_enter Tryz.func142, Tryz.ntmps142
 go_wp2_with fail
 refine HI.out.mono ?_
 rintro e w1 ⟨z, rfl, hz, rfl⟩
 rcases hz with ⟨rfl, hx⟩ | ⟨hz, p, hp, hx⟩
 ·have HX : Hid ((!decide (∀ p ∈ l, (S.v : Int) ≤ p)) = false) := Lib.hid (by rw [decide_eq_true hx]; rfl)
  clear hx
  go_wp2
  go_ret
  exact ⟨by rw [HX.out]; rfl, rfl⟩
 ·have HX : Hid ((!decide (∀ p ∈ l, (S.v : Int) ≤ p)) = true) := Lib.hid (by rw [decide_eq_false (fun hh => by have := hh p hp; omega)]; rfl)
  have hd : decide (z ≥ 0) = true := by simpa using hz
  clear hx hp
  go_wp2
  go_ret
  exact ⟨by rw [HX.out]; rfl, rfl⟩
instance (v : Nat) (A : List Int) (t : Nat) : Decidable (May v A t) := inferInstanceAs (Decidable (_ ∧ _))
set_option maxHeartbeats 1000000 in
theorem mayBeWrong_calls (A : Option Addr) (l : List Int) (m c t : Nat) (hl : l.length = m) (hm : m ≤ 1000000) (hr : Row w A (zs l)) :
  Calls Tryz.prog 100 #[.pointer (some ⟨S.b, 0, none⟩), .slice A m c, .int .i64 (t : Nat)] w fun e w' => e = .returned (.bool (decide (May S.v l t))) ∧ Below w.heap.size w w' := by
 have hal : Below w.heap.size w (w.alloc (.cells #[.pointer (some ⟨S.b, 0, none⟩)] 57)) := (Below.refl _ _).alloc (Nat.le_refl _) _
 have HF := Lib.hid (mbwContains_calls (h.below hal) w.heap.size (Block.new _ _ _) A l m c hl hm (hr.below hal))
 have HM := Lib.hid hl
 have HAl := Lib.hid hal
 clear hr hl h hal
 by_cases hmt : m ≤ t
 ·have HX : Hid ((!(!decide (∀ p ∈ l, (S.v : Int) ≤ p))) = decide (May S.v l t)) := Lib.hid (by
   rw [Bool.not_not, Bool.eq_iff_iff, decide_eq_true_iff, decide_eq_true_iff]
   exact ⟨fun hp => ⟨by rw [HM.out]; exact hmt, hp⟩, fun hp => hp.2⟩)
  have hd : decide ((m : Int) ≤ (t : Int)) = true := by simp; omega
  obtain ⟨bb, hbb⟩ : ∃ bb, decide (∀ p ∈ l, (S.v : Int) ≤ p) = bb := ⟨_, rfl⟩
  rw [hbb] at HF HX
  clear hbb
  go_enter Tryz.func100, Tryz.ntmps100
  go_wp2_with (go_at_call 142; refine HF.out.mono ?_; rintro e w1 ⟨rfl, rfl⟩)
  go_ret
  first | exact ⟨ret_bool HX.out, HAl.out⟩ | exact ⟨ret_bool ((Bool.not_not _).symm.trans HX.out), HAl.out⟩
 ·have HX : Hid (decide (May S.v l t) = false) := Lib.hid (decide_eq_false (fun hp => by have := hp.1; rw [HM.out] at this; omega))
  have hd : decide ((m : Int) ≤ (t : Int)) = false := by simp; omega
  go_enter Tryz.func100, Tryz.ntmps100
  go_wp2
  go_ret
  exact ⟨ret_bool HX.out.symm, HAl.out⟩
end
def Is (l : List El) (L : List (Nat × List F8)) : Prop := l.map (fun e => (e.p, e.s)) = L.map fun o => ((o.1 : Int), o.2)
section
variable {l r : List El} {L R : List (Nat × List F8)}
theorem Is.nil : Is [] [] := rfl
theorem Is.append (h : Is l L) (h' : Is r R) : Is (l ++ r) (L ++ R) := by unfold Is at *; rw [List.map_append, List.map_append, h, h']
theorem Is.length (h : Is l L) : l.length = L.length := by have := congrArg List.length h; simpa using this
theorem Is.get (h : Is l L) {i : Nat} (hi : i < l.length) (hi2 : i < L.length) : (l[i]).p = ((L[i]).1 : Int) ∧ (l[i]).s = (L[i]).2 := by
 have : (l.map (fun e => (e.p, e.s)))[i]? = (L.map fun o => ((o.1 : Int), o.2))[i]? := by rw [h]
 simp [hi, hi2] at this
 exact this
theorem Is.one (p : Nat) (A : Option Addr) (s : List F8) (c : Nat) : Is [⟨p, A, s, c⟩] [(p, s)] := rfl
end
theorem vir_succ (v a : Nat) : vir (v + 1) a = vir v a ++ [(v, List.replicate a 0)] := by unfold vir; rw [List.range_succ, List.map_append]; rfl
def Stored (w : World) (L : List (Nat × List F8)) (e : Ending) (w' : World) : Prop :=
 ∃ A c l, e = .returned (.slice A L.length c) ∧ L.length ≤ c ∧ OwnK 2 w' w.heap.size 115 (.slice A L.length c) L.length (cells2 l) ∧ Is l L ∧ LstO w' w.heap.size l ∧ Below w.heap.size w w'
set_option maxRecDepth 100000 in
set_option maxHeartbeats 2000000 in
theorem virtualOnes_calls {S : Co} {w : World} (h : S.Ok w) : Calls Tryz.prog 57 #[.pointer (some ⟨S.b, 0, none⟩)] w (Stored w (vir S.v S.a)) := by
 obtain ⟨c0, c1, c2, c3, c4, c5, -⟩ := h.cells
 have H := Lib.hid h
 have hn := h.nums
 have hv : S.v ≤ 15 := hn.2.2.2.2.1
 have ha : S.a ≤ 16 := hn.2.1
 clear h hn
 go_enter Tryz.func57, Tryz.ntmps57
 go_wp2
 clear c0 c1 c2 c3 c4 c5
 go_loopw [3, 9] (fun o i wr => ∃ (t : Nat) (l : List El), t ≤ S.v ∧ i = .int .i64 t ∧ Hid (OwnK 2 wr w.heap.size 115 o t (cells2 l)) ∧ Hid (Is l (vir t S.a)) ∧ Hid (LstO wr w.heap.size l) ∧ Hid (Below w.heap.size w wr)) (fun _ i _ => S.v - (intOf i).toNat)
 case atStart => exact ⟨0, [], by omega, rfl, Lib.hid (OwnK.nil _ _ _ _), Lib.hid Is.nil, Lib.hid (LstO.nil _ _), Lib.hid (Below.refl _ _)⟩
 case round =>
  obtain ⟨t, l, ht, rfl, HO, HI, HL, HW⟩ := hrel
  by_cases htm : t < S.v
  ·obtain ⟨c0, c1, c2, c3, c4, c5, -⟩ := (H.out.below HW.out).cells
   obtain ⟨w1, hmk, hO1, hB1⟩ := make_run wr S.a (by omega)
   have hsz := HW.out.size
   have HS : Hid (S.Ok wr) := Lib.hid (H.out.below HW.out)
   have HB1 := Lib.hid hB1
   have HO1 := Lib.hid hO1
   have HOw := Lib.hid (HO.out.below hB1)
   have hs1 := hB1.size
   have hrow : Row (w1.alloc (.cells #[.int .i64 (t : Int), .slice (some ⟨wr.heap.size, 0, none⟩) S.a S.a] 115)) (some ⟨w1.heap.size, 0, none⟩) (cells2 [⟨(t : Int), some ⟨wr.heap.size, 0, none⟩, List.replicate S.a 0, S.a⟩]) := by
    have := Row.new w1 #[.int .i64 (t : Int), .slice (some ⟨wr.heap.size, 0, none⟩) S.a S.a] 115 (0, 0)
    simpa [cells2, El.cs] using this
   have HRow := Lib.hid hrow
   clear hO1 hB1 hrow
   go_wp2_with (at_builtin; refine wpList_appK _ rfl 2 _ _ _ rfl w.heap.size 115 _ 32 Tryz.underlying112 info_stored rfl (by omega) (by omega) _ t _ rfl (HOw.out.alloc _) ⟨w1.heap.size, 0, none⟩ 1 1 (cells2 [⟨(t : Int), some ⟨wr.heap.size, 0, none⟩, List.replicate S.a 0, S.a⟩]) rfl rfl HRow.out (cells2_one _) (by omega) (by simp; omega) ?_; rintro v2 w3 hown hg3 -)
   have hal : Below w1.heap.size w1 (w1.alloc (.cells #[.int .i64 (t : Int), .slice (some ⟨wr.heap.size, 0, none⟩) S.a S.a] 115)) := (Below.refl _ _).alloc (Nat.le_refl _) _
   have hg : Below w.heap.size (w1.alloc (.cells #[.int .i64 (t : Int), .slice (some ⟨wr.heap.size, 0, none⟩) S.a S.a] 115)) w3 := (HOw.out.alloc _).grew (by simp; omega) hg3
   have hbw : Below w.heap.size wr w3 := ((HB1.out.mono hsz).trans (hal.mono (by omega))).trans hg
   have HW3 := Lib.hid (HW.out.trans hbw)
   have hLO : LstO w1 w.heap.size (l ++ [⟨(t : Int), some ⟨wr.heap.size, 0, none⟩, List.replicate S.a 0, S.a⟩]) := (HL.out.below HB1.out).append (LstO.one (by
    have := HO1.out.more hsz
    show Own w1 w.heap.size 5 (.slice (some ⟨wr.heap.size, 0, none⟩) (List.replicate S.a (0 : F8)).length S.a) _
    rw [List.length_replicate]; exact this))
   have HL3 := Lib.hid ((hLO.below hal).grown (HOw.out.alloc _) (by decide) hg3)
   have HI3 : Hid (Is (l ++ [⟨(t : Int), some ⟨wr.heap.size, 0, none⟩, List.replicate S.a 0, S.a⟩]) (vir (t + 1) S.a)) := Lib.hid (by rw [vir_succ]; exact HI.out.append (Is.one t _ _ _))
   rw [← cells2_append] at hown
   have HO3 := Lib.hid hown
   clear hown hg3 hal hg hbw hLO
   go_roundw
   case rel => exact ⟨t + 1, _, by omega, by go_num, HO3, HI3, HL3, HW3⟩
   case measure => simp [intOf]; omega
  ·obtain rfl : t = S.v := by omega
   obtain ⟨A, c, rfl, hc, -, -⟩ := HO.out.shape
   have hX : Stored w (vir S.v S.a) (.returned (.slice A S.v c)) wr := ⟨A, c, l, by rw [vir_length], by rw [vir_length]; exact hc, by rw [vir_length]; exact HO.out, HI.out, HL.out, HW.out⟩
   clear hc HO HI HL
   go_wp2
   go_ret
   exact hX
end Go.Proofs.YtjoghbmedfmioaaGreat.Ms
