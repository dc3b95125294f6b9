/- What the definition's Tells and New of codes repaired within groups and New of codes repaired by copying do (as in layers 11 and 12, over nothing of the program). -/
import Derived.Test.YtikfjbomogekbaaKit
import Derived.Test.YtikfjbomogekbaaRows
import Derived.Below
import Derived.Lib.Hide
import Derived.WalkKit
import Derived.ProofKit
import Derived.Deep.RegionHeld
import Derived.BigQuiet
import Derived.Lib.QuietBelow
namespace Go.Proofs.Ytikfjbomogekbaa.Cf.R12
open Go.RowKit
attribute [local go_sem] Oper.semAt_some

def Good (n k r : Int) : Prop := 1 ≤ r ∧ r ≤ 254 ∧ (r + 1) ∣ 255 ∧ (r + 1) ∣ n ∧ n ≤ 255 ∧ 1 ≤ k ∧ r ∣ k ∧ k + k / r - 1 ≤ n
instance (n k r : Int) : Decidable (Good n k r) := inferInstanceAs (Decidable (_ ∧ _))
/-- Tells. -/
theorem refTells_calls (n k r : Int) (hk0 : 0 ≤ k) (hk : k ≤ 1000) (hr : 1 ≤ r) (w : World) : Calls Try.prog 53 #[.agg #[.int .i64 n, .int .i64 k, .int .i64 r]] w fun e w' => e = .returned (.int .i64 (k + k / r - 1)) ∧ Below w.heap.size w w' := by
  obtain ⟨V, hV⟩ : ∃ V, w.alloc (.cells #[.int .i64 n, .int .i64 k, .int .i64 r] 110) = V := ⟨_, rfl⟩
  have hb : Below w.heap.size w V := by rw [← hV]; exact (Below.refl _ _).alloc (Nat.le_refl _) _
  have hbl : Block V w.heap.size 110 #[.int .i64 n, .int .i64 k, .int .i64 r] := by rw [← hV]; exact Block.new w _ _
  have HSc : Hid (V.drew.cell? ⟨w.heap.size, 1, none⟩ = some (.int .i64 k) ∧ V.drew.cell? ⟨w.heap.size, 2, none⟩ = some (.int .i64 r)) := Lib.hid ⟨hbl.cell 1, hbl.cell 2⟩
  have HB := Lib.hid hb
  have hd : k.tdiv r = k / r := Int.tdiv_eq_ediv_of_nonneg hk0
  have hle : k / r ≤ k := Int.ediv_le_self _ hk0
  have hge : 0 ≤ k / r := Int.ediv_nonneg hk0 (by omega)
  obtain ⟨d, hd'⟩ : ∃ d, k / r = d := ⟨_, rfl⟩
  rw [hd'] at hd hle hge ⊢
  have hr0 : ¬ r = 0 := by omega
  have hr1 : (r == 0) = false := by simp; omega
  have w1 : IntKind.i64.wrap (k + d) = k + d := IntWalk.i64_in _ (by omega)
  have w2 : IntKind.i64.wrap (k + d - 1) = k + d - 1 := IntWalk.i64_in _ (by omega)
  have w3 : IntKind.i64.wrap d = d := IntWalk.i64_in _ (by omega)
  clear hb hbl hd'
  go_enter Try.func53, Try.ntmps53
  go_wp2
  go_region_held (fun X => X.cell? ⟨w.heap.size, 1, none⟩ = some (.int .i64 k) ∧ X.cell? ⟨w.heap.size, 2, none⟩ = some (.int .i64 r)) (with_reducible exact HSc.out) (fail)
  go_wp2
  go_ret
  exact ⟨rfl, HB.out.drew⟩
def newZ (n k r : Int) : Int := if Good n k r then 0 else 2
theorem good_n {n k r : Int} (hg : Good n k r) : 1 ≤ n ∧ k ≤ 255 := by
  obtain ⟨a1, -, -, -, b5, b6, b7, b8⟩ := hg
  have h9 : 1 ≤ k / r := Int.le_ediv_of_mul_le (by omega) (by have := Int.le_of_dvd (by omega) b7; omega)
  omega
set_option maxRecDepth 100000 in
set_option maxHeartbeats 16000000 in
theorem refNew_calls (n k r : Int) (w : World) : Calls Try.prog 52 #[.agg #[.int .i64 n, .int .i64 k, .int .i64 r]] w fun e w' => e = .returned (.int .i64 (newZ n k r)) ∧ Below w.heap.size w w' := by
  obtain ⟨V, hV⟩ : ∃ V, w.alloc (.cells #[.int .i64 n, .int .i64 k, .int .i64 r] 110) = V := ⟨_, rfl⟩
  have hb : Below w.heap.size w V := by rw [← hV]; exact (Below.refl _ _).alloc (Nat.le_refl _) _
  have hbl : Block V w.heap.size 110 #[.int .i64 n, .int .i64 k, .int .i64 r] := by rw [← hV]; exact Block.new w _ _
  have HB := Lib.hid hb
  have X0 := cell_regrown (show V.cell? ⟨w.heap.size, 0, none⟩ = some (.int .i64 n) from hbl.cell 0)
  have X1 := cell_regrown (show V.cell? ⟨w.heap.size, 1, none⟩ = some (.int .i64 k) from hbl.cell 1)
  have X2 := cell_regrown (show V.cell? ⟨w.heap.size, 2, none⟩ = some (.int .i64 r) from hbl.cell 2)
  have hbad : ¬ Good n k r → newZ n k r = 2 := fun h => if_neg h
  clear hb hbl
  by_cases h1 : n < 1
  · have HZ := Lib.hid (hbad fun hg => by have := (good_n hg).1; omega)
    have d1 : decide (n < 1) = true := decide_eq_true h1
    clear h1
    clear hbad
    go_enter Try.func52, Try.ntmps52
    go_wp2_with fail
    clear hV
    refine wp_region_quiet_below (by kernel_rfl) (by kernel_rfl) ?_
    repeat (go_big_quiet_step (fail))
    refine wpQuiet_nil ?_
    intro _ hw'
    obtain ⟨⟨dq, osq⟩, hw''⟩ := hw'
    subst hw''
    have HQ := Lib.hid (HB.out.trans ((below_regrown V dq osq).mono HB.out.size))
    dsimp only
    generalize Sort.grow (redrawn V dq) osq = wq at *
    clear X0 X1 X2
    go_wp2
    go_ret
    exact ⟨by rw [HZ.out]; rfl, HQ.out⟩
  have d1 : decide (n < 1) = false := decide_eq_false h1
  by_cases h2 : n > 255
  · have HZ := Lib.hid (hbad fun hg => by have := hg.2.2.2.2.1; omega)
    have d2 : decide (n > 255) = true := decide_eq_true h2
    clear h2
    clear hbad
    go_enter Try.func52, Try.ntmps52
    go_wp2_with fail
    clear hV
    refine wp_region_quiet_below (by kernel_rfl) (by kernel_rfl) ?_
    repeat (go_big_quiet_step (fail))
    refine wpQuiet_nil ?_
    intro _ hw'
    obtain ⟨⟨dq, osq⟩, hw''⟩ := hw'
    subst hw''
    have HQ := Lib.hid (HB.out.trans ((below_regrown V dq osq).mono HB.out.size))
    dsimp only
    generalize Sort.grow (redrawn V dq) osq = wq at *
    clear X0 X1 X2
    go_wp2
    go_ret
    exact ⟨by rw [HZ.out]; rfl, HQ.out⟩
  have d2 : decide (n > 255) = false := decide_eq_false h2
  by_cases h3 : r < 1
  · have HZ := Lib.hid (hbad fun hg => by have := hg.1; omega)
    have d3 : decide (r < 1) = true := decide_eq_true h3
    clear h3
    clear hbad
    go_enter Try.func52, Try.ntmps52
    go_wp2_with fail
    clear hV
    refine wp_region_quiet_below (by kernel_rfl) (by kernel_rfl) ?_
    repeat (go_big_quiet_step (fail))
    refine wpQuiet_nil ?_
    intro _ hw'
    obtain ⟨⟨dq, osq⟩, hw''⟩ := hw'
    subst hw''
    have HQ := Lib.hid (HB.out.trans ((below_regrown V dq osq).mono HB.out.size))
    dsimp only
    generalize Sort.grow (redrawn V dq) osq = wq at *
    clear X0 X1 X2
    go_wp2
    go_ret
    exact ⟨by rw [HZ.out]; rfl, HQ.out⟩
  have d3 : decide (r < 1) = false := decide_eq_false h3
  by_cases h4 : r > 254
  · have HZ := Lib.hid (hbad fun hg => by have := hg.2.1; omega)
    have d4 : decide (r > 254) = true := decide_eq_true h4
    clear h4
    clear hbad
    go_enter Try.func52, Try.ntmps52
    go_wp2_with fail
    clear hV
    refine wp_region_quiet_below (by kernel_rfl) (by kernel_rfl) ?_
    repeat (go_big_quiet_step (fail))
    refine wpQuiet_nil ?_
    intro _ hw'
    obtain ⟨⟨dq, osq⟩, hw''⟩ := hw'
    subst hw''
    have HQ := Lib.hid (HB.out.trans ((below_regrown V dq osq).mono HB.out.size))
    dsimp only
    generalize Sort.grow (redrawn V dq) osq = wq at *
    clear X0 X1 X2
    go_wp2
    go_ret
    exact ⟨by rw [HZ.out]; rfl, HQ.out⟩
  have d4 : decide (r > 254) = false := decide_eq_false h4
  have hw : IntKind.i64.wrap (r + 1) = r + 1 := IntWalk.i64_in _ (by omega)
  have hs0 : ¬ r + 1 = 0 := by omega
  have hs1 : (r + 1 == 0) = false := by simp; omega
  have hr0 : ¬ r = 0 := by omega
  have hr1 : (r == 0) = false := by simp; omega
  obtain ⟨z5, hz5⟩ : ∃ z, (255 : Int).tmod (r + 1) = z := ⟨_, rfl⟩
  have hd5 : (r + 1) ∣ 255 ↔ z5 = 0 := by rw [← hz5]; exact Int.dvd_iff_tmod_eq_zero
  have hb5 : z5.natAbs < (r + 1).natAbs := by rw [← hz5, Int.natAbs_tmod]; exact Nat.mod_lt _ (by omega)
  have hw5 : IntKind.i64.wrap z5 = z5 := IntWalk.i64_in _ (by omega)
  obtain ⟨z6, hz6⟩ : ∃ z, n.tmod (r + 1) = z := ⟨_, rfl⟩
  have hd6 : (r + 1) ∣ n ↔ z6 = 0 := by rw [← hz6]; exact Int.dvd_iff_tmod_eq_zero
  have hb6 : z6.natAbs < (r + 1).natAbs := by rw [← hz6, Int.natAbs_tmod]; exact Nat.mod_lt _ (by omega)
  have hw6 : IntKind.i64.wrap z6 = z6 := IntWalk.i64_in _ (by omega)
  obtain ⟨z9, hz9⟩ : ∃ z, k.tmod r = z := ⟨_, rfl⟩
  have hd9 : r ∣ k ↔ z9 = 0 := by rw [← hz9]; exact Int.dvd_iff_tmod_eq_zero
  have hb9 : z9.natAbs < r.natAbs := by rw [← hz9, Int.natAbs_tmod]; exact Nat.mod_lt _ (by omega)
  have hw9 : IntKind.i64.wrap z9 = z9 := IntWalk.i64_in _ (by omega)
  have HD := Lib.hid (And.intro hd5 (And.intro hd6 hd9))
  have HH := Lib.hid (And.intro h1 (And.intro h2 (And.intro h3 h4)))
  clear hd5 hd6 hd9 hb5 hb6 hb9 h1 h2 h3 h4
  by_cases h5 : z5 = 0
  rotate_left
  · have HZ := Lib.hid (hbad fun hg => h5 (HD.out.1.1 hg.2.2.1))
    have d5 : (z5 != 0) = true := by simpa using h5
    clear h5
    clear hbad
    go_enter Try.func52, Try.ntmps52
    go_wp2_with fail
    clear hV
    refine wp_region_quiet_below (by kernel_rfl) (by kernel_rfl) ?_
    repeat (go_big_quiet_step (fail))
    refine wpQuiet_nil ?_
    intro _ hw'
    obtain ⟨⟨dq, osq⟩, hw''⟩ := hw'
    subst hw''
    have HQ := Lib.hid (HB.out.trans ((below_regrown V dq osq).mono HB.out.size))
    dsimp only
    generalize Sort.grow (redrawn V dq) osq = wq at *
    clear X0 X1 X2
    go_wp2
    go_ret
    exact ⟨by rw [HZ.out]; rfl, HQ.out⟩
  have d5 : (z5 != 0) = false := by simpa using h5
  have H5 := Lib.hid h5
  clear h5
  by_cases h6 : z6 = 0
  rotate_left
  · have HZ := Lib.hid (hbad fun hg => h6 (HD.out.2.1.1 hg.2.2.2.1))
    have d6 : (z6 != 0) = true := by simpa using h6
    clear h6
    clear hbad
    go_enter Try.func52, Try.ntmps52
    go_wp2_with fail
    clear hV
    refine wp_region_quiet_below (by kernel_rfl) (by kernel_rfl) ?_
    repeat (go_big_quiet_step (fail))
    refine wpQuiet_nil ?_
    intro _ hw'
    obtain ⟨⟨dq, osq⟩, hw''⟩ := hw'
    subst hw''
    have HQ := Lib.hid (HB.out.trans ((below_regrown V dq osq).mono HB.out.size))
    dsimp only
    generalize Sort.grow (redrawn V dq) osq = wq at *
    clear X0 X1 X2
    go_wp2
    go_ret
    exact ⟨by rw [HZ.out]; rfl, HQ.out⟩
  have d6 : (z6 != 0) = false := by simpa using h6
  have H6 := Lib.hid h6
  clear h6
  by_cases h7 : k < 1
  · have HZ := Lib.hid (hbad fun hg => by have := hg.2.2.2.2.2.1; omega)
    have d7 : decide (k < 1) = true := decide_eq_true h7
    clear h7
    clear hbad
    go_enter Try.func52, Try.ntmps52
    go_wp2_with fail
    clear hV
    refine wp_region_quiet_below (by kernel_rfl) (by kernel_rfl) ?_
    repeat (go_big_quiet_step (fail))
    refine wpQuiet_nil ?_
    intro _ hw'
    obtain ⟨⟨dq, osq⟩, hw''⟩ := hw'
    subst hw''
    have HQ := Lib.hid (HB.out.trans ((below_regrown V dq osq).mono HB.out.size))
    dsimp only
    generalize Sort.grow (redrawn V dq) osq = wq at *
    clear X0 X1 X2
    go_wp2
    go_ret
    exact ⟨by rw [HZ.out]; rfl, HQ.out⟩
  have d7 : decide (k < 1) = false := decide_eq_false h7
  by_cases h8 : k > 255
  · have HZ := Lib.hid (hbad fun hg => by have := (good_n hg).2; omega)
    have d8 : decide (k > 255) = true := decide_eq_true h8
    clear h8
    clear hbad
    go_enter Try.func52, Try.ntmps52
    go_wp2_with fail
    clear hV
    refine wp_region_quiet_below (by kernel_rfl) (by kernel_rfl) ?_
    repeat (go_big_quiet_step (fail))
    refine wpQuiet_nil ?_
    intro _ hw'
    obtain ⟨⟨dq, osq⟩, hw''⟩ := hw'
    subst hw''
    have HQ := Lib.hid (HB.out.trans ((below_regrown V dq osq).mono HB.out.size))
    dsimp only
    generalize Sort.grow (redrawn V dq) osq = wq at *
    clear X0 X1 X2
    go_wp2
    go_ret
    exact ⟨by rw [HZ.out]; rfl, HQ.out⟩
  have d8 : decide (k > 255) = false := decide_eq_false h8
  by_cases h9 : z9 = 0
  rotate_left
  · have HZ := Lib.hid (hbad fun hg => h9 (HD.out.2.2.1 hg.2.2.2.2.2.2.1))
    have d9 : (z9 != 0) = true := by simpa using h9
    clear h9
    clear hbad
    go_enter Try.func52, Try.ntmps52
    go_wp2_with fail
    clear hV
    refine wp_region_quiet_below (by kernel_rfl) (by kernel_rfl) ?_
    repeat (go_big_quiet_step (fail))
    refine wpQuiet_nil ?_
    intro _ hw'
    obtain ⟨⟨dq, osq⟩, hw''⟩ := hw'
    subst hw''
    have HQ := Lib.hid (HB.out.trans ((below_regrown V dq osq).mono HB.out.size))
    dsimp only
    generalize Sort.grow (redrawn V dq) osq = wq at *
    clear X0 X1 X2
    go_wp2
    go_ret
    exact ⟨by rw [HZ.out]; rfl, HQ.out⟩
  have d9 : (z9 != 0) = false := by simpa using h9
  have HTe : Hid (∀ X : World, Calls Try.prog 53 #[.agg #[.int .i64 n, .int .i64 k, .int .i64 r]] X fun e w' => e = .returned (.int .i64 (k + k / r - 1)) ∧ Below X.heap.size X w') := Lib.hid (refTells_calls n k r (by omega) (by omega) (by have := HH.out.2.2.1; omega))
  have hle : k / r ≤ k := Int.ediv_le_self _ (by omega)
  have HK := Lib.hid (And.intro h7 (And.intro h8 h9))
  obtain ⟨kd, hkd⟩ : ∃ kd, k + k / r - 1 = kd := ⟨_, rfl⟩
  rw [hkd] at HTe
  have HKd := Lib.hid hkd
  clear hkd hle h7 h8 h9
  by_cases h10 : kd > n
  · have HZ := Lib.hid (hbad fun hg => by have := hg.2.2.2.2.2.2.2; rw [HKd.out] at this; omega)
    have d10 : decide (kd > n) = true := decide_eq_true h10
    clear hbad h10
    go_enter Try.func52, Try.ntmps52
    go_wp2_with fail
    clear hV
    refine wp_region_quiet_below (by kernel_rfl) (by kernel_rfl) ?_
    repeat (go_big_quiet_step ((go_at_call 53; (with_reducible exact Calls.regrown_of (HTe.out _)))))
    refine wpQuiet_nil ?_
    intro _ hw'
    obtain ⟨⟨dq, osq⟩, hw''⟩ := hw'
    subst hw''
    have HQ := Lib.hid (HB.out.trans ((below_regrown V dq osq).mono HB.out.size))
    dsimp only
    generalize Sort.grow (redrawn V dq) osq = wq at *
    clear X0 X1 X2
    go_wp2
    go_ret
    exact ⟨by rw [HZ.out]; rfl, HQ.out⟩
  · have HZ : Hid (newZ n k r = 0) := Lib.hid (if_pos (by
      obtain ⟨h1, h2, h3, h4⟩ := HH.out
      obtain ⟨h7, h8, h9⟩ := HK.out
      exact ⟨by omega, by omega, HD.out.1.2 H5.out, HD.out.2.1.2 H6.out, by omega, by omega, HD.out.2.2.2 h9, by rw [HKd.out]; omega⟩))
    have d10 : decide (kd > n) = false := decide_eq_false h10
    clear hbad h10
    go_enter Try.func52, Try.ntmps52
    go_wp2_with fail
    clear hV
    refine wp_region_quiet_below (by kernel_rfl) (by kernel_rfl) ?_
    repeat (go_big_quiet_step ((go_at_call 53; (with_reducible exact Calls.regrown_of (HTe.out _)))))
    refine wpQuiet_nil ?_
    intro _ hw'
    obtain ⟨⟨dq, osq⟩, hw''⟩ := hw'
    subst hw''
    have HQ := Lib.hid (HB.out.trans ((below_regrown V dq osq).mono HB.out.size))
    dsimp only
    generalize Sort.grow (redrawn V dq) osq = wq at *
    clear X0 X1 X2
    go_wp2
    go_ret
    exact ⟨by rw [HZ.out]; rfl, HQ.out⟩
end Go.Proofs.Ytikfjbomogekbaa.Cf.R12
namespace Go.Proofs.Ytikfjbomogekbaa.Cf.R11
open Go.RowKit
attribute [local go_sem] Oper.semAt_some

theorem ret_int {k : IntKind} {a b : Int} (h : a = b) : Ending.returned (.int k a) = .returned (.int k b) := by rw [h]
def Good (n k : Int) : Prop := 1 ≤ k ∧ k < n ∧ n ≤ 23
instance (n k : Int) : Decidable (Good n k) := inferInstanceAs (Decidable (_ ∧ _))
/-- A code of the definition, in a block of its own. -/
abbrev C2 (b : Nat) (n k : Int) (V : World) : Prop := V.cell? ⟨b, 0, none⟩ = some (.int .i64 n) ∧ V.cell? ⟨b, 1, none⟩ = some (.int .i64 k)
theorem C2.below {b : Nat} {n k : Int} {V V' : World} (h : C2 b n k V) (hb : Below V.heap.size V V') : C2 b n k V' :=
  ⟨(hb.cell (cell_lt h.1)).trans h.1, (hb.cell (cell_lt h.2)).trans h.2⟩
theorem C2.new (w : World) (n k : Int) : C2 w.heap.size n k (w.alloc (.cells #[.int .i64 n, .int .i64 k] 107)) :=
  ⟨(Block.new w 107 #[.int .i64 n, .int .i64 k]).cell 0, (Block.new w 107 #[.int .i64 n, .int .i64 k]).cell 1⟩
def refN (n k : Int) : Int := if Good n k then 0 else 2
set_option maxRecDepth 100000 in
theorem refNew_calls (n k : Int) (w : World) :
    Calls Try.prog 51 #[.agg #[.int .i64 n, .int .i64 k]] w fun e w' => e = .returned (.int .i64 (refN n k)) ∧ Below w.heap.size w w' := by
  have hba : Below w.heap.size w (w.alloc (.cells #[.int .i64 n, .int .i64 k] 107)) := (Below.refl _ _).alloc (Nat.le_refl _) _
  obtain ⟨c0, c1⟩ := C2.new w n k
  have HBa := Lib.hid hba
  clear hba
  by_cases h1 : k < 1
  · have HX : Hid (refN n k = 2) := Lib.hid (if_neg fun h => by have := h.1; omega)
    have d1 : decide (k < 1) = true := by simpa using h1
    go_enter Try.func51, Try.ntmps51
    go_wp2
    go_ret
    exact ⟨ret_int HX.out.symm, HBa.out⟩
  have d1 : decide (k < 1) = false := by simp; omega
  by_cases h2 : n ≤ k
  · have HX : Hid (refN n k = 2) := Lib.hid (if_neg fun h => by have := h.2.1; omega)
    have d2 : decide (n ≤ k) = true := by simpa using h2
    go_enter Try.func51, Try.ntmps51
    go_wp2
    go_ret
    exact ⟨ret_int HX.out.symm, HBa.out⟩
  have d2 : decide (n ≤ k) = false := by simp; omega
  by_cases h3 : n > 23
  · have HX : Hid (refN n k = 2) := Lib.hid (if_neg fun h => by have := h.2.2; omega)
    have d3 : decide (n > 23) = true := by simpa using h3
    go_enter Try.func51, Try.ntmps51
    go_wp2
    go_ret
    exact ⟨ret_int HX.out.symm, HBa.out⟩
  have d3 : decide (n > 23) = false := by simp; omega
  have HX : Hid (refN n k = 0) := Lib.hid (if_pos ⟨by omega, by omega, by omega⟩)
  go_enter Try.func51, Try.ntmps51
  go_wp2
  go_ret
  exact ⟨ret_int HX.out.symm, HBa.out⟩
end Go.Proofs.Ytikfjbomogekbaa.Cf.R11
