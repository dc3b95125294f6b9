/- LocalNew, for every input: the frame round the walk; the argument lists are opened, the walk's contract is met, what was read reads as it did. -/
import Derived.Test.YtofihklinkpbiaaGreatPl01
import Derived.Test.YtofihklinkpbiaaGreatPl02
import Derived.Test.YtofihklinkpbiaaGreatPl03
import Derived.Test.YtofihklinkpbiaaGreatPl04
import Derived.Test.YtofihklinkpbiaaGreatPl05
import Derived.Test.YtofihklinkpbiaaGreatPl06
import Derived.Test.YtofihklinkpbiaaGreatPl07
import Derived.Test.YtofihklinkpbiaaGreatPl08
import Derived.Test.YtofihklinkpbiaaGreatPl09
import Derived.Test.YtofihklinkpbiaaGreatPl10
import Derived.Test.YtofihklinkpbiaaGreatPl11
import Derived.Test.YtofihklinkpbiaaGreatPl12
import Derived.Test.YtofihklinkpbiaaGreatPl13
import Derived.Test.YtofihklinkpbiaaGreatPl14
import Derived.Test.YtofihklinkpbiaaGreatPl15
import Derived.Test.YtofihklinkpbiaaGreatPl16
import Derived.Test.YtofihklinkpbiaaGreatPl17
import Derived.Test.YtofihklinkpbiaaGreatPl18
import Derived.Test.YtofihklinkpbiaaGreatPl19
import Derived.Test.YtofihklinkpbiaaGreatPl20
import Derived.Test.YtofihklinkpbiaaGreatPl21
import Derived.Test.YtofihklinkpbiaaGreatPl22
import Derived.Test.YtofihklinkpbiaaGreatPl23
import Derived.Test.YtofihklinkpbiaaGreatPl24
import Derived.Test.YtofihklinkpbiaaGreatPl25
import Derived.Test.YtofihklinkpbiaaGreatPl26
import Derived.Deep.RegionHeld
import Derived.BigQuiet
import Derived.Lib.QuietBelow
import Derived.WalkKit
import Derived.ProofKit
import Derived.OpenShut
import Derived.ShutString
import Derived.ChangeOld
import Derived.Below
import Derived.Deep.DeepHandedRow
import Derived.SizedLaws
import Derived.Test.YtofihklinkpbiaaGreatRows
namespace Go.Proofs.YtofihklinkpbiaaGreat.Lo
open Go.RowKit Go.Shelf F8 Poly GF Rd Ms
attribute [local go_sem] Oper.semAt_some


theorem refTells_calls (n k r : Int) (hk0 : 0 ≤ k) (hk : k ≤ 1000) (hr : 1 ≤ r) (w : World) : Calls Tryz.prog 30 #[.agg #[.int .i64 n, .int .i64 k, .int .i64 r]] w fun e w' => e = .returned (.int .i64 (k + k / r - 1)) ∧ Below w.heap.size w w' := by
 obtain ⟨V, hV⟩ : ∃ V, w.alloc (.cells #[.int .i64 n, .int .i64 k, .int .i64 r] 56) = V := ⟨_, rfl⟩
 have hb : Below w.heap.size w V := by rw [← hV]; exact (Below.refl _ _).alloc (Nat.le_refl _) _
 have hbl : Block V w.heap.size 56 #[.int .i64 n, .int .i64 k, .int .i64 r] := by rw [← hV]; exact Block.new w _ _
 have HSc : Hid (V.drew.cell? ⟨w.heap.size, 1, none⟩ = some (.int .i64 k) ∧ V.drew.cell? ⟨w.heap.size, 2, none⟩ = some (.int .i64 r)) := Lib.hid ⟨hbl.cell 1, hbl.cell 2⟩
 have HB := Lib.hid hb
 have hd : k.tdiv r = k / r := Int.tdiv_eq_ediv_of_nonneg hk0
 have hle : k / r ≤ k := Int.ediv_le_self _ hk0
 have hge : 0 ≤ k / r := Int.ediv_nonneg hk0 (by omega)
 obtain ⟨d, hd'⟩ : ∃ d, k / r = d := ⟨_, rfl⟩
 rw [hd'] at hd hle hge ⊢
 have hr0 : ¬ r = 0 := by omega
 have hr1 : (r == 0) = false := by simp; omega
 have w1 : IntKind.i64.wrap (k + d) = k + d := IntWalk.i64_in _ (by omega)
 have w2 : IntKind.i64.wrap (k + d - 1) = k + d - 1 := IntWalk.i64_in _ (by omega)
 have w3 : IntKind.i64.wrap d = d := IntWalk.i64_in _ (by omega)
 clear hb hbl hd'
 go_enter Tryz.func30, Tryz.ntmps30
 go_wp2
 go_region_held (fun X => X.cell? ⟨w.heap.size, 1, none⟩ = some (.int .i64 k) ∧ X.cell? ⟨w.heap.size, 2, none⟩ = some (.int .i64 r)) (with_reducible exact HSc.out) (fail)
 go_wp2
 go_ret
 exact ⟨rfl, HB.out.drew⟩
def newZ (n k r : Int) : Int := if Good n k r then 0 else 2
theorem good_n {n k r : Int} (hg : Good n k r) : 1 ≤ n ∧ k ≤ 255 := by
 obtain ⟨a1, -, -, -, b5, b6, b7, b8⟩ := hg
 have h9 : 1 ≤ k / r := Int.le_ediv_of_mul_le (by omega) (by have := Int.le_of_dvd (by omega) b7; omega)
 omega
set_option maxRecDepth 100000 in
set_option maxHeartbeats 16000000 in
theorem refNew_calls (n k r : Int) (w : World) : Calls Tryz.prog 26 #[.agg #[.int .i64 n, .int .i64 k, .int .i64 r]] w fun e w' => e = .returned (.int .i64 (newZ n k r)) ∧ Below w.heap.size w w' := by
 obtain ⟨V, hV⟩ : ∃ V, w.alloc (.cells #[.int .i64 n, .int .i64 k, .int .i64 r] 56) = V := ⟨_, rfl⟩
 have hb : Below w.heap.size w V := by rw [← hV]; exact (Below.refl _ _).alloc (Nat.le_refl _) _
 have hbl : Block V w.heap.size 56 #[.int .i64 n, .int .i64 k, .int .i64 r] := by rw [← hV]; exact Block.new w _ _
 have HB := Lib.hid hb
 have X0 := cell_regrown (show V.cell? ⟨w.heap.size, 0, none⟩ = some (.int .i64 n) from hbl.cell 0)
 have X1 := cell_regrown (show V.cell? ⟨w.heap.size, 1, none⟩ = some (.int .i64 k) from hbl.cell 1)
 have X2 := cell_regrown (show V.cell? ⟨w.heap.size, 2, none⟩ = some (.int .i64 r) from hbl.cell 2)
 have hbad : ¬ Good n k r → newZ n k r = 2 := fun h => if_neg h
 clear hb hbl
 by_cases h1 : n < 1
 ·have HZ := Lib.hid (hbad fun hg => by have := (good_n hg).1; omega)
  have d1 : decide (n < 1) = true := decide_eq_true h1
  clear h1
  clear hbad
  go_enter Tryz.func26, Tryz.ntmps26
  go_wp2_with fail
  clear hV
  refine wp_region_quiet_below (by kernel_rfl) (by kernel_rfl) ?_
  repeat (go_big_quiet_step (fail))
  refine wpQuiet_nil ?_
  intro _ hw'
  obtain ⟨⟨dq, osq⟩, hw''⟩ := hw'
  subst hw''
  have HQ := Lib.hid (HB.out.trans ((below_regrown V dq osq).mono HB.out.size))
  dsimp only
  generalize Sort.grow (redrawn V dq) osq = wq at *
  clear X0 X1 X2
  go_wp2
  go_ret
  exact ⟨by rw [HZ.out]; rfl, HQ.out⟩
 have d1 : decide (n < 1) = false := decide_eq_false h1
 by_cases h2 : n > 255
 ·have HZ := Lib.hid (hbad fun hg => by have := hg.2.2.2.2.1; omega)
  have d2 : decide (n > 255) = true := decide_eq_true h2
  clear h2
  clear hbad
  go_enter Tryz.func26, Tryz.ntmps26
  go_wp2_with fail
  clear hV
  refine wp_region_quiet_below (by kernel_rfl) (by kernel_rfl) ?_
  repeat (go_big_quiet_step (fail))
  refine wpQuiet_nil ?_
  intro _ hw'
  obtain ⟨⟨dq, osq⟩, hw''⟩ := hw'
  subst hw''
  have HQ := Lib.hid (HB.out.trans ((below_regrown V dq osq).mono HB.out.size))
  dsimp only
  generalize Sort.grow (redrawn V dq) osq = wq at *
  clear X0 X1 X2
  go_wp2
  go_ret
  exact ⟨by rw [HZ.out]; rfl, HQ.out⟩
 have d2 : decide (n > 255) = false := decide_eq_false h2
 by_cases h3 : r < 1
 ·have HZ := Lib.hid (hbad fun hg => by have := hg.1; omega)
  have d3 : decide (r < 1) = true := decide_eq_true h3
  clear h3
  clear hbad
  go_enter Tryz.func26, Tryz.ntmps26
  go_wp2_with fail
  clear hV
  refine wp_region_quiet_below (by kernel_rfl) (by kernel_rfl) ?_
  repeat (go_big_quiet_step (fail))
  refine wpQuiet_nil ?_
  intro _ hw'
  obtain ⟨⟨dq, osq⟩, hw''⟩ := hw'
  subst hw''
  have HQ := Lib.hid (HB.out.trans ((below_regrown V dq osq).mono HB.out.size))
  dsimp only
  generalize Sort.grow (redrawn V dq) osq = wq at *
  clear X0 X1 X2
  go_wp2
  go_ret
  exact ⟨by rw [HZ.out]; rfl, HQ.out⟩
 have d3 : decide (r < 1) = false := decide_eq_false h3
 by_cases h4 : r > 254
 ·have HZ := Lib.hid (hbad fun hg => by have := hg.2.1; omega)
  have d4 : decide (r > 254) = true := decide_eq_true h4
  clear h4
  clear hbad
  go_enter Tryz.func26, Tryz.ntmps26
  go_wp2_with fail
  clear hV
  refine wp_region_quiet_below (by kernel_rfl) (by kernel_rfl) ?_
  repeat (go_big_quiet_step (fail))
  refine wpQuiet_nil ?_
  intro _ hw'
  obtain ⟨⟨dq, osq⟩, hw''⟩ := hw'
  subst hw''
  have HQ := Lib.hid (HB.out.trans ((below_regrown V dq osq).mono HB.out.size))
  dsimp only
  generalize Sort.grow (redrawn V dq) osq = wq at *
  clear X0 X1 X2
  go_wp2
  go_ret
  exact ⟨by rw [HZ.out]; rfl, HQ.out⟩
 have d4 : decide (r > 254) = false := decide_eq_false h4
 have hw : IntKind.i64.wrap (r + 1) = r + 1 := IntWalk.i64_in _ (by omega)
 have hs0 : ¬ r + 1 = 0 := by omega
 have hs1 : (r + 1 == 0) = false := by simp; omega
 have hr0 : ¬ r = 0 := by omega
 have hr1 : (r == 0) = false := by simp; omega
 obtain ⟨z5, hz5⟩ : ∃ z, (255 : Int).tmod (r + 1) = z := ⟨_, rfl⟩
 have hd5 : (r + 1) ∣ 255 ↔ z5 = 0 := by rw [← hz5]; exact Int.dvd_iff_tmod_eq_zero
 have hb5 : z5.natAbs < (r + 1).natAbs := by rw [← hz5, Int.natAbs_tmod]; exact Nat.mod_lt _ (by omega)
 have hw5 : IntKind.i64.wrap z5 = z5 := IntWalk.i64_in _ (by omega)
 obtain ⟨z6, hz6⟩ : ∃ z, n.tmod (r + 1) = z := ⟨_, rfl⟩
 have hd6 : (r + 1) ∣ n ↔ z6 = 0 := by rw [← hz6]; exact Int.dvd_iff_tmod_eq_zero
 have hb6 : z6.natAbs < (r + 1).natAbs := by rw [← hz6, Int.natAbs_tmod]; exact Nat.mod_lt _ (by omega)
 have hw6 : IntKind.i64.wrap z6 = z6 := IntWalk.i64_in _ (by omega)
 obtain ⟨z9, hz9⟩ : ∃ z, k.tmod r = z := ⟨_, rfl⟩
 have hd9 : r ∣ k ↔ z9 = 0 := by rw [← hz9]; exact Int.dvd_iff_tmod_eq_zero
 have hb9 : z9.natAbs < r.natAbs := by rw [← hz9, Int.natAbs_tmod]; exact Nat.mod_lt _ (by omega)
 have hw9 : IntKind.i64.wrap z9 = z9 := IntWalk.i64_in _ (by omega)
 have HD := Lib.hid (And.intro hd5 (And.intro hd6 hd9))
 have HH := Lib.hid (And.intro h1 (And.intro h2 (And.intro h3 h4)))
 clear hd5 hd6 hd9 hb5 hb6 hb9 h1 h2 h3 h4
 by_cases h5 : z5 = 0
 rotate_left
 ·have HZ := Lib.hid (hbad fun hg => h5 (HD.out.1.1 hg.2.2.1))
  have d5 : (z5 != 0) = true := by simpa using h5
  clear h5
  clear hbad
  go_enter Tryz.func26, Tryz.ntmps26
  go_wp2_with fail
  clear hV
  refine wp_region_quiet_below (by kernel_rfl) (by kernel_rfl) ?_
  repeat (go_big_quiet_step (fail))
  refine wpQuiet_nil ?_
  intro _ hw'
  obtain ⟨⟨dq, osq⟩, hw''⟩ := hw'
  subst hw''
  have HQ := Lib.hid (HB.out.trans ((below_regrown V dq osq).mono HB.out.size))
  dsimp only
  generalize Sort.grow (redrawn V dq) osq = wq at *
  clear X0 X1 X2
  go_wp2
  go_ret
  exact ⟨by rw [HZ.out]; rfl, HQ.out⟩
 have d5 : (z5 != 0) = false := by simpa using h5
 have H5 := Lib.hid h5
 clear h5
 by_cases h6 : z6 = 0
 rotate_left
 ·have HZ := Lib.hid (hbad fun hg => h6 (HD.out.2.1.1 hg.2.2.2.1))
  have d6 : (z6 != 0) = true := by simpa using h6
  clear h6
  clear hbad
  go_enter Tryz.func26, Tryz.ntmps26
  go_wp2_with fail
  clear hV
  refine wp_region_quiet_below (by kernel_rfl) (by kernel_rfl) ?_
  repeat (go_big_quiet_step (fail))
  refine wpQuiet_nil ?_
  intro _ hw'
  obtain ⟨⟨dq, osq⟩, hw''⟩ := hw'
  subst hw''
  have HQ := Lib.hid (HB.out.trans ((below_regrown V dq osq).mono HB.out.size))
  dsimp only
  generalize Sort.grow (redrawn V dq) osq = wq at *
  clear X0 X1 X2
  go_wp2
  go_ret
  exact ⟨by rw [HZ.out]; rfl, HQ.out⟩
 have d6 : (z6 != 0) = false := by simpa using h6
 have H6 := Lib.hid h6
 clear h6
 by_cases h7 : k < 1
 ·have HZ := Lib.hid (hbad fun hg => by have := hg.2.2.2.2.2.1; omega)
  have d7 : decide (k < 1) = true := decide_eq_true h7
  clear h7
  clear hbad
  go_enter Tryz.func26, Tryz.ntmps26
  go_wp2_with fail
  clear hV
  refine wp_region_quiet_below (by kernel_rfl) (by kernel_rfl) ?_
  repeat (go_big_quiet_step (fail))
  refine wpQuiet_nil ?_
  intro _ hw'
  obtain ⟨⟨dq, osq⟩, hw''⟩ := hw'
  subst hw''
  have HQ := Lib.hid (HB.out.trans ((below_regrown V dq osq).mono HB.out.size))
  dsimp only
  generalize Sort.grow (redrawn V dq) osq = wq at *
  clear X0 X1 X2
  go_wp2
  go_ret
  exact ⟨by rw [HZ.out]; rfl, HQ.out⟩
 have d7 : decide (k < 1) = false := decide_eq_false h7
 by_cases h8 : k > 255
 ·have HZ := Lib.hid (hbad fun hg => by have := (good_n hg).2; omega)
  have d8 : decide (k > 255) = true := decide_eq_true h8
  clear h8
  clear hbad
  go_enter Tryz.func26, Tryz.ntmps26
  go_wp2_with fail
  clear hV
  refine wp_region_quiet_below (by kernel_rfl) (by kernel_rfl) ?_
  repeat (go_big_quiet_step (fail))
  refine wpQuiet_nil ?_
  intro _ hw'
  obtain ⟨⟨dq, osq⟩, hw''⟩ := hw'
  subst hw''
  have HQ := Lib.hid (HB.out.trans ((below_regrown V dq osq).mono HB.out.size))
  dsimp only
  generalize Sort.grow (redrawn V dq) osq = wq at *
  clear X0 X1 X2
  go_wp2
  go_ret
  exact ⟨by rw [HZ.out]; rfl, HQ.out⟩
 have d8 : decide (k > 255) = false := decide_eq_false h8
 by_cases h9 : z9 = 0
 rotate_left
 ·have HZ := Lib.hid (hbad fun hg => h9 (HD.out.2.2.1 hg.2.2.2.2.2.2.1))
  have d9 : (z9 != 0) = true := by simpa using h9
  clear h9
  clear hbad
  go_enter Tryz.func26, Tryz.ntmps26
  go_wp2_with fail
  clear hV
  refine wp_region_quiet_below (by kernel_rfl) (by kernel_rfl) ?_
  repeat (go_big_quiet_step (fail))
  refine wpQuiet_nil ?_
  intro _ hw'
  obtain ⟨⟨dq, osq⟩, hw''⟩ := hw'
  subst hw''
  have HQ := Lib.hid (HB.out.trans ((below_regrown V dq osq).mono HB.out.size))
  dsimp only
  generalize Sort.grow (redrawn V dq) osq = wq at *
  clear X0 X1 X2
  go_wp2
  go_ret
  exact ⟨by rw [HZ.out]; rfl, HQ.out⟩
 have d9 : (z9 != 0) = false := by simpa using h9
 have HTe : Hid (∀ X : World, Calls Tryz.prog 30 #[.agg #[.int .i64 n, .int .i64 k, .int .i64 r]] X fun e w' => e = .returned (.int .i64 (k + k / r - 1)) ∧ Below X.heap.size X w') := Lib.hid (refTells_calls n k r (by omega) (by omega) (by have := HH.out.2.2.1; omega))
 have hle : k / r ≤ k := Int.ediv_le_self _ (by omega)
 have HK := Lib.hid (And.intro h7 (And.intro h8 h9))
 obtain ⟨kd, hkd⟩ : ∃ kd, k + k / r - 1 = kd := ⟨_, rfl⟩
 rw [hkd] at HTe
 have HKd := Lib.hid hkd
 clear hkd hle h7 h8 h9
 by_cases h10 : kd > n
 ·have HZ := Lib.hid (hbad fun hg => by have := hg.2.2.2.2.2.2.2; rw [HKd.out] at this; omega)
  have d10 : decide (kd > n) = true := decide_eq_true h10
  clear hbad h10
  go_enter Tryz.func26, Tryz.ntmps26
  go_wp2_with fail
  clear hV
  refine wp_region_quiet_below (by kernel_rfl) (by kernel_rfl) ?_
  repeat (go_big_quiet_step ((go_at_call 30; (with_reducible exact Calls.regrown_of (HTe.out _)))))
  refine wpQuiet_nil ?_
  intro _ hw'
  obtain ⟨⟨dq, osq⟩, hw''⟩ := hw'
  subst hw''
  have HQ := Lib.hid (HB.out.trans ((below_regrown V dq osq).mono HB.out.size))
  dsimp only
  generalize Sort.grow (redrawn V dq) osq = wq at *
  clear X0 X1 X2
  go_wp2
  go_ret
  exact ⟨by rw [HZ.out]; rfl, HQ.out⟩
 ·have HZ : Hid (newZ n k r = 0) := Lib.hid (if_pos (by
   obtain ⟨h1, h2, h3, h4⟩ := HH.out
   obtain ⟨h7, h8, h9⟩ := HK.out
   exact ⟨by omega, by omega, HD.out.1.2 H5.out, HD.out.2.1.2 H6.out, by omega, by omega, HD.out.2.2.2 h9, by rw [HKd.out]; omega⟩))
  have d10 : decide (kd > n) = false := decide_eq_false h10
  clear hbad h10
  go_enter Tryz.func26, Tryz.ntmps26
  go_wp2_with fail
  clear hV
  refine wp_region_quiet_below (by kernel_rfl) (by kernel_rfl) ?_
  repeat (go_big_quiet_step ((go_at_call 30; (with_reducible exact Calls.regrown_of (HTe.out _)))))
  refine wpQuiet_nil ?_
  intro _ hw'
  obtain ⟨⟨dq, osq⟩, hw''⟩ := hw'
  subst hw''
  have HQ := Lib.hid (HB.out.trans ((below_regrown V dq osq).mono HB.out.size))
  dsimp only
  generalize Sort.grow (redrawn V dq) osq = wq at *
  clear X0 X1 X2
  go_wp2
  go_ret
  exact ⟨by rw [HZ.out]; rfl, HQ.out⟩
end Go.Proofs.YtofihklinkpbiaaGreat.Lo

namespace Go.Proofs.YtofihklinkpbiaaGreat.localNew
open Go.RowKit Go.Shelf F8 GF Poly Rd Ms Lo
attribute [local go_sem] Oper.semAt_some


theorem grp_at {r z k : Nat} (hk : k < r) : ∃ x, (grpL r z)[k]? = some x ∧ x / (r + 1) = z / (r + 1) ∧ x ≠ z ∧ x ≤ z + r + 1 ∧ ∀ k', k < k' → k' < r → ∃ y, (grpL r z)[k']? = some y ∧ x < y := by
 have hl : k < (grpL r z).length := by rw [grpL_length]; exact hk
 have hm := mem_grpL.1 (List.getElem_mem hl)
 have hd := Nat.div_add_mod z (r + 1)
 have hmd := Nat.mod_lt z (show 0 < r + 1 by omega)
 rw [Nat.mul_comm] at hd
 have hv : ∀ j (hj : j < (grpL r z).length), (grpL r z)[j] = if j < z % (r + 1) then z / (r + 1) * (r + 1) + j else z / (r + 1) * (r + 1) + j + 1 := fun j hj => by simp [grpL, Pt.othersL]
 refine ⟨_, List.getElem?_eq_getElem hl, hm.1, hm.2, ?_, fun k' h1 h2 => ?_⟩
 ·rw [hv]; split <;> omega
 ·have hl' : k' < (grpL r z).length := by rw [grpL_length]; exact h2
  refine ⟨_, List.getElem?_eq_getElem hl', ?_⟩
  rw [hv, hv]
  split <;> split <;> omega
theorem tdiv_nat (a b : Nat) : (a : Int).tdiv ((b : Int) + 1) = ((a / (b + 1) : Nat) : Int) := by
 rw [show ((b : Int) + 1) = ((b + 1 : Nat) : Int) by simp, Int.tdiv_eq_ediv_of_nonneg (by omega)]; rfl
set_option maxRecDepth 100000 in
set_option maxHeartbeats 8000000 in
theorem core (PS : Poly.Spec) (Z : Wl.Spec) (w : World) (n k r0 z : Int) (hl0 : -9223372036854775808 ≤ n) (hn2 : r0 < 9223372036854775808) :
  Calls Tryz.prog 5 #[.int .i64 n, .int .i64 k, .int .i64 r0, .int .i64 z] w fun e w' => e = .returned (.bool true) ∧ Below w.heap.size w w' := by
 have HRef := Lib.hid (refNew_calls n k r0)
 go_enter Tryz.func5, Tryz.ntmps5
 go_wp2_with fail
 refine (GF.new_calls w).mono ?_
 rintro e w1 ⟨rfl, hw1⟩
 have HMd := Lib.hid (made n k r0 w w1 hw1 hl0 hn2)
 clear hw1
 go_wp2_with fail
 refine HMd.out.mono ?_
 clear HMd
 rintro e w2 (⟨hgood, S, hL, -, rfl⟩ | ⟨hno, rfl, HBz⟩)
 rotate_left
 ·have hz : newZ n k r0 = 2 := if_neg hno
  rw [hz] at HRef
  have HBz := Lib.hid HBz
  clear hz hno
  go_wp2_with fail
  refine (HRef.out _).mono ?_
  rintro e w3 ⟨rfl, hb3⟩
  have HB3 := Lib.hid ((HBz.out.alloc HBz.out.size (.cells #[.int .i64 n, .int .i64 k, .int .i64 r0] 56)).trans (hb3.mono (HBz.out.alloc HBz.out.size (.cells #[.int .i64 n, .int .i64 k, .int .i64 r0] 56)).size))
  clear hb3 HBz
  go_wp2_with (go_at_call 27; (with_reducible refine (works_calls PS Z _).mono ?_); rintro e wz ⟨rfl, HZ⟩)
  go_ret
  exact ⟨rfl, HB3.out.trans (HZ.mono HB3.out.size)⟩
 have hz : newZ n k r0 = 0 := if_pos hgood
 rw [hz] at HRef
 have hL0 := hL
 have hnums := hL.lw.ok.par.nums
 have hT : ((S.T : Nat) : Int) = k + k / r0 - 1 := by
  rw [← hL.ek, ← hL.er]
  have e1 := hL.lw.ok.par.ek
  have h1 := hL.lw.ok.par.q1
  have h2 := hL.lw.ok.par.r1
  have e2 : S.k / S.r = S.q := by rw [e1]; exact Nat.mul_div_cancel _ (by omega)
  have e3 : ((S.k : Int) / (S.r : Int)) = (S.q : Int) := by rw [← e2]; rfl
  have e4 : S.q * (S.r + 1) = S.k + S.q := by rw [e1, Nat.mul_succ]
  rw [e3]
  unfold Lc.T
  rw [e4]
  omega
 have hTe := refTells_calls n k r0 (by rw [← hL.ek]; omega) (by rw [← hL.ek]; omega) (by rw [← hL.er]; have := hL.lw.ok.par.r1; omega)
 rw [← hT] at hTe
 have HTe := Lib.hid hTe
 have HL := Lib.hid hL.lw
 have HLz := Lib.hid (And.intro hL.en hL.er)
 have HR1 := Lib.hid hL.lw.ok.par.r1
 have HNm := Lib.hid hnums
 clear hL hL0 hnums hT hTe hz hgood hl0 hn2
 go_wp2_with fail
 refine (HRef.out _).mono ?_
 rintro e w3 ⟨rfl, hb3⟩
 obtain ⟨wa, hwa⟩ : ∃ wa, w2.alloc (.cells #[.int .i64 n, .int .i64 k, .int .i64 r0] 56) = wa := ⟨_, rfl⟩
 rw [hwa] at hb3
 have hbl : Block wa w2.heap.size 56 #[.int .i64 n, .int .i64 k, .int .i64 r0] := by rw [← hwa]; exact Block.new w2 _ _
 have hLa : Lw S w wa := by rw [← hwa]; exact HL.out.alloc _
 have hsa : w2.heap.size < wa.heap.size := by rw [← hwa, World.size_alloc]; omega
 have HBl := Lib.hid (hbl.below hb3 hsa)
 have hs3 : w2.heap.size < w3.heap.size := Nat.lt_of_lt_of_le hsa hb3.size
 have HL3 := Lib.hid (hLa.below hb3)
 clear hb3 hwa hbl hLa HRef HL hsa
 go_wp2_with fail
 refine (grp_calls HL3.out.ok z).mono ?_
 rintro e w4 ⟨v, rfl, hO, hb4⟩
 have HL4 := Lib.hid (HL3.out.below hb4)
 have HB4 := Lib.hid (HBl.out.below hb4 hs3)
 have hs4 : w2.heap.size < w4.heap.size := Nat.lt_of_lt_of_le hs3 hb4.size
 obtain ⟨A, c, rfl, hR, -⟩ := hO.form
 rw [Pt.nv_length]
 have HR := Lib.hid hR
 clear hO hb4 hR HBl HL3 hs3
 obtain ⟨B2, hB2⟩ : ∃ B, w2.heap.size = B := ⟨_, rfl⟩
 rw [hB2] at HB4 hs4 ⊢
 clear hB2
 obtain ⟨T, hTn⟩ : ∃ T, S.T = T := ⟨_, rfl⟩
 have HTs : Hid (∀ V, Below w4.heap.size w4 V → ∀ d os, Calls Tryz.prog 29 #[.pointer (some ⟨S.b, 0, none⟩)] (Sort.grow (redrawn V d) os) fun e w' => e = .returned (.int .i64 (T : Nat)) ∧ Below (Sort.grow (redrawn V d) os).heap.size (Sort.grow (redrawn V d) os) w') := Lib.hid fun V hV d os => (tells_calls ((HL4.out.below hV).below (below_regrown V d os)).ok).mono fun _ _ ⟨he, hw⟩ => ⟨by rw [he, hTn], hw ▸ Below.refl _ _⟩
 rw [hTn] at HTe
 have hTT : (((T : Nat) : Int) == ((T : Nat) : Int)) = true := by simp
 clear hTn
 by_cases hz : 0 ≤ z ∧ z < (S.n : Int)
 rotate_left
 ·have hg : grpZ S.n S.r z = [] := if_neg hz
  rw [hg]
  have hcond : z < 0 ∨ ¬ z < 0 ∧ z ≥ n := by rw [← HLz.out.1]; omega
  clear hg hz HR
  rw [show (([] : List Nat).length) = 0 from rfl]
  rcases hcond with h1 | ⟨h1, h2⟩
  all_goals
   have hLV := (HL4.out.below (Below.refl _ _)).bel
   have HBV := Lib.hid (HB4.out.below (Below.refl _ _) hs4)
   have X0 := cell_regrown (show World.cell? w4 ⟨B2, 0, none⟩ = some (.int .i64 n) from HBV.out.cell 0)
   have X1 := cell_regrown (show World.cell? w4 ⟨B2, 1, none⟩ = some (.int .i64 k) from HBV.out.cell 1)
   have X2 := cell_regrown (show World.cell? w4 ⟨B2, 2, none⟩ = some (.int .i64 r0) from HBV.out.cell 2)
   have HTv := Lib.hid (HTs.out _ (Below.refl _ _))
   have HLV := Lib.hid hLV
   clear hLV
   go_wp2_with fail
   refine wp_region_quiet_below (by kernel_rfl) (by kernel_rfl) ?_
   repeat (go_big_quiet_step (first
    | (go_at_call 29; (with_reducible exact Calls.regrown_of (HTv.out _ _)))
    | (go_at_call 30; (with_reducible exact Calls.regrown_of (HTe.out _)))
    | (go_at_call 27; (with_reducible exact Calls.regrown_of (works_calls PS Z _)))))
   refine wpQuiet_nil ?_
   intro _ hw'
   obtain ⟨⟨dq, osq⟩, hw''⟩ := hw'
   subst hw''
   have HQ := Lib.hid (HLV.out.trans ((below_regrown w4 dq osq).mono HLV.out.size))
   dsimp only
   generalize Sort.grow (redrawn w4 dq) osq = wq at *
   clear X0 X1 X2 HTs HTv
   go_wp2
   go_ret
   exact ⟨rfl, HQ.out⟩
 obtain ⟨zn, hzn⟩ := Int.eq_ofNat_of_zero_le hz.1
 subst hzn
 have hg : grpZ S.n S.r (zn : Int) = grpL S.r zn := by unfold grpZ; rw [if_pos hz, Int.toNat_natCast]
 rw [hg] at HR ⊢
 rw [grpL_length]
 have hn9 : S.r ≤ 255 := by have := HNm.out; omega
 have hzn9 : zn ≤ 255 := by have := HNm.out; omega
 have hr1 : 1 ≤ S.r := HR1.out
 have h1 : ¬ ((zn : Int) < 0) := by omega
 have h2 : ¬ ((zn : Int) ≥ n) := by rw [← HLz.out.1]; omega
 obtain ⟨rn, hrn⟩ : ∃ rn, S.r = rn := ⟨_, rfl⟩
 obtain rfl : r0 = (rn : Int) := by rw [← HLz.out.2, hrn]
 rw [hrn] at HR hn9 hr1 ⊢
 clear hg hz HLz HNm HR1 hrn
 have hrr : ((rn : Int) == (rn : Int)) = true := by simp
 go_wp2_with fail
 go_loopw [13] (fun iv wr => ∃ i : Nat, i ≤ rn ∧ iv = .int .i64 i ∧ Hid (Below w4.heap.size w4 wr)) (fun iv _ => rn - (intOf iv).toNat)
 case atStart => exact ⟨0, by omega, rfl, Lib.hid (Below.refl _ _)⟩
 case round =>
  obtain ⟨i, hi, rfl, HW⟩ := hrel
  by_cases hir : i < rn
  ·clear HTs HTe hTT hrr h1 h2
   obtain ⟨x, hx, hx1, hx2, hx3, -⟩ := grp_at (z := zn) hir
   obtain ⟨b, o, rfl, hc⟩ := (HR.out.below HW.out) i (.int .i64 x) (by simp [Pt.nv, hx])
   have hwr : IntKind.i64.wrap ((rn : Int) + 1) = (rn : Int) + 1 := IntWalk.i64_in _ (by omega)
   have hs0 : ¬ ((rn : Int) + 1 = 0) := by omega
   have hs1 : ((rn : Int) + 1 == 0) = false := by simp; omega
   obtain ⟨Q, hQ⟩ : ∃ Q, zn / (rn + 1) = Q := ⟨_, rfl⟩
   have hQ9 : Q ≤ 255 := by rw [← hQ]; exact Nat.le_trans (Nat.div_le_self _ _) hzn9
   have hq1 : (x : Int).tdiv ((rn : Int) + 1) = (Q : Int) := by rw [tdiv_nat, hx1, hQ]
   have hq2 : (zn : Int).tdiv ((rn : Int) + 1) = (Q : Int) := by rw [tdiv_nat, hQ]
   have hwq : IntKind.i64.wrap (Q : Int) = (Q : Int) := IntWalk.i64_in _ (by omega)
   have hqq : ((Q : Int) != (Q : Int)) = false := by simp
   have hxz : ((x : Int) == (zn : Int)) = false := by simp; omega
   have hlt : (i : Int) < (rn : Int) := by omega
   have hiw : IntKind.i64.wrap ((i : Int) + 1) = (i : Int) + 1 := IntWalk.i64_in _ (by omega)
   have X3 := cell_regrown hc
   clear hc hQ hx1 hx2
   by_cases h0 : i = 0
   ·have hgt : decide ((0 : Int) < (i : Int)) = false := decide_eq_false (by omega)
    have hgt2 : decide (0 < i) = false := decide_eq_false (by omega)
    clear h0
    go_wp2_with fail
    refine wp_region_quiet_below (by kernel_rfl) (by kernel_rfl) ?_
    repeat (go_big_quiet_step (fail))
    refine wpQuiet_nil ?_
    intro _ hw'
    obtain ⟨⟨dq, osq⟩, hw''⟩ := hw'
    subst hw''
    have HQ := Lib.hid (HW.out.trans ((below_regrown wr dq osq).mono HW.out.size))
    dsimp only
    generalize Sort.grow (redrawn wr dq) osq = wq at *
    clear X3 hgt
    go_wp2
    go_roundw
    case rel => exact ⟨i + 1, by omega, by go_num, HQ⟩
    case measure => simp [intOf]; omega
   ·have hgt : decide ((0 : Int) < (i : Int)) = true := decide_eq_true (by omega)
    have hgt2 : decide (0 < i) = true := decide_eq_true (by omega)
    obtain ⟨j, hj⟩ : ∃ j, i - 1 = j := ⟨_, rfl⟩
    obtain ⟨y, hy, -, -, -, hyn⟩ := grp_at (z := zn) (k := j) (r := rn) (by omega)
    obtain ⟨x', hx', hyx⟩ := hyn i (by omega) hir
    rw [hx] at hx'
    cases hx'
    obtain ⟨b', o', hbo, hc2⟩ := (HR.out.below HW.out) j (.int .i64 y) (by simp [Pt.nv, hy])
    cases hbo
    have hwj : IntKind.i64.wrap ((i : Int) - 1) = (j : Int) := by rw [IntWalk.i64_in _ (by omega)]; omega
    have hjl : (j : Int) < (rn : Int) := by omega
    have hjn : j < rn := by omega
    have hge : decide ((x : Int) ≤ (y : Int)) = false := decide_eq_false (by omega)
    have hge2 : decide (x ≤ y) = false := decide_eq_false (by omega)
    have X4 := cell_regrown hc2
    clear h0 hj hyn hyx hc2 hy
    go_wp2_with fail
    refine wp_region_quiet_below (by kernel_rfl) (by kernel_rfl) ?_
    repeat (go_big_quiet_step (fail))
    refine wpQuiet_nil ?_
    intro _ hw'
    obtain ⟨⟨dq, osq⟩, hw''⟩ := hw'
    subst hw''
    have HQ := Lib.hid (HW.out.trans ((below_regrown wr dq osq).mono HW.out.size))
    dsimp only
    generalize Sort.grow (redrawn wr dq) osq = wq at *
    clear X3 X4
    go_wp2
    go_roundw
    case rel => exact ⟨i + 1, by omega, by go_num, HQ⟩
    case measure => simp [intOf]; omega
  ·obtain rfl : i = rn := by omega
   have hLV := (HL4.out.below HW.out).bel
   have HBV := Lib.hid (HB4.out.below HW.out hs4)
   have X0 := cell_regrown (show World.cell? wr ⟨B2, 0, none⟩ = some (.int .i64 n) from HBV.out.cell 0)
   have X1 := cell_regrown (show World.cell? wr ⟨B2, 1, none⟩ = some (.int .i64 k) from HBV.out.cell 1)
   have X2 := cell_regrown (show World.cell? wr ⟨B2, 2, none⟩ = some (.int .i64 (i : Int)) from HBV.out.cell 2)
   have HTv := Lib.hid (HTs.out _ HW.out)
   have HLV := Lib.hid hLV
   clear hLV
   go_wp2_with fail
   refine wp_region_quiet_below (by kernel_rfl) (by kernel_rfl) ?_
   repeat (go_big_quiet_step (first
    | (go_at_call 29; (with_reducible exact Calls.regrown_of (HTv.out _ _)))
    | (go_at_call 30; (with_reducible exact Calls.regrown_of (HTe.out _)))
    | (go_at_call 27; (with_reducible exact Calls.regrown_of (works_calls PS Z _)))))
   refine wpQuiet_nil ?_
   intro _ hw'
   obtain ⟨⟨dq, osq⟩, hw''⟩ := hw'
   subst hw''
   have HQ := Lib.hid (HLV.out.trans ((below_regrown wr dq osq).mono HLV.out.size))
   dsimp only
   generalize Sort.grow (redrawn wr dq) osq = wq at *
   clear X0 X1 X2 HTs HTv
   go_wp2
   go_ret
   exact ⟨rfl, HQ.out⟩
theorem walk (PS : Poly.Spec) (Z : Wl.Spec) (w : World) (n0 : Int) (hl0 : -9223372036854775808 ≤ n0) (_hn0 : n0 < 9223372036854775808) (n1 : Int) (_hl1 : -9223372036854775808 ≤ n1) (_hn1 : n1 < 9223372036854775808) (n2 : Int) (_hl2 : -9223372036854775808 ≤ n2) (hn2 : n2 < 9223372036854775808) (n3 : Int) (_hl3 : -9223372036854775808 ≤ n3) (_hn3 : n3 < 9223372036854775808) :
  Calls Tryz.prog 5 #[.int .i64 n0, .int .i64 n1, .int .i64 n2, .int .i64 n3] w fun e w' => e = .returned (.bool true) ∧ Below w.heap.size w w' :=
 core PS Z w n0 n1 n2 n3 hl0 hn2
end Go.Proofs.YtofihklinkpbiaaGreat.localNew

namespace Go.Proofs.YtofihklinkpbiaaGreat.localNew
open Go.ChangeShapes Go.WideShapes Go.ChangeAt Go.RowKit
open Go.ChangeMaps (open_string shut_string)
set_option linter.unusedVariables false
theorem own : ownKnob Tryz.prog.godebug = none := by kernel_rfl
theorem laidOut : laidOutB Tryz.prog = true := by kernel_rfl

set_option maxRecDepth 100000 in
theorem contract (H : Type) (enc : TypeId × Value → H) (W : World) (base : Nat) (args : Array Value) (ds gs : List (DataW H)) (before : List MemPlace)
  (hval : ∀ (j : Nat) t v, Tryz.f5.params[j]? = some t → args[j]? = some v → Value.okWide Tryz.prog W .any base t v)
  (hW : DataW.Whole enc Tryz.prog Tryz.f5.params.toList Rows.localNewSpec.vars false W args.toList ds gs before)
  (hsz : (DataW.weightsEach Tryz.prog (Tryz.f5.params.toList ++ Rows.localNewSpec.plain.varTypes Tryz.prog) (ds ++ gs)).all (· ≤ reachBytes) = true) :
  Calls Tryz.prog 5 args W fun e W' => ∃ v, e = .returned v ∧ Rows.localNewSpec.post enc Tryz.prog Tryz.f5 false true false false W args v W' := by
 have hW' := hW
 obtain ⟨p, q, hA0, hV, rfl, hfz, hnd⟩ := hW
 have hA : DataW.TrodAll enc Tryz.prog W 0 (fun _ => true) true Tryz.f5.params.toList args.toList ds p := hA0
 rw [Tryz.params5] at hA hval hsz
 obtain ⟨v0, vs0, d0, ds0, p0, q0, hargs, rfl, rfl, h0, r0⟩ := trodAll_cons hA
 obtain ⟨v1, vs1, d1, ds1, p1, q1, rfl, rfl, rfl, h1, r1⟩ := trodAll_cons r0
 obtain ⟨v2, vs2, d2, ds2, p2, q2, rfl, rfl, rfl, h2, r2⟩ := trodAll_cons r1
 obtain ⟨v3, vs3, d3, ds3, p3, q3, rfl, rfl, rfl, h3, r3⟩ := trodAll_cons r2
 obtain ⟨rfl, rfl, rfl⟩ := trodAll_nil r3
 obtain rfl : args = #[v0, v1, v2, v3] := by cases args; simp_all
 obtain ⟨rfl, rfl⟩ := trodVars_none hV
 obtain ⟨n0, rfl, rfl, rfl, w0⟩ := open_int Tryz.underlying3 (hval 0 3 v0 rfl rfl) h0
 have b0 := wf_bounds_i64 w0
 obtain ⟨n1, rfl, rfl, rfl, w1⟩ := open_int Tryz.underlying3 (hval 1 3 v1 rfl rfl) h1
 have b1 := wf_bounds_i64 w1
 obtain ⟨n2, rfl, rfl, rfl, w2⟩ := open_int Tryz.underlying3 (hval 2 3 v2 rfl rfl) h2
 have b2 := wf_bounds_i64 w2
 obtain ⟨n3, rfl, rfl, rfl, w3⟩ := open_int Tryz.underlying3 (hval 3 3 v3 rfl rfl) h3
 have b3 := wf_bounds_i64 w3
 clear hA0
 refine (walk Poly.spec (Wl.spec Poly.spec) W n0 b0.1 b0.2 n1 b1.1 b1.2 n2 b2.1 b2.2 n3 b3.1 b3.2 ).mono fun e W' ⟨he, bel⟩ => ?_
 subst he
 exact ⟨_, rfl, _, _, _, [], _, [], hW', trodAll_mk1 (shut_bool Tryz.underlying4 _), (trodAll_cons_mk (shut_int Tryz.underlying3 w0) (trodAll_cons_mk (shut_int Tryz.underlying3 w1) (trodAll_cons_mk (shut_int Tryz.underlying3 w2) (trodAll_cons_mk (shut_int Tryz.underlying3 w3) trodAll_mk0)))), rfl, bel.frame _, fun h => by cases h⟩

set_option maxRecDepth 100000 in
theorem lifted (os : Os) (started : os.Started) (H : Type) (enc : TypeId × Value → H) :
  ReturnsInHanded {} Tryz.checked os 5 .any (Rows.localNewSpec.pre6 enc Tryz.prog Tryz.f5 Rows.localNewRow.domain false) (Rows.localNewSpec.post enc Tryz.prog Tryz.f5 false true false false) := by
 refine returnsInHanded_of_change_sized (C := Tryz.checked) own started (by kernel_rfl) Tryz.func5
  (ChangeSpec.witness6 (enc := enc) (C := Tryz.checked) false ⟨#[], #[.int .i64 0, .int .i64 0, .int .i64 0, .int .i64 0], []⟩ 8 (by kernel_rfl) (by kernel_rfl) (by kernel_rfl) (by kernel_rfl)) ?_
 intro W base args ds gs before hval hW _ hsz _
 exact contract H enc W base args ds gs before hval hW hsz


theorem proved : Rows.LocalNewSaid :=
 OpenClaim.holds_of_wide 5 Tryz.f5 rfl rfl rfl rfl rfl rfl rfl ⟨rfl, rfl, rfl, rfl, rfl⟩ rfl rfl rfl rfl rfl (by kernel_rfl) Tryz.func5 (by kernel_rfl)
  (of_decide_eq_true (by kernel_rfl)) (by unfold Func.isWrapper; first | (rw [if_pos (by decide +kernel)]; kernel_rfl) | (rw [if_neg (by decide +kernel)]; exact ⟨rfl, rfl⟩))
  (fun os started H enc _ => lifted os started H enc)
end Go.Proofs.YtofihklinkpbiaaGreat.localNew
