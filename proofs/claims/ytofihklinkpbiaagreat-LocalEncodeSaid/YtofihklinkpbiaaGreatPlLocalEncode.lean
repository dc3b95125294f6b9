/- LocalEncode, for every input: the frame round the walk; the argument lists are opened, the walk's contract is met, what was read reads as it did. -/
import Derived.Test.YtofihklinkpbiaaGreatPl01
import Derived.Test.YtofihklinkpbiaaGreatPl02
import Derived.Test.YtofihklinkpbiaaGreatPl03
import Derived.Test.YtofihklinkpbiaaGreatPl04
import Derived.Test.YtofihklinkpbiaaGreatPl05
import Derived.Test.YtofihklinkpbiaaGreatPl06
import Derived.Test.YtofihklinkpbiaaGreatPl07
import Derived.Test.YtofihklinkpbiaaGreatPl08
import Derived.Test.YtofihklinkpbiaaGreatPl09
import Derived.Test.YtofihklinkpbiaaGreatPl10
import Derived.Test.YtofihklinkpbiaaGreatPl11
import Derived.Test.YtofihklinkpbiaaGreatPl12
import Derived.Test.YtofihklinkpbiaaGreatPl13
import Derived.Test.YtofihklinkpbiaaGreatPl14
import Derived.Test.YtofihklinkpbiaaGreatPl15
import Derived.Test.YtofihklinkpbiaaGreatPl16
import Derived.Test.YtofihklinkpbiaaGreatPl17
import Derived.Test.YtofihklinkpbiaaGreatPl18
import Derived.Test.YtofihklinkpbiaaGreatPl19
import Derived.Test.YtofihklinkpbiaaGreatPl20
import Derived.Test.YtofihklinkpbiaaGreatPl21
import Derived.Test.YtofihklinkpbiaaGreatPl22
import Derived.Test.YtofihklinkpbiaaGreatPl23
import Derived.Test.YtofihklinkpbiaaGreatPl24
import Derived.Test.YtofihklinkpbiaaGreatPl25
import Derived.Test.YtofihklinkpbiaaGreatPl26
import Derived.Deep.RegionHeld
import Derived.BigQuiet
import Derived.Lib.QuietBelow
import Derived.StillTailTactics
import Derived.WalkKit
import Derived.ProofKit
import Derived.OpenShut
import Derived.ShutString
import Derived.ChangeOld
import Derived.Below
import Derived.Deep.DeepHandedRow
import Derived.SizedLaws
import Derived.Test.YtofihklinkpbiaaGreatRows
namespace Go.Proofs.YtofihklinkpbiaaGreat.Rd
open Go.RowKit Go.Shelf F8 Poly GF
attribute [local go_sem] Oper.semAt_some
section
variable {w0 w w' : World} {a b g B : Nat} {A : Option Addr} {xs : List F8} {n c k : Nat} {ls : List (Option Addr × List F8)}
theorem le_grown (w : World) (n : Nat) : n ≤ grownCap w n 0 5 := grownCap_ge w n 0 _
end
end Go.Proofs.YtofihklinkpbiaaGreat.Rd

namespace Go.Proofs.YtofihklinkpbiaaGreat.Lo
open Go.RowKit Go.Shelf F8 Poly GF Rd Ms
attribute [local go_sem] Oper.semAt_some


theorem refTells_calls (n k r : Int) (hk0 : 0 ≤ k) (hk : k ≤ 1000) (hr : 1 ≤ r) (w : World) : Calls Tryz.prog 30 #[.agg #[.int .i64 n, .int .i64 k, .int .i64 r]] w fun e w' => e = .returned (.int .i64 (k + k / r - 1)) ∧ Below w.heap.size w w' := by
 obtain ⟨V, hV⟩ : ∃ V, w.alloc (.cells #[.int .i64 n, .int .i64 k, .int .i64 r] 56) = V := ⟨_, rfl⟩
 have hb : Below w.heap.size w V := by rw [← hV]; exact (Below.refl _ _).alloc (Nat.le_refl _) _
 have hbl : Block V w.heap.size 56 #[.int .i64 n, .int .i64 k, .int .i64 r] := by rw [← hV]; exact Block.new w _ _
 have HSc : Hid (V.drew.cell? ⟨w.heap.size, 1, none⟩ = some (.int .i64 k) ∧ V.drew.cell? ⟨w.heap.size, 2, none⟩ = some (.int .i64 r)) := Lib.hid ⟨hbl.cell 1, hbl.cell 2⟩
 have HB := Lib.hid hb
 have hd : k.tdiv r = k / r := Int.tdiv_eq_ediv_of_nonneg hk0
 have hle : k / r ≤ k := Int.ediv_le_self _ hk0
 have hge : 0 ≤ k / r := Int.ediv_nonneg hk0 (by omega)
 obtain ⟨d, hd'⟩ : ∃ d, k / r = d := ⟨_, rfl⟩
 rw [hd'] at hd hle hge ⊢
 have hr0 : ¬ r = 0 := by omega
 have hr1 : (r == 0) = false := by simp; omega
 have w1 : IntKind.i64.wrap (k + d) = k + d := IntWalk.i64_in _ (by omega)
 have w2 : IntKind.i64.wrap (k + d - 1) = k + d - 1 := IntWalk.i64_in _ (by omega)
 have w3 : IntKind.i64.wrap d = d := IntWalk.i64_in _ (by omega)
 clear hb hbl hd'
 go_enter Tryz.func30, Tryz.ntmps30
 go_wp2
 go_region_held (fun X => X.cell? ⟨w.heap.size, 1, none⟩ = some (.int .i64 k) ∧ X.cell? ⟨w.heap.size, 2, none⟩ = some (.int .i64 r)) (with_reducible exact HSc.out) (fail)
 go_wp2
 go_ret
 exact ⟨rfl, HB.out.drew⟩
def newZ (n k r : Int) : Int := if Good n k r then 0 else 2
theorem good_n {n k r : Int} (hg : Good n k r) : 1 ≤ n ∧ k ≤ 255 := by
 obtain ⟨a1, -, -, -, b5, b6, b7, b8⟩ := hg
 have h9 : 1 ≤ k / r := Int.le_ediv_of_mul_le (by omega) (by have := Int.le_of_dvd (by omega) b7; omega)
 omega
set_option maxRecDepth 100000 in
set_option maxHeartbeats 16000000 in
theorem refNew_calls (n k r : Int) (w : World) : Calls Tryz.prog 26 #[.agg #[.int .i64 n, .int .i64 k, .int .i64 r]] w fun e w' => e = .returned (.int .i64 (newZ n k r)) ∧ Below w.heap.size w w' := by
 obtain ⟨V, hV⟩ : ∃ V, w.alloc (.cells #[.int .i64 n, .int .i64 k, .int .i64 r] 56) = V := ⟨_, rfl⟩
 have hb : Below w.heap.size w V := by rw [← hV]; exact (Below.refl _ _).alloc (Nat.le_refl _) _
 have hbl : Block V w.heap.size 56 #[.int .i64 n, .int .i64 k, .int .i64 r] := by rw [← hV]; exact Block.new w _ _
 have HB := Lib.hid hb
 have X0 := cell_regrown (show V.cell? ⟨w.heap.size, 0, none⟩ = some (.int .i64 n) from hbl.cell 0)
 have X1 := cell_regrown (show V.cell? ⟨w.heap.size, 1, none⟩ = some (.int .i64 k) from hbl.cell 1)
 have X2 := cell_regrown (show V.cell? ⟨w.heap.size, 2, none⟩ = some (.int .i64 r) from hbl.cell 2)
 have hbad : ¬ Good n k r → newZ n k r = 2 := fun h => if_neg h
 clear hb hbl
 by_cases h1 : n < 1
 ·have HZ := Lib.hid (hbad fun hg => by have := (good_n hg).1; omega)
  have d1 : decide (n < 1) = true := decide_eq_true h1
  clear h1
  clear hbad
  go_enter Tryz.func26, Tryz.ntmps26
  go_wp2_with fail
  clear hV
  refine wp_region_quiet_below (by kernel_rfl) (by kernel_rfl) ?_
  repeat (go_big_quiet_step (fail))
  refine wpQuiet_nil ?_
  intro _ hw'
  obtain ⟨⟨dq, osq⟩, hw''⟩ := hw'
  subst hw''
  have HQ := Lib.hid (HB.out.trans ((below_regrown V dq osq).mono HB.out.size))
  dsimp only
  generalize Sort.grow (redrawn V dq) osq = wq at *
  clear X0 X1 X2
  go_wp2
  go_ret
  exact ⟨by rw [HZ.out]; rfl, HQ.out⟩
 have d1 : decide (n < 1) = false := decide_eq_false h1
 by_cases h2 : n > 255
 ·have HZ := Lib.hid (hbad fun hg => by have := hg.2.2.2.2.1; omega)
  have d2 : decide (n > 255) = true := decide_eq_true h2
  clear h2
  clear hbad
  go_enter Tryz.func26, Tryz.ntmps26
  go_wp2_with fail
  clear hV
  refine wp_region_quiet_below (by kernel_rfl) (by kernel_rfl) ?_
  repeat (go_big_quiet_step (fail))
  refine wpQuiet_nil ?_
  intro _ hw'
  obtain ⟨⟨dq, osq⟩, hw''⟩ := hw'
  subst hw''
  have HQ := Lib.hid (HB.out.trans ((below_regrown V dq osq).mono HB.out.size))
  dsimp only
  generalize Sort.grow (redrawn V dq) osq = wq at *
  clear X0 X1 X2
  go_wp2
  go_ret
  exact ⟨by rw [HZ.out]; rfl, HQ.out⟩
 have d2 : decide (n > 255) = false := decide_eq_false h2
 by_cases h3 : r < 1
 ·have HZ := Lib.hid (hbad fun hg => by have := hg.1; omega)
  have d3 : decide (r < 1) = true := decide_eq_true h3
  clear h3
  clear hbad
  go_enter Tryz.func26, Tryz.ntmps26
  go_wp2_with fail
  clear hV
  refine wp_region_quiet_below (by kernel_rfl) (by kernel_rfl) ?_
  repeat (go_big_quiet_step (fail))
  refine wpQuiet_nil ?_
  intro _ hw'
  obtain ⟨⟨dq, osq⟩, hw''⟩ := hw'
  subst hw''
  have HQ := Lib.hid (HB.out.trans ((below_regrown V dq osq).mono HB.out.size))
  dsimp only
  generalize Sort.grow (redrawn V dq) osq = wq at *
  clear X0 X1 X2
  go_wp2
  go_ret
  exact ⟨by rw [HZ.out]; rfl, HQ.out⟩
 have d3 : decide (r < 1) = false := decide_eq_false h3
 by_cases h4 : r > 254
 ·have HZ := Lib.hid (hbad fun hg => by have := hg.2.1; omega)
  have d4 : decide (r > 254) = true := decide_eq_true h4
  clear h4
  clear hbad
  go_enter Tryz.func26, Tryz.ntmps26
  go_wp2_with fail
  clear hV
  refine wp_region_quiet_below (by kernel_rfl) (by kernel_rfl) ?_
  repeat (go_big_quiet_step (fail))
  refine wpQuiet_nil ?_
  intro _ hw'
  obtain ⟨⟨dq, osq⟩, hw''⟩ := hw'
  subst hw''
  have HQ := Lib.hid (HB.out.trans ((below_regrown V dq osq).mono HB.out.size))
  dsimp only
  generalize Sort.grow (redrawn V dq) osq = wq at *
  clear X0 X1 X2
  go_wp2
  go_ret
  exact ⟨by rw [HZ.out]; rfl, HQ.out⟩
 have d4 : decide (r > 254) = false := decide_eq_false h4
 have hw : IntKind.i64.wrap (r + 1) = r + 1 := IntWalk.i64_in _ (by omega)
 have hs0 : ¬ r + 1 = 0 := by omega
 have hs1 : (r + 1 == 0) = false := by simp; omega
 have hr0 : ¬ r = 0 := by omega
 have hr1 : (r == 0) = false := by simp; omega
 obtain ⟨z5, hz5⟩ : ∃ z, (255 : Int).tmod (r + 1) = z := ⟨_, rfl⟩
 have hd5 : (r + 1) ∣ 255 ↔ z5 = 0 := by rw [← hz5]; exact Int.dvd_iff_tmod_eq_zero
 have hb5 : z5.natAbs < (r + 1).natAbs := by rw [← hz5, Int.natAbs_tmod]; exact Nat.mod_lt _ (by omega)
 have hw5 : IntKind.i64.wrap z5 = z5 := IntWalk.i64_in _ (by omega)
 obtain ⟨z6, hz6⟩ : ∃ z, n.tmod (r + 1) = z := ⟨_, rfl⟩
 have hd6 : (r + 1) ∣ n ↔ z6 = 0 := by rw [← hz6]; exact Int.dvd_iff_tmod_eq_zero
 have hb6 : z6.natAbs < (r + 1).natAbs := by rw [← hz6, Int.natAbs_tmod]; exact Nat.mod_lt _ (by omega)
 have hw6 : IntKind.i64.wrap z6 = z6 := IntWalk.i64_in _ (by omega)
 obtain ⟨z9, hz9⟩ : ∃ z, k.tmod r = z := ⟨_, rfl⟩
 have hd9 : r ∣ k ↔ z9 = 0 := by rw [← hz9]; exact Int.dvd_iff_tmod_eq_zero
 have hb9 : z9.natAbs < r.natAbs := by rw [← hz9, Int.natAbs_tmod]; exact Nat.mod_lt _ (by omega)
 have hw9 : IntKind.i64.wrap z9 = z9 := IntWalk.i64_in _ (by omega)
 have HD := Lib.hid (And.intro hd5 (And.intro hd6 hd9))
 have HH := Lib.hid (And.intro h1 (And.intro h2 (And.intro h3 h4)))
 clear hd5 hd6 hd9 hb5 hb6 hb9 h1 h2 h3 h4
 by_cases h5 : z5 = 0
 rotate_left
 ·have HZ := Lib.hid (hbad fun hg => h5 (HD.out.1.1 hg.2.2.1))
  have d5 : (z5 != 0) = true := by simpa using h5
  clear h5
  clear hbad
  go_enter Tryz.func26, Tryz.ntmps26
  go_wp2_with fail
  clear hV
  refine wp_region_quiet_below (by kernel_rfl) (by kernel_rfl) ?_
  repeat (go_big_quiet_step (fail))
  refine wpQuiet_nil ?_
  intro _ hw'
  obtain ⟨⟨dq, osq⟩, hw''⟩ := hw'
  subst hw''
  have HQ := Lib.hid (HB.out.trans ((below_regrown V dq osq).mono HB.out.size))
  dsimp only
  generalize Sort.grow (redrawn V dq) osq = wq at *
  clear X0 X1 X2
  go_wp2
  go_ret
  exact ⟨by rw [HZ.out]; rfl, HQ.out⟩
 have d5 : (z5 != 0) = false := by simpa using h5
 have H5 := Lib.hid h5
 clear h5
 by_cases h6 : z6 = 0
 rotate_left
 ·have HZ := Lib.hid (hbad fun hg => h6 (HD.out.2.1.1 hg.2.2.2.1))
  have d6 : (z6 != 0) = true := by simpa using h6
  clear h6
  clear hbad
  go_enter Tryz.func26, Tryz.ntmps26
  go_wp2_with fail
  clear hV
  refine wp_region_quiet_below (by kernel_rfl) (by kernel_rfl) ?_
  repeat (go_big_quiet_step (fail))
  refine wpQuiet_nil ?_
  intro _ hw'
  obtain ⟨⟨dq, osq⟩, hw''⟩ := hw'
  subst hw''
  have HQ := Lib.hid (HB.out.trans ((below_regrown V dq osq).mono HB.out.size))
  dsimp only
  generalize Sort.grow (redrawn V dq) osq = wq at *
  clear X0 X1 X2
  go_wp2
  go_ret
  exact ⟨by rw [HZ.out]; rfl, HQ.out⟩
 have d6 : (z6 != 0) = false := by simpa using h6
 have H6 := Lib.hid h6
 clear h6
 by_cases h7 : k < 1
 ·have HZ := Lib.hid (hbad fun hg => by have := hg.2.2.2.2.2.1; omega)
  have d7 : decide (k < 1) = true := decide_eq_true h7
  clear h7
  clear hbad
  go_enter Tryz.func26, Tryz.ntmps26
  go_wp2_with fail
  clear hV
  refine wp_region_quiet_below (by kernel_rfl) (by kernel_rfl) ?_
  repeat (go_big_quiet_step (fail))
  refine wpQuiet_nil ?_
  intro _ hw'
  obtain ⟨⟨dq, osq⟩, hw''⟩ := hw'
  subst hw''
  have HQ := Lib.hid (HB.out.trans ((below_regrown V dq osq).mono HB.out.size))
  dsimp only
  generalize Sort.grow (redrawn V dq) osq = wq at *
  clear X0 X1 X2
  go_wp2
  go_ret
  exact ⟨by rw [HZ.out]; rfl, HQ.out⟩
 have d7 : decide (k < 1) = false := decide_eq_false h7
 by_cases h8 : k > 255
 ·have HZ := Lib.hid (hbad fun hg => by have := (good_n hg).2; omega)
  have d8 : decide (k > 255) = true := decide_eq_true h8
  clear h8
  clear hbad
  go_enter Tryz.func26, Tryz.ntmps26
  go_wp2_with fail
  clear hV
  refine wp_region_quiet_below (by kernel_rfl) (by kernel_rfl) ?_
  repeat (go_big_quiet_step (fail))
  refine wpQuiet_nil ?_
  intro _ hw'
  obtain ⟨⟨dq, osq⟩, hw''⟩ := hw'
  subst hw''
  have HQ := Lib.hid (HB.out.trans ((below_regrown V dq osq).mono HB.out.size))
  dsimp only
  generalize Sort.grow (redrawn V dq) osq = wq at *
  clear X0 X1 X2
  go_wp2
  go_ret
  exact ⟨by rw [HZ.out]; rfl, HQ.out⟩
 have d8 : decide (k > 255) = false := decide_eq_false h8
 by_cases h9 : z9 = 0
 rotate_left
 ·have HZ := Lib.hid (hbad fun hg => h9 (HD.out.2.2.1 hg.2.2.2.2.2.2.1))
  have d9 : (z9 != 0) = true := by simpa using h9
  clear h9
  clear hbad
  go_enter Tryz.func26, Tryz.ntmps26
  go_wp2_with fail
  clear hV
  refine wp_region_quiet_below (by kernel_rfl) (by kernel_rfl) ?_
  repeat (go_big_quiet_step (fail))
  refine wpQuiet_nil ?_
  intro _ hw'
  obtain ⟨⟨dq, osq⟩, hw''⟩ := hw'
  subst hw''
  have HQ := Lib.hid (HB.out.trans ((below_regrown V dq osq).mono HB.out.size))
  dsimp only
  generalize Sort.grow (redrawn V dq) osq = wq at *
  clear X0 X1 X2
  go_wp2
  go_ret
  exact ⟨by rw [HZ.out]; rfl, HQ.out⟩
 have d9 : (z9 != 0) = false := by simpa using h9
 have HTe : Hid (∀ X : World, Calls Tryz.prog 30 #[.agg #[.int .i64 n, .int .i64 k, .int .i64 r]] X fun e w' => e = .returned (.int .i64 (k + k / r - 1)) ∧ Below X.heap.size X w') := Lib.hid (refTells_calls n k r (by omega) (by omega) (by have := HH.out.2.2.1; omega))
 have hle : k / r ≤ k := Int.ediv_le_self _ (by omega)
 have HK := Lib.hid (And.intro h7 (And.intro h8 h9))
 obtain ⟨kd, hkd⟩ : ∃ kd, k + k / r - 1 = kd := ⟨_, rfl⟩
 rw [hkd] at HTe
 have HKd := Lib.hid hkd
 clear hkd hle h7 h8 h9
 by_cases h10 : kd > n
 ·have HZ := Lib.hid (hbad fun hg => by have := hg.2.2.2.2.2.2.2; rw [HKd.out] at this; omega)
  have d10 : decide (kd > n) = true := decide_eq_true h10
  clear hbad h10
  go_enter Tryz.func26, Tryz.ntmps26
  go_wp2_with fail
  clear hV
  refine wp_region_quiet_below (by kernel_rfl) (by kernel_rfl) ?_
  repeat (go_big_quiet_step ((go_at_call 30; (with_reducible exact Calls.regrown_of (HTe.out _)))))
  refine wpQuiet_nil ?_
  intro _ hw'
  obtain ⟨⟨dq, osq⟩, hw''⟩ := hw'
  subst hw''
  have HQ := Lib.hid (HB.out.trans ((below_regrown V dq osq).mono HB.out.size))
  dsimp only
  generalize Sort.grow (redrawn V dq) osq = wq at *
  clear X0 X1 X2
  go_wp2
  go_ret
  exact ⟨by rw [HZ.out]; rfl, HQ.out⟩
 ·have HZ : Hid (newZ n k r = 0) := Lib.hid (if_pos (by
   obtain ⟨h1, h2, h3, h4⟩ := HH.out
   obtain ⟨h7, h8, h9⟩ := HK.out
   exact ⟨by omega, by omega, HD.out.1.2 H5.out, HD.out.2.1.2 H6.out, by omega, by omega, HD.out.2.2.2 h9, by rw [HKd.out]; omega⟩))
  have d10 : decide (kd > n) = false := decide_eq_false h10
  clear hbad h10
  go_enter Tryz.func26, Tryz.ntmps26
  go_wp2_with fail
  clear hV
  refine wp_region_quiet_below (by kernel_rfl) (by kernel_rfl) ?_
  repeat (go_big_quiet_step ((go_at_call 30; (with_reducible exact Calls.regrown_of (HTe.out _)))))
  refine wpQuiet_nil ?_
  intro _ hw'
  obtain ⟨⟨dq, osq⟩, hw''⟩ := hw'
  subst hw''
  have HQ := Lib.hid (HB.out.trans ((below_regrown V dq osq).mono HB.out.size))
  dsimp only
  generalize Sort.grow (redrawn V dq) osq = wq at *
  clear X0 X1 X2
  go_wp2
  go_ret
  exact ⟨by rw [HZ.out]; rfl, HQ.out⟩
end Go.Proofs.YtofihklinkpbiaaGreat.Lo

namespace Go.Proofs.YtofihklinkpbiaaGreat.Lo
open Go.RowKit Go.Shelf F8 Poly GF Rd Ms
attribute [local go_sem] Oper.semAt_some

set_option maxRecDepth 100000 in
set_option maxHeartbeats 2000000 in
theorem refPts_calls {n k r q G : Nat} (hp : Lp n k r q G) (w : World) : Calls Tryz.prog 71 #[.agg #[.int .i64 (n : Nat), .int .i64 (k : Nat), .int .i64 (r : Nat)]] w (ROwn w (cpts (r + 1) G) n) := by
 have hn := hp.nums
 have h1 := hp.r1
 have hgt := hp.gt
 have hco := Pt.refCosets_calls (r : Int) (G : Int)
 have hcr : Pt.cosetsR (r : Int) (G : Int) = (bs (cpts (r + 1) G), 0) := by
  have e0 : 255 % (r + 1) = 0 := by rw [← hp.st]; exact Nat.mul_mod_right _ _
  have e1 : (255 : Int) % ((r : Int) + 1) = ((255 % (r + 1) : Nat) : Int) := by simp
  have e2 : (255 : Int) / ((r : Int) + 1) = ((255 / (r + 1) : Nat) : Int) := by simp
  unfold Pt.cosetsR
  rw [if_pos ⟨by omega, by omega, by rw [e1, e0]; rfl, by omega, by rw [e2]; omega⟩, Int.toNat_natCast, Int.toNat_natCast, cpts_bs]
 rw [hcr] at hco
 have HCo := Lib.hid hco
 have HNl : Hid ((cpts (r + 1) G).length = n) := Lib.hid (by rw [cpts_length]; exact hp.en.symm)
 have hG9 : G ≤ 255 := Nat.le_trans hgt (Nat.div_le_self _ _)
 have hd : (n : Int).tdiv ((r : Int) + 1) = (G : Int) := by
  rw [show ((r : Int) + 1) = ((r + 1 : Nat) : Int) by simp, Int.tdiv_eq_ediv_of_nonneg (by omega), hp.en, Int.natCast_mul]
  exact Int.mul_ediv_cancel _ (by omega)
 have hw : IntKind.i64.wrap ((r : Int) + 1) = (r : Int) + 1 := IntWalk.i64_in _ (by omega)
 have hwG : IntKind.i64.wrap (G : Int) = (G : Int) := IntWalk.i64_in _ (by omega)
 have hs0 : ¬ (r : Int) + 1 = 0 := by omega
 have hs1 : ((r : Int) + 1 == 0) = false := by simp; omega
 obtain ⟨V, hV⟩ : ∃ V, w.alloc (.cells #[.int .i64 (n : Nat), .int .i64 (k : Nat), .int .i64 (r : Nat)] 56) = V := ⟨_, rfl⟩
 have hb : Below w.heap.size w V := by rw [← hV]; exact (Below.refl _ _).alloc (Nat.le_refl _) _
 have hbl : Block V w.heap.size 56 #[.int .i64 (n : Nat), .int .i64 (k : Nat), .int .i64 (r : Nat)] := by rw [← hV]; exact Block.new w _ _
 have HSc : Hid (V.drew.cell? ⟨w.heap.size, 0, none⟩ = some (.int .i64 n) ∧ V.drew.cell? ⟨w.heap.size, 2, none⟩ = some (.int .i64 r)) := Lib.hid ⟨hbl.cell 0, hbl.cell 2⟩
 have HB := Lib.hid hb.drew
 have HCb : Hid (∀ X, Below V.drew.heap.size V.drew X → X.cell? ⟨w.heap.size, 0, none⟩ = some (.int .i64 n) ∧ X.cell? ⟨w.heap.size, 2, none⟩ = some (.int .i64 r)) := Lib.hid fun X hX => ⟨(hX.cell (cell_lt HSc.out.1)).trans HSc.out.1, (hX.cell (cell_lt HSc.out.2)).trans HSc.out.2⟩
 clear hb hbl hp hn h1 hgt hco hcr hG9
 go_enter Tryz.func71, Tryz.ntmps71
 go_wp2_with fail
 clear hV
 go_region_held (fun X => X.cell? ⟨w.heap.size, 0, none⟩ = some (.int .i64 n) ∧ X.cell? ⟨w.heap.size, 2, none⟩ = some (.int .i64 r)) (first | (with_reducible exact HSc.out) | (with_reducible exact HCb.out _ hb2))
  ((go_at_call 128; (with_reducible refine (HCo.out _).mono ?_); rintro e w2 ⟨v, rfl, hO, hb2⟩))
 all_goals
  obtain ⟨A, c, rfl, hc⟩ := Own.shape hO
  rw [HNl.out] at hO hc ⊢
  go_wp2
  go_ret
  exact ⟨A, c, rfl, hc, hO.more HB.out.size, HB.out.trans (hb2.mono HB.out.size)⟩

set_option maxRecDepth 100000 in
set_option maxHeartbeats 2000000 in

theorem refPoly_calls {n k r q G : Nat} (hp : Lp n k r q G) (P : Option Addr) (m : List F8) (mn c : Nat) (hl : m.length = mn) (hk : mn = k) (w : World) (hb : Bytes w P (bs m)) :
  Calls Tryz.prog 73 #[.agg #[.int .i64 (n : Nat), .int .i64 (k : Nat), .int .i64 (r : Nat)], .slice P mn c] w (ROwn w (pol q r m) (q * (r + 1) - 1)) := by
 have hmx : Tryz.prog.follows .mixedOrders = true := by kernel_rfl
 have hn := hp.nums
 have hr1 := hp.r1
 have hek := hp.ek
 have hq1 := hp.q1
 obtain ⟨T, hT⟩ : ∃ T, q * (r + 1) - 1 = T := ⟨_, rfl⟩
 have hqs : q * (r + 1) = k + q := by rw [hek, Nat.mul_succ]
 have hT9 : T ≤ 255 := by omega
 have hTe := refTells_calls (n : Int) (k : Int) (r : Int) (by omega) (by omega) (by omega)
 rw [show ((k : Int) + (k : Int) / (r : Int) - 1) = ((T : Nat) : Int) by
  have e2 : k / r = q := by rw [hek]; exact Nat.mul_div_cancel _ (by omega)
  have e3 : ((k : Int) / (r : Int)) = (q : Int) := by rw [← e2]; rfl
  rw [e3]; omega] at hTe
 rw [hT]
 have HTe := Lib.hid hTe
 have HT : Hid (T = q * (r + 1) - 1) := Lib.hid hT.symm
 have HL := Lib.hid hl
 have HBy := Lib.hid hb
 have HEk : Hid (mn = q * r) := Lib.hid (by omega)
 have HNm : Hid (r ≤ 254 ∧ mn ≤ 255 ∧ 1 ≤ r) := Lib.hid (by omega)
 have hmn9 : mn ≤ 255 := HNm.out.2.1
 have hr0 : ((r : Int) == 0) = false := by simp; omega
 have hr00 : ¬ r = 0 := by omega
 have hw1 : IntKind.i64.wrap ((r : Int) + 1) = (r : Int) + 1 := IntWalk.i64_in _ (by omega)
 obtain ⟨V, hV⟩ : ∃ V, w.alloc (.cells #[.int .i64 (n : Nat), .int .i64 (k : Nat), .int .i64 (r : Nat)] 56) = V := ⟨_, rfl⟩
 have hbV : Below w.heap.size w V := by rw [← hV]; exact (Below.refl _ _).alloc (Nat.le_refl _) _
 have hblV : Block V w.heap.size 56 #[.int .i64 (n : Nat), .int .i64 (k : Nat), .int .i64 (r : Nat)] := by rw [← hV]; exact Block.new w _ _
 have c0 := hblV.cell 0
 have c1 := hblV.cell 1
 have c2 := hblV.cell 2
 have HBV := Lib.hid hbV
 have HBlV := Lib.hid hblV
 have hsV : w.heap.size < V.heap.size := by rw [← hV, World.size_alloc]; omega
 clear hbV hblV hp hl hb hn hr1 hek hq1 hT hqs hTe hk
 go_enter Tryz.func73, Tryz.ntmps73
 go_wp2_with fail
 with_reducible refine (HTe.out _).mono ?_
 rintro e w1 ⟨rfl, hb1⟩
 clear hV c0 c1 c2
 obtain ⟨w2, hmk, hO1, hB1⟩ := make_run w1 T (by omega)
 rw [show List.replicate T (0 : F8) = pol q r (m.take 0) by rw [List.take_zero, pol_nil, HT.out]] at hO1
 have hs1 : w.heap.size < w1.heap.size := Nat.lt_of_lt_of_le hsV hb1.size
 obtain ⟨g1, hg1⟩ : ∃ g1, w1.heap.size = g1 := ⟨_, rfl⟩
 have HBl2 := Lib.hid ((HBlV.out.below hb1 hsV).below hB1 hs1)
 have HB2 := Lib.hid (HBV.out.trans ((hb1.trans (hB1.mono hb1.size)).mono HBV.out.size))
 have hs2 : w.heap.size < w2.heap.size := Nat.lt_of_lt_of_le hs1 hB1.size
 have HO := Lib.hid hO1
 rw [hg1] at hmk HO hs1
 have HC2 : Hid (∀ X, Below g1 w2 X → X.cell? ⟨w.heap.size, 2, none⟩ = some (.int .i64 r)) := Lib.hid fun X hX => (hX.cell (p := ⟨w.heap.size, 2, none⟩) hs1).trans (HBl2.out.cell 2)
 clear hb1 hB1 hO1 hg1 HBV HBlV
 go_wp2_with fail
 go_loopw [6] (fun iv wr => ∃ i : Nat, i ≤ mn ∧ iv = .int .i64 i ∧ Hid (Own wr g1 5 (.slice (some ⟨g1, 0, none⟩) T T) (bv (bs (pol q r (m.take i))))) ∧ Hid (Below g1 w2 wr)) (fun iv _ => mn - (intOf iv).toNat)
 case atStart => exact ⟨0, by omega, rfl, HO, Lib.hid (Below.refl _ _)⟩
 case round =>
  clear HO
  obtain ⟨i, hi, rfl, HOi, HWi⟩ := hrel
  by_cases him : i < mn
  ·have hiq : i < q * r := by rw [← HEk.out]; exact him
   obtain ⟨-, -, h3⟩ := place HNm.out.2.2 hiq
   have HPut := Lib.hid (pol_put HNm.out.2.2 hiq (by rw [HL.out, HEk.out]))
   obtain ⟨x, hx⟩ : ∃ x, i / r * (r + 1) + i % r = x := ⟨_, rfl⟩
   rw [hx, ← HT.out] at h3
   rw [hx] at HPut
   have hby := HBy.out.below (HB2.out.trans (HWi.out.mono (Nat.le_of_lt hs1)))
   obtain ⟨bP, oP, rfl⟩ := where_ hby (by rw [HL.out]; omega)
   have hcm := cellAt hby i (by rw [HL.out]; exact him)
   obtain ⟨y, hy⟩ : ∃ y, coef m i = y := ⟨_, rfl⟩
   rw [hy] at hcm HPut
   have c4 := HC2.out wr HWi.out
   have e1 : (i : Int).tdiv (r : Int) = ((i / r : Nat) : Int) := by rw [Int.tdiv_eq_ediv_of_nonneg (by omega)]; simp
   have e2 : (i : Int).tmod (r : Int) = ((i % r : Nat) : Int) := by rw [Int.tmod_eq_emod_of_nonneg (by omega)]; simp
   have hal : i / r ≤ i := Nat.div_le_self _ _
   have hbl : i % r ≤ i := Nat.mod_le _ _
   obtain ⟨a, ha⟩ : ∃ a, i / r = a := ⟨_, rfl⟩
   obtain ⟨b, hb⟩ : ∃ b, i % r = b := ⟨_, rfl⟩
   obtain ⟨d, hd⟩ : ∃ d, a * (r + 1) = d := ⟨_, rfl⟩
   rw [ha] at e1 hx hal
   rw [hb] at e2 hx hbl
   rw [hd] at hx
   have e3 : (a : Int) * ((r : Int) + 1) = (d : Int) := by rw [← hd]; simp
   have e4 : (d : Int) + (b : Int) = (x : Int) := by omega
   have w1' : IntKind.i64.wrap (a : Int) = (a : Int) := IntWalk.i64_in _ (by omega)
   have w2' : IntKind.i64.wrap (b : Int) = (b : Int) := IntWalk.i64_in _ (by omega)
   have w3' : IntKind.i64.wrap (d : Int) = (d : Int) := IntWalk.i64_in _ (by omega)
   have w4' : IntKind.i64.wrap (x : Int) = (x : Int) := IntWalk.i64_in _ (by omega)
   have HPl : Hid ((pol q r (m.take i)).length = T) := Lib.hid (by rw [pol_length, HT.out])
   have hcs := own_cell HOi.out.drew HPl.out (k := x) h3
   have hfz := Own.frozenAt HOi.out.drew (by rw [bvs_length, HPl.out]) x
   have HO3 : Hid (Own (wr.drew.setCell ⟨g1, x, none⟩ (.int .u8 (y.n : Int))) g1 5 (.slice (some ⟨g1, 0, none⟩) T T) (bv (bs (pol q r (m.take (i + 1)))))) := Lib.hid (by rw [← HPut.out]; exact own_set HOi.out.drew HPl.out)
   have HB3 : Hid (Below g1 w2 (wr.drew.setCell ⟨g1, x, none⟩ (.int .u8 (y.n : Int)))) := Lib.hid (HWi.out.drew.setCell (p := ⟨g1, x, none⟩) (Nat.le_refl _) _)
   clear hby hy ha hb hd hx HPut HOi HWi
   go_wp2_with fail
   refine wp_region_still_tail 19 hmx (by kernel_rfl) ?_
   simp only [List.take_succ_cons, List.take_zero, List.drop_succ_cons, List.drop_zero]
   iterate 19 still_step
   refine wpStill_nil ?_
   go_wp2
   go_roundw
   case rel => exact ⟨i + 1, by omega, by go_num, HO3, HB3⟩
   case measure => simp [intOf]; omega
  ·obtain rfl : i = mn := by omega
   have ht : m.take i = m := List.take_of_length_le (by rw [HL.out]; exact Nat.le_refl _)
   rw [ht] at HOi
   go_wp2
   go_ret
   exact ⟨_, T, rfl, Nat.le_refl _, HOi.out.more (Nat.le_of_lt hs1), HB2.out.trans (HWi.out.mono (Nat.le_of_lt hs1))⟩
end Go.Proofs.YtofihklinkpbiaaGreat.Lo

namespace Go.Proofs.YtofihklinkpbiaaGreat.Lo
open Go.RowKit Go.Shelf F8 Poly GF Rd Ms
attribute [local go_sem] Oper.semAt_some


def REnc (w : World) (l : List F8) (z : Int) (L : Nat) (e : Ending) (w' : World) : Prop :=
 ∃ A c, e = .returned (.tuple #[.slice A L c, .int .i64 z]) ∧ L ≤ c ∧ Own w' w.heap.size 5 (.slice A L c) (bv (bs l)) ∧ Below w.heap.size w w'
attribute [-go_sem] Builtin.append_
set_option maxRecDepth 100000 in
set_option maxHeartbeats 4000000 in
theorem refEncode_calls {n k r q G : Nat} (hp : Lp n k r q G) (P : Option Addr) (m : List F8) (mn c : Nat) (hl : m.length = mn) (w : World) (hb : Bytes w P (bs m)) (L : Nat) (hL : (encZ (cpts (r + 1) G) q r m).1.length = L) :
    Calls Tryz.prog 33 #[.agg #[.int .i64 (n : Nat), .int .i64 (k : Nat), .int .i64 (r : Nat)], .slice P mn c] w (REnc w (encZ (cpts (r + 1) G) q r m).1 (encZ (cpts (r + 1) G) q r m).2 L) := by
  obtain ⟨V, hV⟩ : ∃ V, w.alloc (.cells #[.int .i64 (n : Nat), .int .i64 (k : Nat), .int .i64 (r : Nat)] 56) = V := ⟨_, rfl⟩
  have hbV : Below w.heap.size w V := by rw [← hV]; exact (Below.refl _ _).alloc (Nat.le_refl _) _
  have hblV : Block V w.heap.size 56 #[.int .i64 (n : Nat), .int .i64 (k : Nat), .int .i64 (r : Nat)] := by rw [← hV]; exact Block.new w _ _
  have hsV : w.heap.size < V.heap.size := by rw [← hV, World.size_alloc]; omega
  have c0 := hblV.cell 0
  have c1 := hblV.cell 1
  have c2 := hblV.cell 2
  by_cases hk : mn = k
  rotate_left
  · have e1 : encZ (cpts (r + 1) G) q r m = ([], 2) := if_neg (by rw [hl, ← hp.ek]; exact hk)
    rw [e1] at hL ⊢
    obtain rfl : L = 0 := hL.symm
    have hkk : ((mn : Int) != (k : Int)) = true := by simp; omega
    have HBV := Lib.hid hbV
    clear hbV hblV hsV hp hl hb hk e1 hL
    go_enter Tryz.func33, Tryz.ntmps33
    go_wp2
    go_ret2
    exact ⟨none, 0, rfl, Nat.le_refl _, Own.nil _ _ _, HBV.out⟩
  have e1 : encZ (cpts (r + 1) G) q r m = (word (pol q r m) (cpts (r + 1) G), 0) := if_pos (by rw [hl, ← hp.ek]; exact hk)
  rw [e1] at hL ⊢
  obtain ⟨xs, hxs⟩ : ∃ xs, cpts (r + 1) G = xs := ⟨_, rfl⟩
  obtain ⟨f, hf⟩ : ∃ f, pol q r m = f := ⟨_, rfl⟩
  obtain ⟨T, hT⟩ : ∃ T, q * (r + 1) - 1 = T := ⟨_, rfl⟩
  have hfl : f.length = T := by rw [← hf, pol_length, hT]
  have hxl : xs.length = n := by rw [← hxs, cpts_length]; exact hp.en.symm
  have hn9 := hp.nums
  have HPt : Hid (∀ X, Calls Tryz.prog 71 #[.agg #[.int .i64 (n : Nat), .int .i64 (k : Nat), .int .i64 (r : Nat)]] X (ROwn X xs n)) := Lib.hid fun X => hxs ▸ refPts_calls hp X
  have HPo : Hid (∀ X, Bytes X P (bs m) → Calls Tryz.prog 73 #[.agg #[.int .i64 (n : Nat), .int .i64 (k : Nat), .int .i64 (r : Nat)], .slice P mn c] X (ROwn X f T)) := Lib.hid fun X hX => by
    have h := refPoly_calls hp P m mn c hl hk X hX
    rw [hf, hT] at h
    exact h
  have HBy := Lib.hid hb
  have HBV := Lib.hid hbV
  have HBlV := Lib.hid hblV
  have HFl := Lib.hid hfl
  have HXl := Lib.hid hxl
  rw [hf, hxs]
  rw [hf, hxs, word_length, hxl] at hL
  obtain rfl : n = L := hL
  have hkk : ((mn : Int) != (k : Int)) = false := by simp; omega
  have hT9 : T ≤ 255 := by omega
  have hn255 : n ≤ 255 := by omega
  clear hbV hblV hp hl hb hk e1 hxs hf hT hfl hxl hn9
  go_enter Tryz.func33, Tryz.ntmps33
  go_wp2_with fail
  with_reducible refine (HPt.out _).mono ?_
  rintro e w1 ⟨A1, c1', rfl, hc1, hO1, hb1⟩
  clear hV c0 c1 c2 hkk HPt
  have hs1 : w.heap.size < w1.heap.size := Nat.lt_of_lt_of_le hsV hb1.size
  have HBl1 := Lib.hid (HBlV.out.below hb1 hsV)
  have HB1 := Lib.hid (HBV.out.trans (hb1.mono HBV.out.size))
  have HX1 := Lib.hid (Own.bytes hO1)
  obtain ⟨g1, hg1⟩ : ∃ g1, w1.heap.size = g1 := ⟨_, rfl⟩
  have HS : Hid (∀ X, Below g1 w1 X → X.cell? ⟨w.heap.size, 0, none⟩ = some (.int .i64 n) ∧ X.cell? ⟨w.heap.size, 1, none⟩ = some (.int .i64 k) ∧ X.cell? ⟨w.heap.size, 2, none⟩ = some (.int .i64 r)) := Lib.hid fun X hX => by
    rw [← hg1] at hX
    exact ⟨(hX.cell (p := ⟨w.heap.size, 0, none⟩) hs1).trans (HBl1.out.cell 0), (hX.cell (p := ⟨w.heap.size, 1, none⟩) hs1).trans (HBl1.out.cell 1), (hX.cell (p := ⟨w.heap.size, 2, none⟩) hs1).trans (HBl1.out.cell 2)⟩
  have HG1 := Lib.hid hg1
  clear hb1 hO1 HBV HBlV hg1 hsV
  go_wp2_with fail
  go_loopw [6, 8] (fun ov iv wr => ∃ i : Nat, i ≤ n ∧ iv = .int .i64 i ∧ Hid (Own wr g1 5 ov (bv (bs ((word f xs).take i)))) ∧ Hid (Below g1 w1 wr)) (fun _ iv _ => n - (intOf iv).toNat)
  case atStart => exact ⟨0, by omega, rfl, Lib.hid (by simpa [bs, bv] using Own.nil _ _ _), Lib.hid (Below.refl _ _)⟩
  case round =>
    obtain ⟨i, hi, rfl, HO2, HW⟩ := hrel
    by_cases hin : i < n
    · have hix : i < xs.length := by rw [HXl.out]; exact hin
      obtain ⟨bx, ox, rfl, hcx⟩ := cellF (HX1.out.below (HG1.out ▸ HW.out)) i hix
      obtain ⟨x, hx⟩ : ∃ x, coef xs i = x := ⟨_, rfl⟩
      obtain ⟨y, hy⟩ : ∃ y, eval f x = y := ⟨_, rfl⟩
      have HSx : Hid (∀ X, Below g1 w1 X → X.cell? ⟨bx, ox + i, none⟩ = some (.int .u8 x.n)) := Lib.hid fun X hX => by
        obtain ⟨b', o', e, hc⟩ := cellF (HX1.out.below (HG1.out ▸ hX : Below w1.heap.size w1 X)) i hix
        cases e
        rw [hx] at hc
        exact hc
      clear hcx
      have HTk : Hid ((word f xs).take (i + 1) = (word f xs).take i ++ [y]) := Lib.hid (by
        rw [take_succ' _ (show i < (word f xs).length by rw [word_length]; exact hix), ← coef_of_lt, word_get hix, hx, hy])
      obtain ⟨W0, hW0⟩ : ∃ l, (word f xs).take i = l := ⟨_, rfl⟩
      have hWl : W0.length = i := by rw [← hW0, List.length_take, word_length]; omega
      rw [hW0] at HTk HO2
      obtain ⟨Ao, co, rfl, hco⟩ := Own.shape HO2.out
      rw [hWl] at HO2 hco ⊢
      have HWl := Lib.hid hWl
      have hPo := HPo.out wr.drew (HBy.out.below (HB1.out.trans ((HG1.out ▸ HW.out.drew : Below w1.heap.size w1 wr.drew).mono HB1.out.size)))
      have HPo1 := Lib.hid hPo
      have hgs : g1 ≤ wr.heap.size := by rw [← HG1.out]; exact HW.out.size
      have HD := Lib.hid HW.out.drew
      have HC : Hid (∀ X, Below g1 w1 X → X.cell? ⟨w.heap.size, 0, none⟩ = some (.int .i64 n) ∧ X.cell? ⟨w.heap.size, 1, none⟩ = some (.int .i64 k) ∧ X.cell? ⟨w.heap.size, 2, none⟩ = some (.int .i64 r) ∧ X.cell? ⟨bx, ox + i, none⟩ = some (.int .u8 x.n)) := Lib.hid fun X hX => ⟨(HS.out X hX).1, (HS.out X hX).2.1, (HS.out X hX).2.2, HSx.out X hX⟩
      have hii : (i : Int) < (n : Int) := by omega
      have HStep : Hid (∀ A5 c5 w5, Own w5 wr.drew.heap.size 5 (.slice A5 T c5) (bv (bs f)) → Below wr.drew.heap.size wr.drew w5 → Below g1 w1 w5 ∧ Calls Tryz.prog 72 #[.slice A5 T c5, .int .u8 x.n] w5 (fun e w' => e = .returned (.int .u8 y.n) ∧ w5 = w') ∧ Below g1 w1 (w5.alloc (.cells #[.int .u8 (y.n : Nat)] 5)) ∧ ∃ v2 w7, (Builtin.append_ #[22, 22] 22 #[.slice Ao i co, .slice (some ⟨w5.heap.size, 0, none⟩) 1 1]).run Tryz.prog (w5.alloc (.cells #[.int .u8 (y.n : Nat)] 5)) = .ok v2 w7 ∧ Own w7 g1 5 v2 (bv (bs ((word f xs).take (i + 1)))) ∧ Below g1 w1 w7) := Lib.hid fun A5 c5 w5 hO5 hb5 => by
        have hz5 : g1 ≤ w5.heap.size := Nat.le_trans hgs hb5.size
        have hb5' : Below g1 wr.drew w5 := hb5.mono hgs
        have HB5 : Below g1 w1 w5 := HD.out.trans hb5'
        have hAt := refAt_calls A5 f T c5 x w5 HFl.out (Own.bytes hO5) (by omega)
        rw [hy] at hAt
        obtain ⟨w6, hw6⟩ : ∃ w6, w5.alloc (.cells #[.int .u8 (y.n : Nat)] 5) = w6 := ⟨_, rfl⟩
        have hb6 : Below w5.heap.size w5 w6 := by rw [← hw6]; exact (Below.refl _ _).alloc (Nat.le_refl _) _
        have HB6 : Below g1 w1 w6 := HB5.trans (hb6.mono hz5)
        have hz6 : g1 ≤ w6.heap.size := Nat.le_trans hz5 hb6.size
        have hK : OwnK 1 w6 g1 5 (.slice Ao i co) i (bv (bs W0)) := by
          have h := (HO2.out.drew.below hb5).below hb6
          unfold Own at h
          rw [bvs_length, HWl.out] at h
          exact h
        have hrow : Row w6 (some ⟨w5.heap.size, 0, none⟩) (bv [y.n]) := by rw [← hw6]; exact Row.new _ _ _ _
        obtain ⟨v2, w7, hrun, hown, hg7, -⟩ := run_appK (P := Tryz.prog) w6 1 g1 22 22 5 _ 1 Tryz.underlying22 info_u8 rfl (by omega) _ i _ hK ⟨w5.heap.size, 0, none⟩ 1 1 (bv [y.n]) rfl hrow (bv_one _) (by omega) (by omega) hz6
        have HB7 : Below g1 w1 w7 := HB6.trans (hK.grew hz6 hg7)
        have hown := (own1_of hown).1
        rw [← bvs_snoc, ← HTk.out] at hown
        rw [hw6]
        exact ⟨HB5, hAt, HB6, v2, w7, hrun, hown, HB7⟩
      clear hPo hx hy hix hW0 hWl HSx HTk HO2 HWl hgs
      go_wp2_with fail
      go_region_held (fun X => X.cell? ⟨w.heap.size, 0, none⟩ = some (.int .i64 n) ∧ X.cell? ⟨w.heap.size, 1, none⟩ = some (.int .i64 k) ∧ X.cell? ⟨w.heap.size, 2, none⟩ = some (.int .i64 r) ∧ X.cell? ⟨bx, ox + i, none⟩ = some (.int .u8 x.n)) (first | (with_reducible exact HC.out _ HD.out) | (with_reducible exact HC.out _ HB5.out) | (with_reducible exact HC.out _ HB6.out) | (with_reducible exact HC.out _ HB7.out))
        (first
          | (go_at_call 73
             (with_reducible refine HPo1.out.mono ?_)
             rintro e w5 ⟨A5, c5, rfl, hc5, hO5, hb5⟩
             obtain ⟨hB5, HAt, hB6, v2, w7, hrun, hO7, hB7⟩ := HStep.out A5 c5 w5 hO5 hb5
             have HB5 := Lib.hid hB5
             have HB6 := Lib.hid hB6
             have HB7 := Lib.hid hB7
             have HO7 := Lib.hid hO7
             clear hb5 hO5 hB5 hB6 hB7 hO7)
          | (go_at_call 72
             (with_reducible refine HAt.mono ?_)
             rintro e w9 ⟨rfl, rfl⟩))
      all_goals
        clear hrun HAt
        go_wp2
        go_roundw
        case rel => exact ⟨i + 1, by omega, by go_num, HO7, HB7⟩
        case measure => simp [intOf]; omega
    · obtain rfl : i = n := by omega
      have hO := HO2.out
      rw [List.take_of_length_le (by rw [word_length, HXl.out]; exact Nat.le_refl _)] at hO
      obtain ⟨A7, c7, rfl, hc7⟩ := Own.shape hO
      have hwl : (word f xs).length = i := by rw [word_length, HXl.out]
      rw [hwl] at hO hc7 ⊢
      have HQ : Hid (Below w.heap.size w wr) := Lib.hid (HB1.out.trans ((HG1.out ▸ HW.out : Below w1.heap.size w1 wr).mono HB1.out.size))
      have hs9 : w.heap.size ≤ g1 := by rw [← HG1.out]; exact Nat.le_of_lt hs1
      have HO9 := Lib.hid (hO.more hs9)
      clear hO HO2 hwl
      go_wp2
      go_ret2
      exact ⟨A7, c7, rfl, hc7, HO9.out, HQ.out⟩
end Go.Proofs.YtofihklinkpbiaaGreat.Lo

namespace Go.Proofs.YtofihklinkpbiaaGreat.localEncode
open Go.RowKit Go.Shelf F8 GF Poly Rd Ms Lo
attribute [local go_sem] Oper.semAt_some

def Few (n k r : Int) : Prop := n ≤ 15 ∧ k ≤ 15 ∧ r ≤ 15
instance (n k r : Int) : Decidable (Few n k r) := inferInstanceAs (Decidable (_ ∧ _))
theorem few_calls (n k r : Int) (w : World) : Calls Tryz.prog 31 #[.int .i64 n, .int .i64 k, .int .i64 r] w fun e w' => e = .returned (.bool (decide (Few n k r))) ∧ w = w' := by
 by_cases h1 : n ≤ 15
 ·have d1 : decide (n ≤ 15) = true := decide_eq_true h1
  by_cases h2 : k ≤ 15
  ·have d2 : decide (k ≤ 15) = true := decide_eq_true h2
   have HD : Hid (decide (r ≤ 15) = decide (Few n k r)) := Lib.hid (by rw [decide_eq_decide]; exact ⟨fun h => ⟨h1, h2, h⟩, fun h => h.2.2⟩)
   go_enter Tryz.func31, Tryz.ntmps31
   go_wp2
   go_ret
   exact ⟨ret_bool HD.out, rfl⟩
  ·have d2 : decide (k ≤ 15) = false := decide_eq_false h2
   have HD : Hid (decide (Few n k r) = false) := Lib.hid (decide_eq_false fun h => h2 h.2.1)
   go_enter Tryz.func31, Tryz.ntmps31
   go_wp2
   go_ret
   exact ⟨ret_bool HD.out.symm, rfl⟩
 ·have d1 : decide (n ≤ 15) = false := decide_eq_false h1
  have HD : Hid (decide (Few n k r) = false) := Lib.hid (decide_eq_false fun h => h1 h.1)
  go_enter Tryz.func31, Tryz.ntmps31
  go_wp2
  go_ret
  exact ⟨ret_bool HD.out.symm, rfl⟩
set_option maxRecDepth 100000 in
set_option maxHeartbeats 8000000 in
theorem core (PS : Poly.Spec) (Z : Wl.Spec) (w : World) (n k r0 : Int) (hl0 : -9223372036854775808 ≤ n) (hn2 : r0 < 9223372036854775808) (B : Option Addr) (q : List F8) (o c : Nat) (ho : q.length = o) (hbq : Bytes w B (bs q)) :
  Calls Tryz.prog 6 #[.int .i64 n, .int .i64 k, .int .i64 r0, .slice B o c] w fun e w' => e = .returned (.bool true) ∧ Below w.heap.size w w' := by
 have HB := Lib.hid hbq
 have HO := Lib.hid ho
 have hfew := few_calls n k r0 w
 clear hbq ho
 by_cases hf : Few n k r0
 rotate_left
 ·rw [decide_eq_false hf] at hfew
  have HFew := Lib.hid hfew
  clear hfew hf HB HO
  go_enter Tryz.func6, Tryz.ntmps6
  go_wp2_with (first
   | (go_at_call 31; refine HFew.out.mono ?_; rintro e w0 ⟨rfl, rfl⟩)
   | (go_at_call 27; (with_reducible refine (works_calls PS Z _).mono ?_); rintro e wz ⟨rfl, HZ⟩))
  go_ret
  exact ⟨rfl, HZ⟩
 rw [decide_eq_true hf] at hfew
 have HFew := Lib.hid hfew
 by_cases ho4 : o > 40
 ·have f1 : decide ((o : Int) > 40) = true := by simp; omega
  clear hfew hf HB HO ho4
  go_enter Tryz.func6, Tryz.ntmps6
  go_wp2_with (first
   | (go_at_call 31; refine HFew.out.mono ?_; rintro e w0 ⟨rfl, rfl⟩)
   | (go_at_call 27; (with_reducible refine (works_calls PS Z _).mono ?_); rintro e wz ⟨rfl, HZ⟩))
  go_ret
  exact ⟨rfl, HZ⟩
 have ho6 : o ≤ 40 := by omega
 have f1 : decide ((o : Int) > 40) = false := by simp; omega
 clear hfew hf ho4
 go_enter Tryz.func6, Tryz.ntmps6
 go_wp2_with (go_at_call 31; refine HFew.out.mono ?_; rintro e w0 ⟨rfl, rfl⟩)
 refine (GF.new_calls w).mono ?_
 rintro e w1 ⟨rfl, hw1⟩
 have HMd := Lib.hid (made n k r0 w w1 hw1 hl0 hn2)
 clear hw1 hl0 hn2
 go_wp2_with fail
 refine HMd.out.mono ?_
 clear HMd
 rintro e w2 (⟨hgood, S, hL, -, rfl⟩ | ⟨-, rfl, HBz⟩)
 rotate_left
 ·go_wp2_with (go_at_call 27; (with_reducible refine (works_calls PS Z _).mono ?_); rintro e wz ⟨rfl, HZ⟩)
  go_ret
  exact ⟨rfl, HBz.trans (HZ.mono HBz.size)⟩
 have HL := Lib.hid hL.lw
 have hexs : cpts (S.r + 1) S.G = S.xs := rfl
 obtain ⟨l, hl⟩ : ∃ l, (encZ S.xs S.q S.r q).1 = l := ⟨_, rfl⟩
 obtain ⟨z, hz⟩ : ∃ z, (encZ S.xs S.q S.r q).2 = z := ⟨_, rfl⟩
 obtain ⟨L, hLe⟩ : ∃ L, l.length = L := ⟨_, rfl⟩
 have hRe : ∀ W, Below w.heap.size w W → Calls Tryz.prog 33 #[.agg #[.int .i64 (S.n : Nat), .int .i64 (S.k : Nat), .int .i64 (S.r : Nat)], .slice B o c] W (REnc W l z L) := fun W hW => by
  have h1 := refEncode_calls hL.lw.ok.par B q o c HO.out W (HB.out.below hW) L
  rw [hexs, hl, hz] at h1
  exact h1 hLe
 clear hexs
 obtain ⟨kn, hkn⟩ : ∃ kn, S.k = kn := ⟨_, rfl⟩
 obtain ⟨sn, hsn⟩ : ∃ sn, S.n = sn := ⟨_, rfl⟩
 obtain ⟨rn, hrn⟩ : ∃ rn, S.r = rn := ⟨_, rfl⟩
 obtain rfl : n = (sn : Int) := by rw [← hsn]; exact hL.en.symm
 obtain rfl : k = (kn : Int) := by rw [← hkn]; exact hL.ek.symm
 obtain rfl : r0 = (rn : Int) := by rw [← hrn]; exact hL.er.symm
 rw [hsn, hkn, hrn] at hRe
 have HRe := Lib.hid hRe
 clear hRe
 have hq3 := HB.out.below HL.out.bel
 have cv1 := conv_f hq3 o c HO.out
 have cv2 := Rd.conv_b q o HO.out w2
 have hge := le_grown w2 o
 obtain ⟨gc, hgc⟩ : ∃ gc, grownCap w2 o 0 5 = gc := ⟨_, rfl⟩
 rw [hgc] at cv2 hge
 have hbw := Rd.bw_below w2 q
 have hby := Rd.bw_bytes w2 q
 obtain ⟨w4, hw4⟩ : ∃ w4, Lib.bytesWorld w2 5 (str (bs q)) = w4 := ⟨_, rfl⟩
 rw [hw4] at cv2 hbw hby
 have HL4 := Lib.hid (HL.out.below hbw)
 have HBF4 : Hid (BF S.g w4 (some ⟨w2.heap.size, 0, none⟩) q) := Lib.hid ⟨hby, fun _ a b ha hb => by
  cases ha; cases hb
  have := HL.out.ok.fld.fld.lt
  show w2.heap.size ≠ S.g
  omega⟩
 have HEn := Lib.hid (encode_calls PS HL4.out.ok (some ⟨w2.heap.size, 0, none⟩) q o gc HO.out HBF4.out)
 rw [hl, hz] at HEn
 have HLe := Lib.hid hLe
 clear hL hq3 hbw hby hge hgc hl hz hLe hsn hkn hrn hgood HL
 go_wp2_with fail
 refine HEn.out.mono ?_
 clear HEn
 rintro e w5 ⟨A5, c5, rfl, hc5, hO5, hf5, hp5⟩
 rw [HLe.out] at hO5 hc5 ⊢
 have hp5' : Past w4.heap.size S.g w4 w5 := hp5
 have HL5 := Lib.hid (HL4.out.go hf5 hp5')
 have HBF5 := Lib.hid (HBF4.out.past hp5')
 have HY5 := Lib.hid (Own.bytes hO5)
 clear hO5 hf5 hp5 hp5' HL4 HBF4
 go_wp2_with fail
 refine (HRe.out _ HL5.out.bel).mono ?_
 rintro e w6 ⟨A6, c6, rfl, hc6, hO6, hb6⟩
 have HL6 := Lib.hid (HL5.out.below hb6)
 have HBF6 := Lib.hid (HBF5.out.below hb6)
 have hs1 := same_calls A5 A6 l l L L c5 c6 w6 HLe.out HLe.out (HY5.out.below hb6) (Own.bytes hO6)
 have hs2 := same_calls _ B q q o o gc c w6 HO.out HO.out HBF6.out.by_ (HB.out.below HL6.out.bel)
 rw [decide_eq_true rfl] at hs1 hs2
 have HS1 := Lib.hid hs1
 have HS2 := Lib.hid hs2
 have hzz : (z == z) = true := by simp
 clear hs1 hs2 hb6 hO6 HL5 HBF5 HBF6 HY5 HRe
 go_wp2_with (first
  | (go_at_call 21; (with_reducible refine HS1.out.mono ?_); rintro e w10 ⟨rfl, rfl⟩; clear HS1)
  | (go_at_call 21; (with_reducible refine HS2.out.mono ?_); rintro e w10 ⟨rfl, rfl⟩)
  | (go_at_call 27; (with_reducible refine (works_calls PS Z _).mono ?_); rintro e wz ⟨rfl, HZ⟩))
 go_ret
 exact ⟨rfl, HL6.out.bel.trans (HZ.mono HL6.out.bel.size)⟩
theorem walk (PS : Poly.Spec) (Z : Wl.Spec) (w : World) (n0 : Int) (hl0 : -9223372036854775808 ≤ n0) (_hn0 : n0 < 9223372036854775808) (n1 : Int) (_hl1 : -9223372036854775808 ≤ n1) (_hn1 : n1 < 9223372036854775808) (n2 : Int) (_hl2 : -9223372036854775808 ≤ n2) (hn2 : n2 < 9223372036854775808) (A3 : Option Addr) (l3 : List Nat) (c3 : Nat) (hb3 : Bytes w A3 l3) (_hc3 : l3.length ≤ c3) (_hm3 : c3 ≤ 9223372036854775807) :
  Calls Tryz.prog 6 #[.int .i64 n0, .int .i64 n1, .int .i64 n2, .slice A3 l3.length c3] w fun e w' => e = .returned (.bool true) ∧ Below w.heap.size w w' := by
 obtain ⟨q, rfl⟩ := F8.of_bytes l3 hb3.lt
 exact core PS Z w n0 n1 n2 hl0 hn2 A3 q _ c3 (bs_length q).symm hb3
end Go.Proofs.YtofihklinkpbiaaGreat.localEncode

namespace Go.Proofs.YtofihklinkpbiaaGreat.localEncode
open Go.ChangeShapes Go.WideShapes Go.ChangeAt Go.RowKit
open Go.ChangeMaps (open_string shut_string)
set_option linter.unusedVariables false
theorem own : ownKnob Tryz.prog.godebug = none := by kernel_rfl
theorem laidOut : laidOutB Tryz.prog = true := by kernel_rfl

set_option maxRecDepth 100000 in
theorem contract (H : Type) (enc : TypeId × Value → H) (W : World) (base : Nat) (args : Array Value) (ds gs : List (DataW H)) (before : List MemPlace)
  (hval : ∀ (j : Nat) t v, Tryz.f6.params[j]? = some t → args[j]? = some v → Value.okWide Tryz.prog W .any base t v)
  (hW : DataW.Whole enc Tryz.prog Tryz.f6.params.toList Rows.localEncodeSpec.vars false W args.toList ds gs before)
  (hsz : (DataW.weightsEach Tryz.prog (Tryz.f6.params.toList ++ Rows.localEncodeSpec.plain.varTypes Tryz.prog) (ds ++ gs)).all (· ≤ reachBytes) = true) :
  Calls Tryz.prog 6 args W fun e W' => ∃ v, e = .returned v ∧ Rows.localEncodeSpec.post enc Tryz.prog Tryz.f6 false true false false W args v W' := by
 have hW' := hW
 obtain ⟨p, q, hA0, hV, rfl, hfz, hnd⟩ := hW
 have hA : DataW.TrodAll enc Tryz.prog W 0 (fun _ => true) true Tryz.f6.params.toList args.toList ds p := hA0
 rw [Tryz.params6] at hA hval hsz
 obtain ⟨v0, vs0, d0, ds0, p0, q0, hargs, rfl, rfl, h0, r0⟩ := trodAll_cons hA
 obtain ⟨v1, vs1, d1, ds1, p1, q1, rfl, rfl, rfl, h1, r1⟩ := trodAll_cons r0
 obtain ⟨v2, vs2, d2, ds2, p2, q2, rfl, rfl, rfl, h2, r2⟩ := trodAll_cons r1
 obtain ⟨v3, vs3, d3, ds3, p3, q3, rfl, rfl, rfl, h3, r3⟩ := trodAll_cons r2
 obtain ⟨rfl, rfl, rfl⟩ := trodAll_nil r3
 obtain rfl : args = #[v0, v1, v2, v3] := by cases args; simp_all
 obtain ⟨rfl, rfl⟩ := trodVars_none hV
 obtain ⟨n0, rfl, rfl, rfl, w0⟩ := open_int Tryz.underlying3 (hval 0 3 v0 rfl rfl) h0
 have b0 := wf_bounds_i64 w0
 obtain ⟨n1, rfl, rfl, rfl, w1⟩ := open_int Tryz.underlying3 (hval 1 3 v1 rfl rfl) h1
 have b1 := wf_bounds_i64 w1
 obtain ⟨n2, rfl, rfl, rfl, w2⟩ := open_int Tryz.underlying3 (hval 2 3 v2 rfl rfl) h2
 have b2 := wf_bounds_i64 w2
 obtain ⟨A3, len3, c3, rfl⟩ := okWide_slice Tryz.underlying22 (hval 3 22 v3 rfl rfl)
 have k3 := h3
 have lt3 : ∀ x ∈ p3, x.block < W.heap.size := by obtain ⟨m, hm⟩ := k3; exact DataW.trod_lt m _ _ _ hm
 obtain ⟨l3, rfl, hb3, hc3, hm3⟩ : ∃ l : List Nat, len3 = l.length ∧ Bytes W A3 l ∧ l.length ≤ c3 ∧ c3 ≤ 9223372036854775807 := by
  obtain ⟨fuel, hf⟩ := h3
  rcases open_ints Tryz.underlying22 Tryz.underlying5 (by kernel_rfl) hf with ⟨hcs, _⟩ | ⟨x, l, c, zs, hcs, _, hl, hm, hz, _, hcell, hwz⟩
  ·simp [Value.cells] at hcs
   obtain ⟨rfl, rfl, rfl⟩ := hcs
   exact ⟨[], rfl, Bytes.nil _ _, by simp, by simp⟩
  ·simp [Value.cells] at hcs
   obtain ⟨rfl, rfl, rfl⟩ := hcs
   obtain ⟨h1, h2⟩ := bytes_of hl (by simpa using hz) hcell hwz
   exact ⟨_, h2.symm, h1, by rw [h2]; exact hl, by have h := hm; simp only [maxLen] at h; omega⟩
 clear hA0
 refine (walk Poly.spec (Wl.spec Poly.spec) W n0 b0.1 b0.2 n1 b1.1 b1.2 n2 b2.1 b2.2 A3 l3 c3 hb3 hc3 hm3 ).mono fun e W' ⟨he, bel⟩ => ?_
 subst he
 exact ⟨_, rfl, _, _, _, [], _, [], hW', trodAll_mk1 (shut_bool Tryz.underlying4 _), (trodAll_cons_mk (shut_int Tryz.underlying3 w0) (trodAll_cons_mk (shut_int Tryz.underlying3 w1) (trodAll_cons_mk (shut_int Tryz.underlying3 w2) (trodAll_cons_mk (Below.trod laidOut (by kernel_rfl) (of_decide_eq_true (by kernel_rfl)) k3 bel lt3) trodAll_mk0)))), rfl, bel.frame _, fun h => by cases h⟩

set_option maxRecDepth 100000 in
theorem lifted (os : Os) (started : os.Started) (H : Type) (enc : TypeId × Value → H) :
  ReturnsInHanded {} Tryz.checked os 6 .any (Rows.localEncodeSpec.pre6 enc Tryz.prog Tryz.f6 Rows.localEncodeRow.domain false) (Rows.localEncodeSpec.post enc Tryz.prog Tryz.f6 false true false false) := by
 refine returnsInHanded_of_change_sized (C := Tryz.checked) own started (by kernel_rfl) Tryz.func6
  (ChangeSpec.witness6 (enc := enc) (C := Tryz.checked) false ⟨#[], #[.int .i64 0, .int .i64 0, .int .i64 0, .slice none 0 0], []⟩ 8 (by kernel_rfl) (by kernel_rfl) (by kernel_rfl) (by kernel_rfl)) ?_
 intro W base args ds gs before hval hW _ hsz _
 exact contract H enc W base args ds gs before hval hW hsz


theorem proved : Rows.LocalEncodeSaid :=
 OpenClaim.holds_of_wide 6 Tryz.f6 rfl rfl rfl rfl rfl rfl rfl ⟨rfl, rfl, rfl, rfl, rfl⟩ rfl rfl rfl rfl rfl (by kernel_rfl) Tryz.func6 (by kernel_rfl)
  (of_decide_eq_true (by kernel_rfl)) (by unfold Func.isWrapper; first | (rw [if_pos (by decide +kernel)]; kernel_rfl) | (rw [if_neg (by decide +kernel)]; exact ⟨rfl, rfl⟩))
  (fun os started H enc _ => lifted os started H enc)
end Go.Proofs.YtofihklinkpbiaaGreat.localEncode
