/- Of the program, joined: CfCode7, CfCode4, CfCode3. -/
import Derived.Test.YtjoghbmedfmioabPc01
import Derived.StillTailTactics
namespace Go.Proofs.Ytjoghbmedfmioab.Cf
open Go.RowKit
attribute [local go_sem] Oper.semAt_some
set_option linter.unusedVariables false
set_option maxRecDepth 100000 in
set_option maxHeartbeats 3200000 in
theorem local_calls (c : C) (hin : In c) (hok : c.Ok) (b : Nat) (w : World) (hbl : Block w b 23 (cV c)) : Calls Try.prog 55 #[.pointer (some ⟨b, 0, none⟩)] w fun e w' => e = .returned (sV (kLo c)) ∧ Below w.heap.size w w' := by
 obtain ⟨code, n, k, d, r, t, ww⟩ := c
 have hX1 : w.cell? ⟨b, 1, none⟩ = some (.int .i64 n) := hbl.cell 1
 have hX2 : w.cell? ⟨b, 2, none⟩ = some (.int .i64 k) := hbl.cell 2
 have hX3 : w.cell? ⟨b, 3, none⟩ = some (.int .i64 d) := hbl.cell 3
 have hX4 : w.cell? ⟨b, 4, none⟩ = some (.int .i64 r) := hbl.cell 4
 have hX5 : w.cell? ⟨b, 5, none⟩ = some (.int .i64 t) := hbl.cell 5
 unfold C.Ok at hok
 unfold In at hin
 dsimp only at hok hin
 have hlt : b < w.heap.size := hbl.lt
 have hno : ¬ GLo ⟨code, n, k, d, r, t, ww⟩ → sV (kLo ⟨code, n, k, d, r, t, ww⟩) = .agg #[.int .i64 0, .int .i64 0, .int .i64 0, .int .i64 0, .int .i64 0] := fun h => by unfold kLo; rw [if_neg h]; rfl
 have hyes : GLo ⟨code, n, k, d, r, t, ww⟩ → sV (kLo ⟨code, n, k, d, r, t, ww⟩) = .agg #[.int .i64 1, .int .i64 k, .int .i64 (k + k / r - 1), .int .i64 (if t = 0 then r else k + k / r - 1 + 2 * t), .int .i64 1] := fun h => by unfold kLo; rw [if_pos h]; rfl
 by_cases h1 : r < 1
 ·have HZ := Lib.hid (hno fun hg => by unfold GLo at hg; dsimp only at hg; omega)
  have d1 : decide (r < 1) = true := decide_eq_true h1
  clear hno hyes
  obtain HB := Lib.hid ((Below.refl w.heap.size w).alloc (Nat.le_refl _) (.cells #[.int .i64 0, .int .i64 0, .int .i64 0, .int .i64 0, .int .i64 0] 25))
  clear hbl
  go_enter Try.func55, Try.ntmps55
  go_wp2_with (fail)
  refine bodyPost_ret (v := .agg #[.int .i64 0, .int .i64 0, .int .i64 0, .int .i64 0, .int .i64 0]) (by simp [results, Try.results55, go_sem]) rfl ?_
  exact ⟨by rw [HZ.out], HB.out⟩
 have d1 : decide (r < 1) = false := decide_eq_false h1
 by_cases h2 : n ≤ r
 ·have HZ := Lib.hid (hno fun hg => by unfold GLo at hg; dsimp only at hg; omega)
  have d2 : decide (n ≤ r) = true := decide_eq_true h2
  clear hno hyes
  obtain HB := Lib.hid ((Below.refl w.heap.size w).alloc (Nat.le_refl _) (.cells #[.int .i64 0, .int .i64 0, .int .i64 0, .int .i64 0, .int .i64 0] 25))
  clear hbl
  go_enter Try.func55, Try.ntmps55
  go_wp2_with (fail)
  refine bodyPost_ret (v := .agg #[.int .i64 0, .int .i64 0, .int .i64 0, .int .i64 0, .int .i64 0]) (by simp [results, Try.results55, go_sem]) rfl ?_
  exact ⟨by rw [HZ.out], HB.out⟩
 have d2 : decide (n ≤ r) = false := decide_eq_false h2
 have hR0 := Lib.hid (Block.new w 25 #[.int .i64 0, .int .i64 0, .int .i64 0, .int .i64 0, .int .i64 0])
 have hC0 := Lib.hid (hbl.alloc (.cells #[.int .i64 0, .int .i64 0, .int .i64 0, .int .i64 0, .int .i64 0] 25))
 have hA := Lib.hid ((Below.refl w.heap.size w).alloc (Nat.le_refl _) (.cells #[.int .i64 0, .int .i64 0, .int .i64 0, .int .i64 0, .int .i64 0] 25))
 have HSp := Lib.hid (grouped_calls ⟨code, n, k, d, r, t, ww⟩ (by dsimp only; omega) (by dsimp only; omega) (by dsimp only; omega))
 unfold cV at HSp
 dsimp only at HSp
 have hX0 : w.cell? ⟨b, 0, none⟩ = some (.int .u8 (code : Nat)) := hbl.cell 0
 have hX6 : w.cell? ⟨b, 6, none⟩ = some (.int .i64 ww) := hbl.cell 6
 clear hbl
 by_cases h5 : n % (r + 1) = 0 ∧ 255 % (r + 1) = 0
 rotate_left
 ·have HZ := Lib.hid (hno fun hg => h5 ⟨hg.2.2.1, hg.2.2.2.1⟩)
  have HSq : Hid (∀ X : World, Calls Try.prog 56 #[.agg #[.int .u8 (code : Nat), .int .i64 n, .int .i64 k, .int .i64 d, .int .i64 r, .int .i64 t, .int .i64 ww]] X fun e w' => e = .returned (.bool false) ∧ Below X.heap.size X w') := by rw [decide_eq_false h5] at HSp; exact HSp
  clear hno hyes HSp h5
  go_enter Try.func55, Try.ntmps55
  go_wp2_with (go_at_call 56; (with_reducible refine (HSq.out _).mono ?_); rintro e w1 ⟨rfl, hb1⟩; have hR1 := hR0.out.below hb1 (by rw [World.size_alloc]; omega); have hC1 := hC0.out.below hb1 (by rw [World.size_alloc]; omega); have y0 := hR1.cell 0; have y1 := hR1.cell 1; have y2 := hR1.cell 2; have y3 := hR1.cell 3; have y4 := hR1.cell 4; have f0 := hR1.frozen 0; have f1 := hR1.frozen 1; have f2 := hR1.frozen 2; have f3 := hR1.frozen 3; have f4 := hR1.frozen 4; have x0 : w1.cell? ⟨b, 0, none⟩ = some (.int .u8 (code : Nat)) := hC1.cell 0; have x1 : w1.cell? ⟨b, 1, none⟩ = some (.int .i64 n) := hC1.cell 1; have x2 : w1.cell? ⟨b, 2, none⟩ = some (.int .i64 k) := hC1.cell 2; have x3 : w1.cell? ⟨b, 3, none⟩ = some (.int .i64 d) := hC1.cell 3; have x4 : w1.cell? ⟨b, 4, none⟩ = some (.int .i64 r) := hC1.cell 4; have x5 : w1.cell? ⟨b, 5, none⟩ = some (.int .i64 t) := hC1.cell 5; have x6 : w1.cell? ⟨b, 6, none⟩ = some (.int .i64 ww) := hC1.cell 6; have HR1 := Lib.hid hR1; have HB1 := Lib.hid (hA.out.trans (hb1.mono (by rw [World.size_alloc]; omega))); clear hR1 hC1 hb1)
  obtain ⟨W, hW, hP, hBW⟩ := put5 HB1.out HR1.out (.int .i64 0) (.int .i64 0) (.int .i64 0) (.int .i64 0) (.int .i64 0)
  rw [hW]
  have p0 := hP.cell 0
  have p1 := hP.cell 1
  have p2 := hP.cell 2
  have p3 := hP.cell 3
  have p4 := hP.cell 4
  refine bodyPost_ret (v := .agg #[.int .i64 0, .int .i64 0, .int .i64 0, .int .i64 0, .int .i64 0]) (by simp [results, Try.results55, go_sem, p0, p1, p2, p3, p4]) rfl ?_
  exact ⟨by rw [HZ.out], hBW⟩
 have HSq : Hid (∀ X : World, Calls Try.prog 56 #[.agg #[.int .u8 (code : Nat), .int .i64 n, .int .i64 k, .int .i64 d, .int .i64 r, .int .i64 t, .int .i64 ww]] X fun e w' => e = .returned (.bool true) ∧ Below X.heap.size X w') := by rw [decide_eq_true h5] at HSp; exact HSp
 have H5 := Lib.hid h5
 clear h5 HSp
 by_cases h6 : k < 1
 ·have HZ := Lib.hid (hno fun hg => by unfold GLo at hg; dsimp only at hg; omega)
  have d6 : decide (k < 1) = true := decide_eq_true h6
  clear hno hyes
  go_enter Try.func55, Try.ntmps55
  go_wp2_with (go_at_call 56; (with_reducible refine (HSq.out _).mono ?_); rintro e w1 ⟨rfl, hb1⟩; have hR1 := hR0.out.below hb1 (by rw [World.size_alloc]; omega); have hC1 := hC0.out.below hb1 (by rw [World.size_alloc]; omega); have y0 := hR1.cell 0; have y1 := hR1.cell 1; have y2 := hR1.cell 2; have y3 := hR1.cell 3; have y4 := hR1.cell 4; have f0 := hR1.frozen 0; have f1 := hR1.frozen 1; have f2 := hR1.frozen 2; have f3 := hR1.frozen 3; have f4 := hR1.frozen 4; have x0 : w1.cell? ⟨b, 0, none⟩ = some (.int .u8 (code : Nat)) := hC1.cell 0; have x1 : w1.cell? ⟨b, 1, none⟩ = some (.int .i64 n) := hC1.cell 1; have x2 : w1.cell? ⟨b, 2, none⟩ = some (.int .i64 k) := hC1.cell 2; have x3 : w1.cell? ⟨b, 3, none⟩ = some (.int .i64 d) := hC1.cell 3; have x4 : w1.cell? ⟨b, 4, none⟩ = some (.int .i64 r) := hC1.cell 4; have x5 : w1.cell? ⟨b, 5, none⟩ = some (.int .i64 t) := hC1.cell 5; have x6 : w1.cell? ⟨b, 6, none⟩ = some (.int .i64 ww) := hC1.cell 6; have HR1 := Lib.hid hR1; have HB1 := Lib.hid (hA.out.trans (hb1.mono (by rw [World.size_alloc]; omega))); clear hR1 hC1 hb1)
  obtain ⟨W, hW, hP, hBW⟩ := put5 HB1.out HR1.out (.int .i64 0) (.int .i64 0) (.int .i64 0) (.int .i64 0) (.int .i64 0)
  rw [hW]
  have p0 := hP.cell 0
  have p1 := hP.cell 1
  have p2 := hP.cell 2
  have p3 := hP.cell 3
  have p4 := hP.cell 4
  refine bodyPost_ret (v := .agg #[.int .i64 0, .int .i64 0, .int .i64 0, .int .i64 0, .int .i64 0]) (by simp [results, Try.results55, go_sem, p0, p1, p2, p3, p4]) rfl ?_
  exact ⟨by rw [HZ.out], hBW⟩
 have d6 : decide (k < 1) = false := decide_eq_false h6
 by_cases h7 : n < k
 ·have HZ := Lib.hid (hno fun hg => by unfold GLo at hg; dsimp only at hg; omega)
  have d7 : decide (n < k) = true := decide_eq_true h7
  clear hno hyes
  go_enter Try.func55, Try.ntmps55
  go_wp2_with (go_at_call 56; (with_reducible refine (HSq.out _).mono ?_); rintro e w1 ⟨rfl, hb1⟩; have hR1 := hR0.out.below hb1 (by rw [World.size_alloc]; omega); have hC1 := hC0.out.below hb1 (by rw [World.size_alloc]; omega); have y0 := hR1.cell 0; have y1 := hR1.cell 1; have y2 := hR1.cell 2; have y3 := hR1.cell 3; have y4 := hR1.cell 4; have f0 := hR1.frozen 0; have f1 := hR1.frozen 1; have f2 := hR1.frozen 2; have f3 := hR1.frozen 3; have f4 := hR1.frozen 4; have x0 : w1.cell? ⟨b, 0, none⟩ = some (.int .u8 (code : Nat)) := hC1.cell 0; have x1 : w1.cell? ⟨b, 1, none⟩ = some (.int .i64 n) := hC1.cell 1; have x2 : w1.cell? ⟨b, 2, none⟩ = some (.int .i64 k) := hC1.cell 2; have x3 : w1.cell? ⟨b, 3, none⟩ = some (.int .i64 d) := hC1.cell 3; have x4 : w1.cell? ⟨b, 4, none⟩ = some (.int .i64 r) := hC1.cell 4; have x5 : w1.cell? ⟨b, 5, none⟩ = some (.int .i64 t) := hC1.cell 5; have x6 : w1.cell? ⟨b, 6, none⟩ = some (.int .i64 ww) := hC1.cell 6; have HR1 := Lib.hid hR1; have HB1 := Lib.hid (hA.out.trans (hb1.mono (by rw [World.size_alloc]; omega))); clear hR1 hC1 hb1)
  obtain ⟨W, hW, hP, hBW⟩ := put5 HB1.out HR1.out (.int .i64 0) (.int .i64 0) (.int .i64 0) (.int .i64 0) (.int .i64 0)
  rw [hW]
  have p0 := hP.cell 0
  have p1 := hP.cell 1
  have p2 := hP.cell 2
  have p3 := hP.cell 3
  have p4 := hP.cell 4
  refine bodyPost_ret (v := .agg #[.int .i64 0, .int .i64 0, .int .i64 0, .int .i64 0, .int .i64 0]) (by simp [results, Try.results55, go_sem, p0, p1, p2, p3, p4]) rfl ?_
  exact ⟨by rw [HZ.out], hBW⟩
 have d7 : decide (n < k) = false := decide_eq_false h7
 obtain ⟨z9, hz9⟩ : ∃ z, k.tmod r = z := ⟨_, rfl⟩
 have hb9 := tmod_in (n := k) (m := r) (by omega) (by omega)
 rw [hz9] at hb9
 have hw9 : IntKind.i64.wrap z9 = z9 := i64w (by omega) (by omega)
 have HD : Hid (z9 = 0 ↔ k % r = 0) := Lib.hid (by rw [← hz9]; exact tmod_zero)
 have hr0 : ¬ r = 0 := by omega
 have hr1 : (r == 0) = false := by simp; omega
 clear hb9
 by_cases h8 : ¬ z9 = 0
 ·have HZ := Lib.hid (hno fun hg => by unfold GLo at hg; dsimp only at hg; exact h8 (HD.out.2 hg.2.2.2.2.2.2.1))
  have d8 : (z9 != 0) = true := by simpa using h8
  clear hno hyes
  go_enter Try.func55, Try.ntmps55
  go_wp2_with (go_at_call 56; (with_reducible refine (HSq.out _).mono ?_); rintro e w1 ⟨rfl, hb1⟩; have hR1 := hR0.out.below hb1 (by rw [World.size_alloc]; omega); have hC1 := hC0.out.below hb1 (by rw [World.size_alloc]; omega); have y0 := hR1.cell 0; have y1 := hR1.cell 1; have y2 := hR1.cell 2; have y3 := hR1.cell 3; have y4 := hR1.cell 4; have f0 := hR1.frozen 0; have f1 := hR1.frozen 1; have f2 := hR1.frozen 2; have f3 := hR1.frozen 3; have f4 := hR1.frozen 4; have x0 : w1.cell? ⟨b, 0, none⟩ = some (.int .u8 (code : Nat)) := hC1.cell 0; have x1 : w1.cell? ⟨b, 1, none⟩ = some (.int .i64 n) := hC1.cell 1; have x2 : w1.cell? ⟨b, 2, none⟩ = some (.int .i64 k) := hC1.cell 2; have x3 : w1.cell? ⟨b, 3, none⟩ = some (.int .i64 d) := hC1.cell 3; have x4 : w1.cell? ⟨b, 4, none⟩ = some (.int .i64 r) := hC1.cell 4; have x5 : w1.cell? ⟨b, 5, none⟩ = some (.int .i64 t) := hC1.cell 5; have x6 : w1.cell? ⟨b, 6, none⟩ = some (.int .i64 ww) := hC1.cell 6; have HR1 := Lib.hid hR1; have HB1 := Lib.hid (hA.out.trans (hb1.mono (by rw [World.size_alloc]; omega))); clear hR1 hC1 hb1)
  obtain ⟨W, hW, hP, hBW⟩ := put5 HB1.out HR1.out (.int .i64 0) (.int .i64 0) (.int .i64 0) (.int .i64 0) (.int .i64 0)
  rw [hW]
  have p0 := hP.cell 0
  have p1 := hP.cell 1
  have p2 := hP.cell 2
  have p3 := hP.cell 3
  have p4 := hP.cell 4
  refine bodyPost_ret (v := .agg #[.int .i64 0, .int .i64 0, .int .i64 0, .int .i64 0, .int .i64 0]) (by simp [results, Try.results55, go_sem, p0, p1, p2, p3, p4]) rfl ?_
  exact ⟨by rw [HZ.out], hBW⟩
 have d8 : (z9 != 0) = false := by simpa using h8
 by_cases h9 : ¬ d = 0
 ·have HZ := Lib.hid (hno fun hg => by unfold GLo at hg; dsimp only at hg; omega)
  have d9 : (d != 0) = true := by simpa using h9
  clear hno hyes
  go_enter Try.func55, Try.ntmps55
  go_wp2_with (go_at_call 56; (with_reducible refine (HSq.out _).mono ?_); rintro e w1 ⟨rfl, hb1⟩; have hR1 := hR0.out.below hb1 (by rw [World.size_alloc]; omega); have hC1 := hC0.out.below hb1 (by rw [World.size_alloc]; omega); have y0 := hR1.cell 0; have y1 := hR1.cell 1; have y2 := hR1.cell 2; have y3 := hR1.cell 3; have y4 := hR1.cell 4; have f0 := hR1.frozen 0; have f1 := hR1.frozen 1; have f2 := hR1.frozen 2; have f3 := hR1.frozen 3; have f4 := hR1.frozen 4; have x0 : w1.cell? ⟨b, 0, none⟩ = some (.int .u8 (code : Nat)) := hC1.cell 0; have x1 : w1.cell? ⟨b, 1, none⟩ = some (.int .i64 n) := hC1.cell 1; have x2 : w1.cell? ⟨b, 2, none⟩ = some (.int .i64 k) := hC1.cell 2; have x3 : w1.cell? ⟨b, 3, none⟩ = some (.int .i64 d) := hC1.cell 3; have x4 : w1.cell? ⟨b, 4, none⟩ = some (.int .i64 r) := hC1.cell 4; have x5 : w1.cell? ⟨b, 5, none⟩ = some (.int .i64 t) := hC1.cell 5; have x6 : w1.cell? ⟨b, 6, none⟩ = some (.int .i64 ww) := hC1.cell 6; have HR1 := Lib.hid hR1; have HB1 := Lib.hid (hA.out.trans (hb1.mono (by rw [World.size_alloc]; omega))); clear hR1 hC1 hb1)
  obtain ⟨W, hW, hP, hBW⟩ := put5 HB1.out HR1.out (.int .i64 0) (.int .i64 0) (.int .i64 0) (.int .i64 0) (.int .i64 0)
  rw [hW]
  have p0 := hP.cell 0
  have p1 := hP.cell 1
  have p2 := hP.cell 2
  have p3 := hP.cell 3
  have p4 := hP.cell 4
  refine bodyPost_ret (v := .agg #[.int .i64 0, .int .i64 0, .int .i64 0, .int .i64 0, .int .i64 0]) (by simp [results, Try.results55, go_sem, p0, p1, p2, p3, p4]) rfl ?_
  exact ⟨by rw [HZ.out], hBW⟩
 have d9 : (d != 0) = false := by simpa using h9
 obtain rfl : z9 = 0 := by omega
 obtain rfl : d = 0 := by omega
 have HZ := Lib.hid (hyes ⟨by dsimp only; omega, by dsimp only; omega, H5.out.1, H5.out.2, by dsimp only; omega, by dsimp only; omega, HD.out.1 rfl, rfl⟩)
 have hdv : k.tdiv r = k / r := Int.tdiv_eq_ediv_of_nonneg (by omega)
 have hle : k / r ≤ k := Int.ediv_le_self _ (by omega)
 have hge : 0 ≤ k / r := Int.ediv_nonneg (by omega) (by omega)
 obtain ⟨dv, hdv'⟩ : ∃ dv, k / r = dv := ⟨_, rfl⟩
 rw [hdv'] at hdv hle hge HZ
 have v1 : IntKind.i64.wrap (k + dv) = k + dv := i64w (by omega) (by omega)
 have v2 : IntKind.i64.wrap (k + dv - 1) = k + dv - 1 := i64w (by omega) (by omega)
 have v3 : IntKind.i64.wrap dv = dv := i64w (by omega) (by omega)
 have v4 : IntKind.i64.wrap (2 * t) = 2 * t := i64w (by omega) (by omega)
 have v5 : IntKind.i64.wrap (k + dv - 1 + 2 * t) = k + dv - 1 + 2 * t := i64w (by omega) (by omega)
 clear hno hyes hdv' H5 HD h8 h9
 go_enter Try.func55, Try.ntmps55
 go_wp2_with (go_at_call 56; (with_reducible refine (HSq.out _).mono ?_); rintro e w1 ⟨rfl, hb1⟩; have hR1 := hR0.out.below hb1 (by rw [World.size_alloc]; omega); have hC1 := hC0.out.below hb1 (by rw [World.size_alloc]; omega); have y0 := hR1.cell 0; have y1 := hR1.cell 1; have y2 := hR1.cell 2; have y3 := hR1.cell 3; have y4 := hR1.cell 4; have f0 := hR1.frozen 0; have f1 := hR1.frozen 1; have f2 := hR1.frozen 2; have f3 := hR1.frozen 3; have f4 := hR1.frozen 4; have x0 : w1.cell? ⟨b, 0, none⟩ = some (.int .u8 (code : Nat)) := hC1.cell 0; have x1 : w1.cell? ⟨b, 1, none⟩ = some (.int .i64 n) := hC1.cell 1; have x2 : w1.cell? ⟨b, 2, none⟩ = some (.int .i64 k) := hC1.cell 2; have x3 : w1.cell? ⟨b, 3, none⟩ = some (.int .i64 0) := hC1.cell 3; have x4 : w1.cell? ⟨b, 4, none⟩ = some (.int .i64 r) := hC1.cell 4; have x5 : w1.cell? ⟨b, 5, none⟩ = some (.int .i64 t) := hC1.cell 5; have x6 : w1.cell? ⟨b, 6, none⟩ = some (.int .i64 ww) := hC1.cell 6; have HR1 := Lib.hid hR1; have HB1 := Lib.hid (hA.out.trans (hb1.mono (by rw [World.size_alloc]; omega))); clear hR1 hC1 hb1)
 have X2 := cell_regrown x2
 have X4 := cell_regrown x4
 have X5 := cell_regrown x5
 refine wp_region_quiet_below (by kernel_rfl) (by kernel_rfl) ?_
 repeat (go_big_quiet_step (fail))
 refine wpQuiet_nil ?_
 intro _ hw'
 obtain ⟨⟨dq, osq⟩, hw''⟩ := hw'
 subst hw''
 have HQ := Lib.hid (HB1.out.trans ((below_regrown w1 dq osq).mono HB1.out.size))
 have hR2 := HR1.out.below (below_regrown w1 dq osq) HR1.out.lt
 replace X2 := X2 dq osq
 replace X4 := X4 dq osq
 replace X5 := X5 dq osq
 dsimp only
 generalize Sort.grow (redrawn w1 dq) osq = wq at *
 clear x0 x1 x2 x3 x4 x5 x6 y0 y1 y2 y3 y4 f0 f1 f2 f3 f4
 have y0 := hR2.cell 0
 have y1 := hR2.cell 1
 have y2 := hR2.cell 2
 have y3 := hR2.cell 3
 have y4 := hR2.cell 4
 have f0 := hR2.frozen 0
 have f1 := hR2.frozen 1
 have f2 := hR2.frozen 2
 have f3 := hR2.frozen 3
 have f4 := hR2.frozen 4
 have HR2 := Lib.hid hR2
 clear hR2 HR1 HB1 HSq hR0 hC0 hA
 by_cases h0 : t = 0
 ·have d0 : (t == 0) = true := by simpa using h0
  rw [if_pos h0] at HZ
  clear h0
  have HB1 := HQ
  have HR1 := HR2
  go_wp2
  obtain ⟨W, hW, hP, hBW⟩ := put5 HB1.out HR1.out (.int .i64 1) (.int .i64 k) (.int .i64 (k + dv - 1)) (.int .i64 r) (.int .i64 1)
  rw [hW]
  have p0 := hP.cell 0
  have p1 := hP.cell 1
  have p2 := hP.cell 2
  have p3 := hP.cell 3
  have p4 := hP.cell 4
  refine bodyPost_ret (v := .agg #[.int .i64 1, .int .i64 k, .int .i64 (k + dv - 1), .int .i64 (r), .int .i64 1]) (by simp [results, Try.results55, go_sem, p0, p1, p2, p3, p4]) rfl ?_
  exact ⟨by rw [HZ.out], hBW⟩
 ·have d0 : (t == 0) = false := by simpa using h0
  rw [if_neg h0] at HZ
  clear h0
  have HB1 := HQ
  have HR1 := HR2
  go_wp2
  obtain ⟨W, hW, hP, hBW⟩ := put5 HB1.out HR1.out (.int .i64 1) (.int .i64 k) (.int .i64 (k + dv - 1)) (.int .i64 (k + dv - 1 + 2 * t)) (.int .i64 1)
  rw [hW]
  have p0 := hP.cell 0
  have p1 := hP.cell 1
  have p2 := hP.cell 2
  have p3 := hP.cell 3
  have p4 := hP.cell 4
  refine bodyPost_ret (v := .agg #[.int .i64 1, .int .i64 k, .int .i64 (k + dv - 1), .int .i64 (k + dv - 1 + 2 * t), .int .i64 1]) (by simp [results, Try.results55, go_sem, p0, p1, p2, p3, p4]) rfl ?_
  exact ⟨by rw [HZ.out], hBW⟩
end Go.Proofs.Ytjoghbmedfmioab.Cf

namespace Go.Proofs.Ytjoghbmedfmioab.Cf
open Go.RowKit
attribute [local go_sem] Oper.semAt_some
set_option linter.unusedVariables false
set_option maxRecDepth 100000 in
set_option maxHeartbeats 3200000 in
theorem tr_calls (c : C) (hin : In c) (hok : c.Ok) (b : Nat) (w : World) (hbl : Block w b 23 (cV c)) : Calls Try.prog 54 #[.pointer (some ⟨b, 0, none⟩)] w fun e w' => e = .returned (sV (kTr c)) ∧ Below w.heap.size w w' := by
 obtain ⟨code, n, k, d, r, t, ww⟩ := c
 have hX1 : w.cell? ⟨b, 1, none⟩ = some (.int .i64 n) := hbl.cell 1
 have hX2 : w.cell? ⟨b, 2, none⟩ = some (.int .i64 k) := hbl.cell 2
 have hX3 : w.cell? ⟨b, 3, none⟩ = some (.int .i64 d) := hbl.cell 3
 have hX4 : w.cell? ⟨b, 4, none⟩ = some (.int .i64 r) := hbl.cell 4
 have hX5 : w.cell? ⟨b, 5, none⟩ = some (.int .i64 t) := hbl.cell 5
 unfold C.Ok at hok
 unfold In at hin
 dsimp only at hok hin
 have hlt : b < w.heap.size := hbl.lt
 have hno : ¬ GTr ⟨code, n, k, d, r, t, ww⟩ → sV (kTr ⟨code, n, k, d, r, t, ww⟩) = .agg #[.int .i64 0, .int .i64 0, .int .i64 0, .int .i64 0, .int .i64 0] := fun h => by unfold kTr; rw [if_neg h]; rfl
 have hyes : GTr ⟨code, n, k, d, r, t, ww⟩ → sV (kTr ⟨code, n, k, d, r, t, ww⟩) = .agg #[.int .i64 (n - 1), .int .i64 (k * (n - 1) - pairs k), .int .i64 k, .int .i64 (n - 1), .int .i64 1] := fun h => by unfold kTr; rw [if_pos h]; rfl
 by_cases h1 : k < 1
 ·have HZ := Lib.hid (hno fun hg => by unfold GTr at hg; dsimp only at hg; omega)
  have d1 : decide (k < 1) = true := decide_eq_true h1
  clear hno hyes
  obtain HB := Lib.hid ((Below.refl w.heap.size w).alloc (Nat.le_refl _) (.cells #[.int .i64 0, .int .i64 0, .int .i64 0, .int .i64 0, .int .i64 0] 25))
  clear hbl
  go_enter Try.func54, Try.ntmps54
  go_wp2_with ((go_at_call 53; refine (pairs_calls n (by omega) (by omega) _).mono ?_; rintro e w1 ⟨rfl, rfl⟩))
  refine bodyPost_ret (v := .agg #[.int .i64 0, .int .i64 0, .int .i64 0, .int .i64 0, .int .i64 0]) (by simp [results, Try.results54, go_sem]) rfl ?_
  exact ⟨by rw [HZ.out], HB.out⟩
 have d1 : decide (k < 1) = false := decide_eq_false h1
 by_cases h2 : n ≤ k
 ·have HZ := Lib.hid (hno fun hg => by unfold GTr at hg; dsimp only at hg; omega)
  have d2 : decide (n ≤ k) = true := decide_eq_true h2
  clear hno hyes
  obtain HB := Lib.hid ((Below.refl w.heap.size w).alloc (Nat.le_refl _) (.cells #[.int .i64 0, .int .i64 0, .int .i64 0, .int .i64 0, .int .i64 0] 25))
  clear hbl
  go_enter Try.func54, Try.ntmps54
  go_wp2_with ((go_at_call 53; refine (pairs_calls n (by omega) (by omega) _).mono ?_; rintro e w1 ⟨rfl, rfl⟩))
  refine bodyPost_ret (v := .agg #[.int .i64 0, .int .i64 0, .int .i64 0, .int .i64 0, .int .i64 0]) (by simp [results, Try.results54, go_sem]) rfl ?_
  exact ⟨by rw [HZ.out], HB.out⟩
 have d2 : decide (n ≤ k) = false := decide_eq_false h2
 by_cases h3 : 255 < pairs n
 ·have HZ := Lib.hid (hno fun hg => by unfold GTr at hg; dsimp only at hg; have hp := (pairs_255 (n := n) (by omega) (by omega)).2 (by omega); omega)
  have d3 : decide (255 < pairs n) = true := decide_eq_true h3
  clear hno hyes
  obtain HB := Lib.hid ((Below.refl w.heap.size w).alloc (Nat.le_refl _) (.cells #[.int .i64 0, .int .i64 0, .int .i64 0, .int .i64 0, .int .i64 0] 25))
  clear hbl
  go_enter Try.func54, Try.ntmps54
  go_wp2_with ((go_at_call 53; refine (pairs_calls n (by omega) (by omega) _).mono ?_; rintro e w1 ⟨rfl, rfl⟩))
  refine bodyPost_ret (v := .agg #[.int .i64 0, .int .i64 0, .int .i64 0, .int .i64 0, .int .i64 0]) (by simp [results, Try.results54, go_sem]) rfl ?_
  exact ⟨by rw [HZ.out], HB.out⟩
 have d3 : decide (255 < pairs n) = false := decide_eq_false h3
 by_cases h4 : ¬ t = 0
 ·have HZ := Lib.hid (hno fun hg => by unfold GTr at hg; dsimp only at hg; omega)
  have d4 : (t != 0) = true := by simpa using h4
  clear hno hyes
  obtain HB := Lib.hid ((Below.refl w.heap.size w).alloc (Nat.le_refl _) (.cells #[.int .i64 0, .int .i64 0, .int .i64 0, .int .i64 0, .int .i64 0] 25))
  clear hbl
  go_enter Try.func54, Try.ntmps54
  go_wp2_with ((go_at_call 53; refine (pairs_calls n (by omega) (by omega) _).mono ?_; rintro e w1 ⟨rfl, rfl⟩))
  refine bodyPost_ret (v := .agg #[.int .i64 0, .int .i64 0, .int .i64 0, .int .i64 0, .int .i64 0]) (by simp [results, Try.results54, go_sem]) rfl ?_
  exact ⟨by rw [HZ.out], HB.out⟩
 have d4 : (t != 0) = false := by simpa using h4
 by_cases h5 : ¬ d = 0
 ·have HZ := Lib.hid (hno fun hg => by unfold GTr at hg; dsimp only at hg; omega)
  have d5 : (d != 0) = true := by simpa using h5
  clear hno hyes
  obtain HB := Lib.hid ((Below.refl w.heap.size w).alloc (Nat.le_refl _) (.cells #[.int .i64 0, .int .i64 0, .int .i64 0, .int .i64 0, .int .i64 0] 25))
  clear hbl
  go_enter Try.func54, Try.ntmps54
  go_wp2_with ((go_at_call 53; refine (pairs_calls n (by omega) (by omega) _).mono ?_; rintro e w1 ⟨rfl, rfl⟩))
  refine bodyPost_ret (v := .agg #[.int .i64 0, .int .i64 0, .int .i64 0, .int .i64 0, .int .i64 0]) (by simp [results, Try.results54, go_sem]) rfl ?_
  exact ⟨by rw [HZ.out], HB.out⟩
 have d5 : (d != 0) = false := by simpa using h5
 by_cases h6 : ¬ r = 0
 ·have HZ := Lib.hid (hno fun hg => by unfold GTr at hg; dsimp only at hg; omega)
  have d6 : (r != 0) = true := by simpa using h6
  clear hno hyes
  obtain HB := Lib.hid ((Below.refl w.heap.size w).alloc (Nat.le_refl _) (.cells #[.int .i64 0, .int .i64 0, .int .i64 0, .int .i64 0, .int .i64 0] 25))
  clear hbl
  go_enter Try.func54, Try.ntmps54
  go_wp2_with ((go_at_call 53; refine (pairs_calls n (by omega) (by omega) _).mono ?_; rintro e w1 ⟨rfl, rfl⟩))
  refine bodyPost_ret (v := .agg #[.int .i64 0, .int .i64 0, .int .i64 0, .int .i64 0, .int .i64 0]) (by simp [results, Try.results54, go_sem]) rfl ?_
  exact ⟨by rw [HZ.out], HB.out⟩
 have d6 : (r != 0) = false := by simpa using h6
 have HZ := Lib.hid (hyes (by unfold GTr; dsimp only; have hp := (pairs_255 (n := n) (by omega) (by omega)).1 (by omega); omega))
 clear hno hyes
 have hmx : Try.prog.follows .mixedOrders = true := by kernel_rfl
 have hpk := pairs_le (k := k) (by omega) (by omega)
 have hkd : 0 ≤ k * (n - 1) ∧ k * (n - 1) ≤ 65025 := ⟨Int.mul_nonneg (by omega) (by omega), Int.mul_le_mul (show k ≤ 255 by omega) (show n - 1 ≤ 255 by omega) (by omega) (by omega)⟩
 have w0 : IntKind.i64.wrap (n - 1) = n - 1 := i64w (by omega) (by omega)
 have w1 : IntKind.i64.wrap (k * (n - 1)) = k * (n - 1) := i64w (by omega) (by omega)
 have w2 : IntKind.i64.wrap (k * (n - 1) - pairs k) = k * (n - 1) - pairs k := i64w (by omega) (by omega)
 have HB : Hid (Below w.drew.heap.size w (w.drew.alloc (.cells #[.int .i64 (n - 1), .int .i64 (k * (n - 1) - pairs k), .int .i64 k, .int .i64 (n - 1), .int .i64 1] 25))) := Lib.hid ((Below.refl w.heap.size w).drew.alloc (Nat.le_refl _) (.cells #[.int .i64 (n - 1), .int .i64 (k * (n - 1) - pairs k), .int .i64 k, .int .i64 (n - 1), .int .i64 1] 25))
 go_enter Try.func54, Try.ntmps54
 go_wp2_with ((go_at_call 53; refine (pairs_calls n (by omega) (by omega) _).mono ?_; rintro e w1 ⟨rfl, rfl⟩))
 obtain ⟨V, hV⟩ : ∃ V, w.alloc (.cells #[.int .i64 0, .int .i64 0, .int .i64 0, .int .i64 0, .int .i64 0] 25) = V := ⟨_, rfl⟩
 have hX1 : V.cell? ⟨b, 1, none⟩ = some (.int .i64 n) := by rw [← hV]; exact (hbl.alloc _).cell 1
 have hX2 : V.cell? ⟨b, 2, none⟩ = some (.int .i64 k) := by rw [← hV]; exact (hbl.alloc _).cell 2
 have hX3 : V.cell? ⟨b, 3, none⟩ = some (.int .i64 d) := by rw [← hV]; exact (hbl.alloc _).cell 3
 have hX5 : V.cell? ⟨b, 5, none⟩ = some (.int .i64 t) := by rw [← hV]; exact (hbl.alloc _).cell 5
 rw [hV]
 refine wp_region_still_tail 19 hmx (by kernel_rfl) ?_
 simp only [List.take_succ_cons, List.take_zero, List.drop_succ_cons, List.drop_zero]
 iterate 11 still_step
 still_call (pairs_calls k (by omega) (by omega) _)
 iterate 7 still_step
 refine wpStill_nil ?_
 clear hX1 hX2 hX3 hX4 hX5
 have hdr : ({ heap := V.heap, tape := V.tape, drawn := V.drawn + 1, os := V.os, output := V.output } : World) = w.drew.alloc (.cells #[.int .i64 0, .int .i64 0, .int .i64 0, .int .i64 0, .int .i64 0] 25) := by rw [← hV]; rfl
 rw [hdr, show w.heap.size = w.drew.heap.size from rfl]
 have HE : Hid (w.drew.heap.size = w.heap.size) := Lib.hid rfl
 clear hdr hV hbl hlt
 generalize w.drew = U at *
 go_wp2
 refine bodyPost_ret (v := .agg #[.int .i64 (n - 1), .int .i64 (k * (n - 1) - pairs k), .int .i64 k, .int .i64 (n - 1), .int .i64 1]) (by simp [results, Try.results54, go_sem]) rfl ?_
 exact ⟨by rw [HZ.out], by have h := HB.out; rw [HE.out] at h; exact h⟩
end Go.Proofs.Ytjoghbmedfmioab.Cf

namespace Go.Proofs.Ytjoghbmedfmioab.Cf
open Go.RowKit
attribute [local go_sem] Oper.semAt_some
set_option linter.unusedVariables false
set_option maxRecDepth 100000 in
set_option maxHeartbeats 3200000 in
theorem mbr_calls (c : C) (hin : In c) (hok : c.Ok) (b : Nat) (w : World) (hbl : Block w b 23 (cV c)) : Calls Try.prog 52 #[.pointer (some ⟨b, 0, none⟩)] w fun e w' => e = .returned (sV (kMbr c)) ∧ Below w.heap.size w w' := by
 obtain ⟨code, n, k, d, r, t, ww⟩ := c
 have hX1 : w.cell? ⟨b, 1, none⟩ = some (.int .i64 n) := hbl.cell 1
 have hX2 : w.cell? ⟨b, 2, none⟩ = some (.int .i64 k) := hbl.cell 2
 have hX3 : w.cell? ⟨b, 3, none⟩ = some (.int .i64 d) := hbl.cell 3
 have hX4 : w.cell? ⟨b, 4, none⟩ = some (.int .i64 r) := hbl.cell 4
 have hX5 : w.cell? ⟨b, 5, none⟩ = some (.int .i64 t) := hbl.cell 5
 unfold C.Ok at hok
 unfold In at hin
 dsimp only at hok hin
 have hlt : b < w.heap.size := hbl.lt
 have hno : ¬ GMbr ⟨code, n, k, d, r, t, ww⟩ → sV (kMbr ⟨code, n, k, d, r, t, ww⟩) = .agg #[.int .i64 0, .int .i64 0, .int .i64 0, .int .i64 0, .int .i64 0] := fun h => by unfold kMbr; rw [if_neg h]; rfl
 have hyes : GMbr ⟨code, n, k, d, r, t, ww⟩ → sV (kMbr ⟨code, n, k, d, r, t, ww⟩) = .agg #[.int .i64 d, .int .i64 (k * d - pairs k), .int .i64 k, .int .i64 (d + 2 * t), .int .i64 1] := fun h => by unfold kMbr; rw [if_pos h]; rfl
 by_cases h1 : k < 1
 ·have HZ := Lib.hid (hno fun hg => by unfold GMbr at hg; dsimp only at hg; omega)
  have d1 : decide (k < 1) = true := decide_eq_true h1
  clear hno hyes
  obtain HB := Lib.hid ((Below.refl w.heap.size w).alloc (Nat.le_refl _) (.cells #[.int .i64 0, .int .i64 0, .int .i64 0, .int .i64 0, .int .i64 0] 25))
  clear hbl
  go_enter Try.func52, Try.ntmps52
  go_wp2_with (fail)
  refine bodyPost_ret (v := .agg #[.int .i64 0, .int .i64 0, .int .i64 0, .int .i64 0, .int .i64 0]) (by simp [results, Try.results52, go_sem]) rfl ?_
  exact ⟨by rw [HZ.out], HB.out⟩
 have d1 : decide (k < 1) = false := decide_eq_false h1
 by_cases h2 : d < k
 ·have HZ := Lib.hid (hno fun hg => by unfold GMbr at hg; dsimp only at hg; omega)
  have d2 : decide (d < k) = true := decide_eq_true h2
  clear hno hyes
  obtain HB := Lib.hid ((Below.refl w.heap.size w).alloc (Nat.le_refl _) (.cells #[.int .i64 0, .int .i64 0, .int .i64 0, .int .i64 0, .int .i64 0] 25))
  clear hbl
  go_enter Try.func52, Try.ntmps52
  go_wp2_with (fail)
  refine bodyPost_ret (v := .agg #[.int .i64 0, .int .i64 0, .int .i64 0, .int .i64 0, .int .i64 0]) (by simp [results, Try.results52, go_sem]) rfl ?_
  exact ⟨by rw [HZ.out], HB.out⟩
 have d2 : decide (d < k) = false := decide_eq_false h2
 by_cases h3 : n ≤ d
 ·have HZ := Lib.hid (hno fun hg => by unfold GMbr at hg; dsimp only at hg; omega)
  have d3 : decide (n ≤ d) = true := decide_eq_true h3
  clear hno hyes
  obtain HB := Lib.hid ((Below.refl w.heap.size w).alloc (Nat.le_refl _) (.cells #[.int .i64 0, .int .i64 0, .int .i64 0, .int .i64 0, .int .i64 0] 25))
  clear hbl
  go_enter Try.func52, Try.ntmps52
  go_wp2_with (fail)
  refine bodyPost_ret (v := .agg #[.int .i64 0, .int .i64 0, .int .i64 0, .int .i64 0, .int .i64 0]) (by simp [results, Try.results52, go_sem]) rfl ?_
  exact ⟨by rw [HZ.out], HB.out⟩
 have d3 : decide (n ≤ d) = false := decide_eq_false h3
 by_cases h4 : ¬ r = 0
 ·have HZ := Lib.hid (hno fun hg => by unfold GMbr at hg; dsimp only at hg; omega)
  have d4 : (r != 0) = true := by simpa using h4
  clear hno hyes
  obtain HB := Lib.hid ((Below.refl w.heap.size w).alloc (Nat.le_refl _) (.cells #[.int .i64 0, .int .i64 0, .int .i64 0, .int .i64 0, .int .i64 0] 25))
  clear hbl
  go_enter Try.func52, Try.ntmps52
  go_wp2_with (fail)
  refine bodyPost_ret (v := .agg #[.int .i64 0, .int .i64 0, .int .i64 0, .int .i64 0, .int .i64 0]) (by simp [results, Try.results52, go_sem]) rfl ?_
  exact ⟨by rw [HZ.out], HB.out⟩
 have d4 : (r != 0) = false := by simpa using h4
 have HZ := Lib.hid (hyes (by unfold GMbr; dsimp only; omega))
 clear hno hyes
 have hmx : Try.prog.follows .mixedOrders = true := by kernel_rfl
 have hpk := pairs_le (k := k) (by omega) (by omega)
 have hkd : 0 ≤ k * d ∧ k * d ≤ 65025 := ⟨Int.mul_nonneg (by omega) (by omega), Int.mul_le_mul (show k ≤ 255 by omega) (show d ≤ 255 by omega) (by omega) (by omega)⟩
 have w1 : IntKind.i64.wrap (k * d) = k * d := i64w (by omega) (by omega)
 have w2 : IntKind.i64.wrap (k * d - pairs k) = k * d - pairs k := i64w (by omega) (by omega)
 have w3 : IntKind.i64.wrap (2 * t) = 2 * t := i64w (by omega) (by omega)
 have w4 : IntKind.i64.wrap (d + 2 * t) = d + 2 * t := i64w (by omega) (by omega)
 have HB : Hid (Below w.drew.heap.size w (w.drew.alloc (.cells #[.int .i64 d, .int .i64 (k * d - pairs k), .int .i64 k, .int .i64 (d + 2 * t), .int .i64 1] 25))) := Lib.hid ((Below.refl w.heap.size w).drew.alloc (Nat.le_refl _) (.cells #[.int .i64 d, .int .i64 (k * d - pairs k), .int .i64 k, .int .i64 (d + 2 * t), .int .i64 1] 25))
 go_enter Try.func52, Try.ntmps52
 go_wp2_with (fail)
 obtain ⟨V, hV⟩ : ∃ V, w.alloc (.cells #[.int .i64 0, .int .i64 0, .int .i64 0, .int .i64 0, .int .i64 0] 25) = V := ⟨_, rfl⟩
 have hX1 : V.cell? ⟨b, 1, none⟩ = some (.int .i64 n) := by rw [← hV]; exact (hbl.alloc _).cell 1
 have hX2 : V.cell? ⟨b, 2, none⟩ = some (.int .i64 k) := by rw [← hV]; exact (hbl.alloc _).cell 2
 have hX3 : V.cell? ⟨b, 3, none⟩ = some (.int .i64 d) := by rw [← hV]; exact (hbl.alloc _).cell 3
 have hX5 : V.cell? ⟨b, 5, none⟩ = some (.int .i64 t) := by rw [← hV]; exact (hbl.alloc _).cell 5
 rw [hV]
 refine wp_region_still_tail 20 hmx (by kernel_rfl) ?_
 simp only [List.take_succ_cons, List.take_zero, List.drop_succ_cons, List.drop_zero]
 iterate 9 still_step
 still_call (pairs_calls k (by omega) (by omega) _)
 iterate 10 still_step
 refine wpStill_nil ?_
 clear hX1 hX2 hX3 hX4 hX5
 have hdr : ({ heap := V.heap, tape := V.tape, drawn := V.drawn + 1, os := V.os, output := V.output } : World) = w.drew.alloc (.cells #[.int .i64 0, .int .i64 0, .int .i64 0, .int .i64 0, .int .i64 0] 25) := by rw [← hV]; rfl
 rw [hdr, show w.heap.size = w.drew.heap.size from rfl]
 have HE : Hid (w.drew.heap.size = w.heap.size) := Lib.hid rfl
 clear hdr hV hbl hlt
 generalize w.drew = U at *
 go_wp2
 refine bodyPost_ret (v := .agg #[.int .i64 d, .int .i64 (k * d - pairs k), .int .i64 k, .int .i64 (d + 2 * t), .int .i64 1]) (by simp [results, Try.results52, go_sem]) rfl ?_
 exact ⟨by rw [HZ.out], by have h := HB.out; rw [HE.out] at h; exact h⟩
end Go.Proofs.Ytjoghbmedfmioab.Cf
