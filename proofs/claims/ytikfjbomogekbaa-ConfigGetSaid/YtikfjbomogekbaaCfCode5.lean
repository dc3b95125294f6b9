/- Which codes are valid: what a kind amounts to. -/
import Derived.Test.YtikfjbomogekbaaCfCode2
namespace Go.Proofs.Ytikfjbomogekbaa.Cf
open Go.RowKit
attribute [local go_sem] Oper.semAt_some
set_option linter.unusedVariables false

/-- A block of five cells, written anew. -/
theorem put5 {B : Nat} {w w1 : World} {t : TypeId} {a0 a1 a2 a3 a4 : Value} (hb : Below B w w1) (hR : Block w1 B t #[a0, a1, a2, a3, a4]) (v0 v1 v2 v3 v4 : Value) :
    ∃ W, ((((w1.setCell ⟨B, 0, none⟩ v0).setCell ⟨B, 1, none⟩ v1).setCell ⟨B, 2, none⟩ v2).setCell ⟨B, 3, none⟩ v3).setCell ⟨B, 4, none⟩ v4 = W ∧ Block W B t #[v0, v1, v2, v3, v4] ∧ Below B w W :=
  ⟨_, rfl, ((((hR.set_ 0 v0).set_ 1 v1).set_ 2 v2).set_ 3 v3).set_ 4 v4, ((((hb.setCell (Nat.le_refl _) v0).setCell (Nat.le_refl _) v1).setCell (Nat.le_refl _) v2).setCell (Nat.le_refl _) v3).setCell (Nat.le_refl _) v4⟩
theorem tdiv_two {d : Int} : ∃ q, d.tdiv 2 = q ∧ (0 ≤ d → q = d / 2) ∧ (d < 0 → q ≤ 0) ∧ (-9223372036854775808 ≤ d → d ≤ 9223372036854775807 → -9223372036854775808 ≤ q ∧ q ≤ 4611686018427387904) := by
  refine ⟨_, rfl, ?_⟩
  rcases Int.lt_or_le d 0 with h | h
  · obtain ⟨m, rfl⟩ : ∃ m, d = -m := ⟨-d, by omega⟩
    rw [Int.neg_tdiv, Int.tdiv_eq_ediv_of_nonneg (by omega)]
    omega
  · rw [Int.tdiv_eq_ediv_of_nonneg h]
    omega
set_option maxRecDepth 100000 in
set_option maxHeartbeats 3200000 in
theorem msr_calls (c : C) (hin : In c) (hok : c.Ok) (b : Nat) (w : World) (hbl : Block w b 23 (cV c)) : Calls Try.prog 71 #[.pointer (some ⟨b, 0, none⟩)] w fun e w' => e = .returned (sV (kMsr c)) ∧ Below w.heap.size w w' := by
  obtain ⟨code, n, k, d, r, t, ww⟩ := c
  have hX1 : w.cell? ⟨b, 1, none⟩ = some (.int .i64 n) := hbl.cell 1
  have hX2 : w.cell? ⟨b, 2, none⟩ = some (.int .i64 k) := hbl.cell 2
  have hX3 : w.cell? ⟨b, 3, none⟩ = some (.int .i64 d) := hbl.cell 3
  have hX4 : w.cell? ⟨b, 4, none⟩ = some (.int .i64 r) := hbl.cell 4
  have hX5 : w.cell? ⟨b, 5, none⟩ = some (.int .i64 t) := hbl.cell 5
  unfold C.Ok at hok
  unfold In at hin
  dsimp only at hok hin
  have hlt : b < w.heap.size := hbl.lt
  have hno : ¬ GMsr ⟨code, n, k, d, r, t, ww⟩ → sV (kMsr ⟨code, n, k, d, r, t, ww⟩) = .agg #[.int .i64 0, .int .i64 0, .int .i64 0, .int .i64 0, .int .i64 0] := fun h => by unfold kMsr; rw [if_neg h]; rfl
  have hyes : GMsr ⟨code, n, k, d, r, t, ww⟩ → sV (kMsr ⟨code, n, k, d, r, t, ww⟩) = .agg #[.int .i64 (d - k + 1), .int .i64 (k * (d - k + 1)), .int .i64 k, .int .i64 (d + 2 * t), .int .i64 1] := fun h => by unfold kMsr; rw [if_pos h]; rfl
  obtain ⟨q, hq, hq0, hqn, hqb⟩ := @tdiv_two d
  have hqb := hqb (by omega) (by omega)
  have w1 : IntKind.i64.wrap (d.tdiv 2) = q := by rw [hq]; exact i64w (by omega) (by omega)
  have w2 : IntKind.i64.wrap (q + 1) = q + 1 := i64w (by omega) (by omega)
  have hq1 : Hid (2 ≤ k → (2 * k ≤ d + 2 ↔ ¬ q + 1 < k)) := Lib.hid fun h2 => by
    rcases Int.lt_or_le d 0 with h | h
    · have := hqn h; omega
    · have := hq0 h; omega
  by_cases h1 : k < 2
  · have HZ := Lib.hid (hno fun hg => by unfold GMsr at hg; dsimp only at hg; omega)
    have d1 : decide (k < 2) = true := decide_eq_true h1
    clear hno hyes
    obtain HB := Lib.hid ((Below.refl w.heap.size w).alloc (Nat.le_refl _) (.cells #[.int .i64 0, .int .i64 0, .int .i64 0, .int .i64 0, .int .i64 0] 25))
    clear hbl
    go_enter Try.func71, Try.ntmps71
    go_wp2_with (fail)
    refine bodyPost_ret (v := .agg #[.int .i64 0, .int .i64 0, .int .i64 0, .int .i64 0, .int .i64 0]) (by simp [results, Try.results71, go_sem]) rfl ?_
    exact ⟨by rw [HZ.out], HB.out⟩
  have d1 : decide (k < 2) = false := decide_eq_false h1
  by_cases h2 : q + 1 < k
  · have HZ := Lib.hid (hno fun hg => by unfold GMsr at hg; dsimp only at hg; have := (hq1.out (by omega)).1 (by omega); omega)
    have d2 : decide (q + 1 < k) = true := decide_eq_true h2
    clear hno hyes
    obtain HB := Lib.hid ((Below.refl w.heap.size w).alloc (Nat.le_refl _) (.cells #[.int .i64 0, .int .i64 0, .int .i64 0, .int .i64 0, .int .i64 0] 25))
    clear hbl
    go_enter Try.func71, Try.ntmps71
    go_wp2_with (fail)
    refine bodyPost_ret (v := .agg #[.int .i64 0, .int .i64 0, .int .i64 0, .int .i64 0, .int .i64 0]) (by simp [results, Try.results71, go_sem]) rfl ?_
    exact ⟨by rw [HZ.out], HB.out⟩
  have d2 : decide (q + 1 < k) = false := decide_eq_false h2
  by_cases h3 : n ≤ d
  · have HZ := Lib.hid (hno fun hg => by unfold GMsr at hg; dsimp only at hg; omega)
    have d3 : decide (n ≤ d) = true := decide_eq_true h3
    clear hno hyes
    obtain HB := Lib.hid ((Below.refl w.heap.size w).alloc (Nat.le_refl _) (.cells #[.int .i64 0, .int .i64 0, .int .i64 0, .int .i64 0, .int .i64 0] 25))
    clear hbl
    go_enter Try.func71, Try.ntmps71
    go_wp2_with (fail)
    refine bodyPost_ret (v := .agg #[.int .i64 0, .int .i64 0, .int .i64 0, .int .i64 0, .int .i64 0]) (by simp [results, Try.results71, go_sem]) rfl ?_
    exact ⟨by rw [HZ.out], HB.out⟩
  have d3 : decide (n ≤ d) = false := decide_eq_false h3
  by_cases h4 : ¬ r = 0
  · have HZ := Lib.hid (hno fun hg => by unfold GMsr at hg; dsimp only at hg; omega)
    have d4 : (r != 0) = true := by simpa using h4
    clear hno hyes
    obtain HB := Lib.hid ((Below.refl w.heap.size w).alloc (Nat.le_refl _) (.cells #[.int .i64 0, .int .i64 0, .int .i64 0, .int .i64 0, .int .i64 0] 25))
    clear hbl
    go_enter Try.func71, Try.ntmps71
    go_wp2_with (fail)
    refine bodyPost_ret (v := .agg #[.int .i64 0, .int .i64 0, .int .i64 0, .int .i64 0, .int .i64 0]) (by simp [results, Try.results71, go_sem]) rfl ?_
    exact ⟨by rw [HZ.out], HB.out⟩
  have d4 : (r != 0) = false := by simpa using h4
  have hq2 := (hq1.out (by omega)).2 h2
  have h1p : 2 ≤ k := by omega
  have h3p : d < n := by omega
  obtain rfl : r = 0 := by omega
  clear h4 hq hq0 hqn
  have hR0 := Lib.hid (Block.new w 25 #[.int .i64 0, .int .i64 0, .int .i64 0, .int .i64 0, .int .i64 0])
  have hC0 := Lib.hid (hbl.alloc (.cells #[.int .i64 0, .int .i64 0, .int .i64 0, .int .i64 0, .int .i64 0] 25))
  have hA := Lib.hid ((Below.refl w.heap.size w).alloc (Nat.le_refl _) (.cells #[.int .i64 0, .int .i64 0, .int .i64 0, .int .i64 0, .int .i64 0] 25))
  have HSp := Lib.hid (spreads_calls ⟨code, n, k, d, 0, t, ww⟩ (by dsimp only; omega) (by dsimp only; omega) (by dsimp only; omega) (by dsimp only; omega))
  unfold cV at HSp
  dsimp only at HSp
  have hX0 : w.cell? ⟨b, 0, none⟩ = some (.int .u8 (code : Nat)) := hbl.cell 0
  have hX6 : w.cell? ⟨b, 6, none⟩ = some (.int .i64 ww) := hbl.cell 6
  clear hbl
  by_cases h5 : Spr ⟨code, n, k, d, 0, t, ww⟩
  · have HZ := Lib.hid (hyes ⟨⟨h1p, hq2, h3p, h5.1⟩, h5.2, rfl⟩)
    have HSq : Hid (∀ X : World, Calls Try.prog 72 #[.agg #[.int .u8 (code : Nat), .int .i64 n, .int .i64 k, .int .i64 d, .int .i64 0, .int .i64 t, .int .i64 ww]] X fun e w' => e = .returned (.bool true) ∧ Below X.heap.size X w') := by rw [decide_eq_true h5] at HSp; exact HSp
    have ha16 : d - k + 1 ≤ 16 := h5.1
    have w3 : IntKind.i64.wrap (d - k) = d - k := i64w (by omega) (by omega)
    have w4 : IntKind.i64.wrap (d - k + 1) = d - k + 1 := i64w (by omega) (by omega)
    have hka : 0 ≤ k * (d - k + 1) ∧ k * (d - k + 1) ≤ 255 * 16 := ⟨Int.mul_nonneg (by omega) (by omega), Int.mul_le_mul (by omega) (by omega) (by omega) (by omega)⟩
    have w5 : IntKind.i64.wrap (k * (d - k + 1)) = k * (d - k + 1) := i64w (by omega) (by omega)
    have w6 : IntKind.i64.wrap (2 * t) = 2 * t := i64w (by omega) (by omega)
    have w7 : IntKind.i64.wrap (d + 2 * t) = d + 2 * t := i64w (by omega) (by omega)
    clear hno hyes HSp h5
    go_enter Try.func71, Try.ntmps71
    go_wp2_with (go_at_call 72; (with_reducible refine (HSq.out _).mono ?_); rintro e w1 ⟨rfl, hb1⟩; have hR1 := hR0.out.below hb1 (by rw [World.size_alloc]; omega); have hC1 := hC0.out.below hb1 (by rw [World.size_alloc]; omega); have y0 := hR1.cell 0; have y1 := hR1.cell 1; have y2 := hR1.cell 2; have y3 := hR1.cell 3; have y4 := hR1.cell 4; have f0 := hR1.frozen 0; have f1 := hR1.frozen 1; have f2 := hR1.frozen 2; have f3 := hR1.frozen 3; have f4 := hR1.frozen 4; have x0 : w1.cell? ⟨b, 0, none⟩ = some (.int .u8 (code : Nat)) := hC1.cell 0; have x1 : w1.cell? ⟨b, 1, none⟩ = some (.int .i64 n) := hC1.cell 1; have x2 : w1.cell? ⟨b, 2, none⟩ = some (.int .i64 k) := hC1.cell 2; have x3 : w1.cell? ⟨b, 3, none⟩ = some (.int .i64 d) := hC1.cell 3; have x4 : w1.cell? ⟨b, 4, none⟩ = some (.int .i64 0) := hC1.cell 4; have x5 : w1.cell? ⟨b, 5, none⟩ = some (.int .i64 t) := hC1.cell 5; have x6 : w1.cell? ⟨b, 6, none⟩ = some (.int .i64 ww) := hC1.cell 6; have HR1 := Lib.hid hR1; have HB1 := Lib.hid (hA.out.trans (hb1.mono (by rw [World.size_alloc]; omega))); clear hR1 hC1 hb1)
    obtain ⟨W, hW, hP, hBW⟩ := put5 HB1.out HR1.out (.int .i64 (d - k + 1)) (.int .i64 (k * (d - k + 1))) (.int .i64 k) (.int .i64 (d + 2 * t)) (.int .i64 1)
    rw [hW]
    have p0 := hP.cell 0
    have p1 := hP.cell 1
    have p2 := hP.cell 2
    have p3 := hP.cell 3
    have p4 := hP.cell 4
    refine bodyPost_ret (v := .agg #[.int .i64 (d - k + 1), .int .i64 (k * (d - k + 1)), .int .i64 k, .int .i64 (d + 2 * t), .int .i64 1]) (by simp [results, Try.results71, go_sem, p0, p1, p2, p3, p4]) rfl ?_
    exact ⟨by rw [HZ.out], hBW⟩
  · have HZ := Lib.hid (hno fun hg => h5 ⟨hg.1.2.2.2, hg.2.1⟩)
    have HSq : Hid (∀ X : World, Calls Try.prog 72 #[.agg #[.int .u8 (code : Nat), .int .i64 n, .int .i64 k, .int .i64 d, .int .i64 0, .int .i64 t, .int .i64 ww]] X fun e w' => e = .returned (.bool false) ∧ Below X.heap.size X w') := by rw [decide_eq_false h5] at HSp; exact HSp
    clear hno hyes HSp h5
    go_enter Try.func71, Try.ntmps71
    go_wp2_with (go_at_call 72; (with_reducible refine (HSq.out _).mono ?_); rintro e w1 ⟨rfl, hb1⟩; have hR1 := hR0.out.below hb1 (by rw [World.size_alloc]; omega); have hC1 := hC0.out.below hb1 (by rw [World.size_alloc]; omega); have y0 := hR1.cell 0; have y1 := hR1.cell 1; have y2 := hR1.cell 2; have y3 := hR1.cell 3; have y4 := hR1.cell 4; have f0 := hR1.frozen 0; have f1 := hR1.frozen 1; have f2 := hR1.frozen 2; have f3 := hR1.frozen 3; have f4 := hR1.frozen 4; have x0 : w1.cell? ⟨b, 0, none⟩ = some (.int .u8 (code : Nat)) := hC1.cell 0; have x1 : w1.cell? ⟨b, 1, none⟩ = some (.int .i64 n) := hC1.cell 1; have x2 : w1.cell? ⟨b, 2, none⟩ = some (.int .i64 k) := hC1.cell 2; have x3 : w1.cell? ⟨b, 3, none⟩ = some (.int .i64 d) := hC1.cell 3; have x4 : w1.cell? ⟨b, 4, none⟩ = some (.int .i64 0) := hC1.cell 4; have x5 : w1.cell? ⟨b, 5, none⟩ = some (.int .i64 t) := hC1.cell 5; have x6 : w1.cell? ⟨b, 6, none⟩ = some (.int .i64 ww) := hC1.cell 6; have HR1 := Lib.hid hR1; have HB1 := Lib.hid (hA.out.trans (hb1.mono (by rw [World.size_alloc]; omega))); clear hR1 hC1 hb1)
    obtain ⟨W, hW, hP, hBW⟩ := put5 HB1.out HR1.out (.int .i64 0) (.int .i64 0) (.int .i64 0) (.int .i64 0) (.int .i64 0)
    rw [hW]
    have p0 := hP.cell 0
    have p1 := hP.cell 1
    have p2 := hP.cell 2
    have p3 := hP.cell 3
    have p4 := hP.cell 4
    refine bodyPost_ret (v := .agg #[.int .i64 0, .int .i64 0, .int .i64 0, .int .i64 0, .int .i64 0]) (by simp [results, Try.results71, go_sem, p0, p1, p2, p3, p4]) rfl ?_
    exact ⟨by rw [HZ.out], hBW⟩
end Go.Proofs.Ytikfjbomogekbaa.Cf
