/- Which codes are valid: what each kind amounts to. -/
import Derived.Test.YtikfjbomogekbaaCfCode1
namespace Go.Proofs.Ytikfjbomogekbaa.Cf
open Go.RowKit
attribute [local go_sem] Oper.semAt_some
set_option linter.unusedVariables false

theorem i64w {x : Int} (h1 : -9223372036854775808 ≤ x) (h2 : x ≤ 9223372036854775807) : IntKind.i64.wrap x = x := IntWalk.i64_in _ ⟨h1, h2⟩
theorem pairs_le {k : Int} (h0 : 0 ≤ k) (h1 : k ≤ 255) : 0 ≤ pairs k ∧ pairs k ≤ 65025 := by
  have h2 := pairs_two k
  have h3 := pairs_nonneg k
  have h4 : k * (k - 1) ≤ 255 * 255 := by
    rcases Int.lt_or_le 0 k with h | h
    · exact Int.mul_le_mul h1 (by omega) (by omega) (by omega)
    · have : k = 0 := by omega
      subst this; decide
  omega
/-- A Transfer code has 22 nodes and one at most. -/
theorem pairs_255 {n : Int} (h0 : 1 ≤ n) (h1 : n ≤ 255) : pairs n ≤ 255 ↔ n ≤ 23 := by
  have h2 := pairs_two n
  constructor
  · intro h
    rcases Int.lt_or_le n 24 with h3 | h3
    · omega
    · have : 24 * 23 ≤ n * (n - 1) := Int.mul_le_mul h3 (by omega) (by decide) (by omega)
      omega
  · intro h
    have : n * (n - 1) ≤ 23 * 22 := Int.mul_le_mul h (by omega) (by omega) (by decide)
    omega
set_option maxRecDepth 100000 in
set_option maxHeartbeats 3200000 in
theorem reed_calls (c : C) (hin : In c) (hok : c.Ok) (b : Nat) (w : World) (hbl : Block w b 23 (cV c)) : Calls Try.prog 70 #[.pointer (some ⟨b, 0, none⟩)] w fun e w' => e = .returned (sV (kReed c)) ∧ Below w.heap.size w w' := by
  obtain ⟨code, n, k, d, r, t, ww⟩ := c
  have hX1 : w.cell? ⟨b, 1, none⟩ = some (.int .i64 n) := hbl.cell 1
  have hX2 : w.cell? ⟨b, 2, none⟩ = some (.int .i64 k) := hbl.cell 2
  have hX3 : w.cell? ⟨b, 3, none⟩ = some (.int .i64 d) := hbl.cell 3
  have hX4 : w.cell? ⟨b, 4, none⟩ = some (.int .i64 r) := hbl.cell 4
  have hX5 : w.cell? ⟨b, 5, none⟩ = some (.int .i64 t) := hbl.cell 5
  unfold C.Ok at hok
  unfold In at hin
  dsimp only at hok hin
  have hlt : b < w.heap.size := hbl.lt
  have hno : ¬ GReed ⟨code, n, k, d, r, t, ww⟩ → sV (kReed ⟨code, n, k, d, r, t, ww⟩) = .agg #[.int .i64 0, .int .i64 0, .int .i64 0, .int .i64 0, .int .i64 0] := fun h => by unfold kReed; rw [if_neg h]; rfl
  have hyes : GReed ⟨code, n, k, d, r, t, ww⟩ → sV (kReed ⟨code, n, k, d, r, t, ww⟩) = .agg #[.int .i64 1, .int .i64 k, .int .i64 k, .int .i64 (k + 2 * t), .int .i64 1] := fun h => by unfold kReed; rw [if_pos h]; rfl
  by_cases h1 : k < 1
  · have HZ := Lib.hid (hno fun hg => by unfold GReed at hg; dsimp only at hg; omega)
    have d1 : decide (k < 1) = true := decide_eq_true h1
    clear hno hyes
    obtain HB := Lib.hid ((Below.refl w.heap.size w).alloc (Nat.le_refl _) (.cells #[.int .i64 0, .int .i64 0, .int .i64 0, .int .i64 0, .int .i64 0] 25))
    clear hbl
    go_enter Try.func70, Try.ntmps70
    go_wp2_with (fail)
    refine bodyPost_ret (v := .agg #[.int .i64 0, .int .i64 0, .int .i64 0, .int .i64 0, .int .i64 0]) (by simp [results, Try.results70, go_sem]) rfl ?_
    exact ⟨by rw [HZ.out], HB.out⟩
  have d1 : decide (k < 1) = false := decide_eq_false h1
  by_cases h2 : n < k
  · have HZ := Lib.hid (hno fun hg => by unfold GReed at hg; dsimp only at hg; omega)
    have d2 : decide (n < k) = true := decide_eq_true h2
    clear hno hyes
    obtain HB := Lib.hid ((Below.refl w.heap.size w).alloc (Nat.le_refl _) (.cells #[.int .i64 0, .int .i64 0, .int .i64 0, .int .i64 0, .int .i64 0] 25))
    clear hbl
    go_enter Try.func70, Try.ntmps70
    go_wp2_with (fail)
    refine bodyPost_ret (v := .agg #[.int .i64 0, .int .i64 0, .int .i64 0, .int .i64 0, .int .i64 0]) (by simp [results, Try.results70, go_sem]) rfl ?_
    exact ⟨by rw [HZ.out], HB.out⟩
  have d2 : decide (n < k) = false := decide_eq_false h2
  by_cases h3 : ¬ d = 0
  · have HZ := Lib.hid (hno fun hg => by unfold GReed at hg; dsimp only at hg; omega)
    have d3 : (d != 0) = true := by simpa using h3
    clear hno hyes
    obtain HB := Lib.hid ((Below.refl w.heap.size w).alloc (Nat.le_refl _) (.cells #[.int .i64 0, .int .i64 0, .int .i64 0, .int .i64 0, .int .i64 0] 25))
    clear hbl
    go_enter Try.func70, Try.ntmps70
    go_wp2_with (fail)
    refine bodyPost_ret (v := .agg #[.int .i64 0, .int .i64 0, .int .i64 0, .int .i64 0, .int .i64 0]) (by simp [results, Try.results70, go_sem]) rfl ?_
    exact ⟨by rw [HZ.out], HB.out⟩
  have d3 : (d != 0) = false := by simpa using h3
  by_cases h4 : ¬ r = 0
  · have HZ := Lib.hid (hno fun hg => by unfold GReed at hg; dsimp only at hg; omega)
    have d4 : (r != 0) = true := by simpa using h4
    clear hno hyes
    obtain HB := Lib.hid ((Below.refl w.heap.size w).alloc (Nat.le_refl _) (.cells #[.int .i64 0, .int .i64 0, .int .i64 0, .int .i64 0, .int .i64 0] 25))
    clear hbl
    go_enter Try.func70, Try.ntmps70
    go_wp2_with (fail)
    refine bodyPost_ret (v := .agg #[.int .i64 0, .int .i64 0, .int .i64 0, .int .i64 0, .int .i64 0]) (by simp [results, Try.results70, go_sem]) rfl ?_
    exact ⟨by rw [HZ.out], HB.out⟩
  have d4 : (r != 0) = false := by simpa using h4
  have HZ := Lib.hid (hyes (by unfold GReed; dsimp only; omega))
  clear hno hyes hbl
  have w1 : IntKind.i64.wrap (2 * t) = 2 * t := i64w (by omega) (by omega)
  have w2 : IntKind.i64.wrap (k + 2 * t) = k + 2 * t := i64w (by omega) (by omega)
  have HB := Lib.hid ((Below.refl w.heap.size w).alloc (Nat.le_refl _) (.cells #[.int .i64 1, .int .i64 k, .int .i64 k, .int .i64 (k + 2 * t), .int .i64 1] 25))
  go_enter Try.func70, Try.ntmps70
  go_wp2_with (fail)
  refine bodyPost_ret (v := .agg #[.int .i64 1, .int .i64 k, .int .i64 k, .int .i64 (k + 2 * t), .int .i64 1]) (by simp [results, Try.results70, go_sem]) rfl ?_
  exact ⟨by rw [HZ.out], HB.out⟩
end Go.Proofs.Ytikfjbomogekbaa.Cf
