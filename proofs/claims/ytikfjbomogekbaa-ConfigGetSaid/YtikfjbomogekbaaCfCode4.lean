/- Which codes are valid: what a kind amounts to. -/
import Derived.Test.YtikfjbomogekbaaCfCode2
import Derived.StillTailTactics
namespace Go.Proofs.Ytikfjbomogekbaa.Cf
open Go.RowKit
attribute [local go_sem] Oper.semAt_some
set_option linter.unusedVariables false

set_option maxRecDepth 100000 in
set_option maxHeartbeats 3200000 in
theorem tr_calls (c : C) (hin : In c) (hok : c.Ok) (b : Nat) (w : World) (hbl : Block w b 23 (cV c)) : Calls Try.prog 75 #[.pointer (some ⟨b, 0, none⟩)] w fun e w' => e = .returned (sV (kTr c)) ∧ Below w.heap.size w w' := by
  obtain ⟨code, n, k, d, r, t, ww⟩ := c
  have hX1 : w.cell? ⟨b, 1, none⟩ = some (.int .i64 n) := hbl.cell 1
  have hX2 : w.cell? ⟨b, 2, none⟩ = some (.int .i64 k) := hbl.cell 2
  have hX3 : w.cell? ⟨b, 3, none⟩ = some (.int .i64 d) := hbl.cell 3
  have hX4 : w.cell? ⟨b, 4, none⟩ = some (.int .i64 r) := hbl.cell 4
  have hX5 : w.cell? ⟨b, 5, none⟩ = some (.int .i64 t) := hbl.cell 5
  unfold C.Ok at hok
  unfold In at hin
  dsimp only at hok hin
  have hlt : b < w.heap.size := hbl.lt
  have hno : ¬ GTr ⟨code, n, k, d, r, t, ww⟩ → sV (kTr ⟨code, n, k, d, r, t, ww⟩) = .agg #[.int .i64 0, .int .i64 0, .int .i64 0, .int .i64 0, .int .i64 0] := fun h => by unfold kTr; rw [if_neg h]; rfl
  have hyes : GTr ⟨code, n, k, d, r, t, ww⟩ → sV (kTr ⟨code, n, k, d, r, t, ww⟩) = .agg #[.int .i64 (n - 1), .int .i64 (k * (n - 1) - pairs k), .int .i64 k, .int .i64 (n - 1), .int .i64 1] := fun h => by unfold kTr; rw [if_pos h]; rfl
  by_cases h1 : k < 1
  · have HZ := Lib.hid (hno fun hg => by unfold GTr at hg; dsimp only at hg; omega)
    have d1 : decide (k < 1) = true := decide_eq_true h1
    clear hno hyes
    obtain HB := Lib.hid ((Below.refl w.heap.size w).alloc (Nat.le_refl _) (.cells #[.int .i64 0, .int .i64 0, .int .i64 0, .int .i64 0, .int .i64 0] 25))
    clear hbl
    go_enter Try.func75, Try.ntmps75
    go_wp2_with ((go_at_call 74; refine (pairs_calls n (by omega) (by omega) _).mono ?_; rintro e w1 ⟨rfl, rfl⟩))
    refine bodyPost_ret (v := .agg #[.int .i64 0, .int .i64 0, .int .i64 0, .int .i64 0, .int .i64 0]) (by simp [results, Try.results75, go_sem]) rfl ?_
    exact ⟨by rw [HZ.out], HB.out⟩
  have d1 : decide (k < 1) = false := decide_eq_false h1
  by_cases h2 : n ≤ k
  · have HZ := Lib.hid (hno fun hg => by unfold GTr at hg; dsimp only at hg; omega)
    have d2 : decide (n ≤ k) = true := decide_eq_true h2
    clear hno hyes
    obtain HB := Lib.hid ((Below.refl w.heap.size w).alloc (Nat.le_refl _) (.cells #[.int .i64 0, .int .i64 0, .int .i64 0, .int .i64 0, .int .i64 0] 25))
    clear hbl
    go_enter Try.func75, Try.ntmps75
    go_wp2_with ((go_at_call 74; refine (pairs_calls n (by omega) (by omega) _).mono ?_; rintro e w1 ⟨rfl, rfl⟩))
    refine bodyPost_ret (v := .agg #[.int .i64 0, .int .i64 0, .int .i64 0, .int .i64 0, .int .i64 0]) (by simp [results, Try.results75, go_sem]) rfl ?_
    exact ⟨by rw [HZ.out], HB.out⟩
  have d2 : decide (n ≤ k) = false := decide_eq_false h2
  by_cases h3 : 255 < pairs n
  · have HZ := Lib.hid (hno fun hg => by unfold GTr at hg; dsimp only at hg; have hp := (pairs_255 (n := n) (by omega) (by omega)).2 (by omega); omega)
    have d3 : decide (255 < pairs n) = true := decide_eq_true h3
    clear hno hyes
    obtain HB := Lib.hid ((Below.refl w.heap.size w).alloc (Nat.le_refl _) (.cells #[.int .i64 0, .int .i64 0, .int .i64 0, .int .i64 0, .int .i64 0] 25))
    clear hbl
    go_enter Try.func75, Try.ntmps75
    go_wp2_with ((go_at_call 74; refine (pairs_calls n (by omega) (by omega) _).mono ?_; rintro e w1 ⟨rfl, rfl⟩))
    refine bodyPost_ret (v := .agg #[.int .i64 0, .int .i64 0, .int .i64 0, .int .i64 0, .int .i64 0]) (by simp [results, Try.results75, go_sem]) rfl ?_
    exact ⟨by rw [HZ.out], HB.out⟩
  have d3 : decide (255 < pairs n) = false := decide_eq_false h3
  by_cases h4 : ¬ t = 0
  · have HZ := Lib.hid (hno fun hg => by unfold GTr at hg; dsimp only at hg; omega)
    have d4 : (t != 0) = true := by simpa using h4
    clear hno hyes
    obtain HB := Lib.hid ((Below.refl w.heap.size w).alloc (Nat.le_refl _) (.cells #[.int .i64 0, .int .i64 0, .int .i64 0, .int .i64 0, .int .i64 0] 25))
    clear hbl
    go_enter Try.func75, Try.ntmps75
    go_wp2_with ((go_at_call 74; refine (pairs_calls n (by omega) (by omega) _).mono ?_; rintro e w1 ⟨rfl, rfl⟩))
    refine bodyPost_ret (v := .agg #[.int .i64 0, .int .i64 0, .int .i64 0, .int .i64 0, .int .i64 0]) (by simp [results, Try.results75, go_sem]) rfl ?_
    exact ⟨by rw [HZ.out], HB.out⟩
  have d4 : (t != 0) = false := by simpa using h4
  by_cases h5 : ¬ d = 0
  · have HZ := Lib.hid (hno fun hg => by unfold GTr at hg; dsimp only at hg; omega)
    have d5 : (d != 0) = true := by simpa using h5
    clear hno hyes
    obtain HB := Lib.hid ((Below.refl w.heap.size w).alloc (Nat.le_refl _) (.cells #[.int .i64 0, .int .i64 0, .int .i64 0, .int .i64 0, .int .i64 0] 25))
    clear hbl
    go_enter Try.func75, Try.ntmps75
    go_wp2_with ((go_at_call 74; refine (pairs_calls n (by omega) (by omega) _).mono ?_; rintro e w1 ⟨rfl, rfl⟩))
    refine bodyPost_ret (v := .agg #[.int .i64 0, .int .i64 0, .int .i64 0, .int .i64 0, .int .i64 0]) (by simp [results, Try.results75, go_sem]) rfl ?_
    exact ⟨by rw [HZ.out], HB.out⟩
  have d5 : (d != 0) = false := by simpa using h5
  by_cases h6 : ¬ r = 0
  · have HZ := Lib.hid (hno fun hg => by unfold GTr at hg; dsimp only at hg; omega)
    have d6 : (r != 0) = true := by simpa using h6
    clear hno hyes
    obtain HB := Lib.hid ((Below.refl w.heap.size w).alloc (Nat.le_refl _) (.cells #[.int .i64 0, .int .i64 0, .int .i64 0, .int .i64 0, .int .i64 0] 25))
    clear hbl
    go_enter Try.func75, Try.ntmps75
    go_wp2_with ((go_at_call 74; refine (pairs_calls n (by omega) (by omega) _).mono ?_; rintro e w1 ⟨rfl, rfl⟩))
    refine bodyPost_ret (v := .agg #[.int .i64 0, .int .i64 0, .int .i64 0, .int .i64 0, .int .i64 0]) (by simp [results, Try.results75, go_sem]) rfl ?_
    exact ⟨by rw [HZ.out], HB.out⟩
  have d6 : (r != 0) = false := by simpa using h6
  have HZ := Lib.hid (hyes (by unfold GTr; dsimp only; have hp := (pairs_255 (n := n) (by omega) (by omega)).1 (by omega); omega))
  clear hno hyes
  have hmx : Try.prog.follows .mixedOrders = true := by kernel_rfl
  have hpk := pairs_le (k := k) (by omega) (by omega)
  have hkd : 0 ≤ k * (n - 1) ∧ k * (n - 1) ≤ 65025 := ⟨Int.mul_nonneg (by omega) (by omega), Int.mul_le_mul (show k ≤ 255 by omega) (show n - 1 ≤ 255 by omega) (by omega) (by omega)⟩
  have w0 : IntKind.i64.wrap (n - 1) = n - 1 := i64w (by omega) (by omega)
  have w1 : IntKind.i64.wrap (k * (n - 1)) = k * (n - 1) := i64w (by omega) (by omega)
  have w2 : IntKind.i64.wrap (k * (n - 1) - pairs k) = k * (n - 1) - pairs k := i64w (by omega) (by omega)
  have HB : Hid (Below w.drew.heap.size w (w.drew.alloc (.cells #[.int .i64 (n - 1), .int .i64 (k * (n - 1) - pairs k), .int .i64 k, .int .i64 (n - 1), .int .i64 1] 25))) := Lib.hid ((Below.refl w.heap.size w).drew.alloc (Nat.le_refl _) (.cells #[.int .i64 (n - 1), .int .i64 (k * (n - 1) - pairs k), .int .i64 k, .int .i64 (n - 1), .int .i64 1] 25))
  go_enter Try.func75, Try.ntmps75
  go_wp2_with ((go_at_call 74; refine (pairs_calls n (by omega) (by omega) _).mono ?_; rintro e w1 ⟨rfl, rfl⟩))
  obtain ⟨V, hV⟩ : ∃ V, w.alloc (.cells #[.int .i64 0, .int .i64 0, .int .i64 0, .int .i64 0, .int .i64 0] 25) = V := ⟨_, rfl⟩
  have hX1 : V.cell? ⟨b, 1, none⟩ = some (.int .i64 n) := by rw [← hV]; exact (hbl.alloc _).cell 1
  have hX2 : V.cell? ⟨b, 2, none⟩ = some (.int .i64 k) := by rw [← hV]; exact (hbl.alloc _).cell 2
  have hX3 : V.cell? ⟨b, 3, none⟩ = some (.int .i64 d) := by rw [← hV]; exact (hbl.alloc _).cell 3
  have hX5 : V.cell? ⟨b, 5, none⟩ = some (.int .i64 t) := by rw [← hV]; exact (hbl.alloc _).cell 5
  rw [hV]
  refine wp_region_still_tail 19 hmx (by kernel_rfl) ?_
  simp only [List.take_succ_cons, List.take_zero, List.drop_succ_cons, List.drop_zero]
  iterate 11 still_step
  still_call (pairs_calls k (by omega) (by omega) _)
  iterate 7 still_step
  refine wpStill_nil ?_
  clear hX1 hX2 hX3 hX4 hX5
  have hdr : ({ heap := V.heap, tape := V.tape, drawn := V.drawn + 1, os := V.os, output := V.output } : World) = w.drew.alloc (.cells #[.int .i64 0, .int .i64 0, .int .i64 0, .int .i64 0, .int .i64 0] 25) := by rw [← hV]; rfl
  rw [hdr, show w.heap.size = w.drew.heap.size from rfl]
  have HE : Hid (w.drew.heap.size = w.heap.size) := Lib.hid rfl
  clear hdr hV hbl hlt
  generalize w.drew = U at *
  go_wp2
  refine bodyPost_ret (v := .agg #[.int .i64 (n - 1), .int .i64 (k * (n - 1) - pairs k), .int .i64 k, .int .i64 (n - 1), .int .i64 1]) (by simp [results, Try.results75, go_sem]) rfl ?_
  exact ⟨by rw [HZ.out], by have h := HB.out; rw [HE.out] at h; exact h⟩
end Go.Proofs.Ytikfjbomogekbaa.Cf
