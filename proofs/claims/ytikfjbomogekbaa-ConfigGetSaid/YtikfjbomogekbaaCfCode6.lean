/- Which codes are valid: what a kind amounts to. -/
import Derived.Test.YtikfjbomogekbaaCfCode2
namespace Go.Proofs.Ytikfjbomogekbaa.Cf
open Go.RowKit
attribute [local go_sem] Oper.semAt_some
set_option linter.unusedVariables false

theorem tmod_zero {n m : Int} : (n.tmod m = 0 ↔ n % m = 0) := by
  rw [← Int.dvd_iff_tmod_eq_zero, Int.dvd_iff_emod_eq_zero]
theorem tmod_in {n m : Int} (h1 : 1 ≤ m) (h2 : m ≤ 1000) : -1000 ≤ n.tmod m ∧ n.tmod m ≤ 1000 := by
  have : (n.tmod m).natAbs < m.natAbs := by rw [Int.natAbs_tmod]; exact Nat.mod_lt _ (by omega)
  omega
set_option maxRecDepth 100000 in
set_option maxHeartbeats 3200000 in
theorem grouped_calls (c : C) (h1 : 1 ≤ c.r) (h2 : c.r < c.n) (h3 : c.n ≤ 255) (w : World) : Calls Try.prog 77 #[.agg (cV c)] w fun e w' => e = .returned (.bool (decide (c.n % (c.r + 1) = 0 ∧ 255 % (c.r + 1) = 0))) ∧ Below w.heap.size w w' := by
  obtain ⟨code, n, k, d, r, t, ww⟩ := c
  dsimp only at h1 h2 h3 ⊢
  unfold cV
  dsimp only
  have HB := Lib.hid ((Below.refl w.heap.size w).alloc (Nat.le_refl _) (.cells #[.int .u8 (code : Nat), .int .i64 n, .int .i64 k, .int .i64 d, .int .i64 r, .int .i64 t, .int .i64 ww] 23))
  have hw : IntKind.i64.wrap (r + 1) = r + 1 := i64w (by omega) (by omega)
  have hs0 : ¬ r + 1 = 0 := by omega
  have hs1 : (r + 1 == 0) = false := by simp; omega
  obtain ⟨z5, hz5⟩ : ∃ z, (255 : Int).tmod (r + 1) = z := ⟨_, rfl⟩
  have hb5 := tmod_in (n := 255) (m := r + 1) (by omega) (by omega)
  rw [hz5] at hb5
  have hw5 : IntKind.i64.wrap z5 = z5 := i64w (by omega) (by omega)
  obtain ⟨z6, hz6⟩ : ∃ z, n.tmod (r + 1) = z := ⟨_, rfl⟩
  have hb6 := tmod_in (n := n) (m := r + 1) (by omega) (by omega)
  rw [hz6] at hb6
  have hw6 : IntKind.i64.wrap z6 = z6 := i64w (by omega) (by omega)
  have HD : Hid ((z6 = 0 ↔ n % (r + 1) = 0) ∧ (z5 = 0 ↔ 255 % (r + 1) = 0)) := Lib.hid ⟨by rw [← hz6]; exact tmod_zero, by rw [← hz5]; exact tmod_zero⟩
  clear hb5 hb6
  by_cases h6 : z6 = 0
  · have d6 : (z6 == 0) = true := by simpa using h6
    by_cases h5 : z5 = 0
    · have HR : Hid (decide (n % (r + 1) = 0 ∧ 255 % (r + 1) = 0) = true) := Lib.hid (decide_eq_true ⟨HD.out.1.1 h6, HD.out.2.1 h5⟩)
      have d5 : (z5 == 0) = true := by simpa using h5
      clear h5 h6
      go_enter Try.func77, Try.ntmps77
      go_wp2_with fail
      go_ret
      exact ⟨by rw [HR.out]; rfl, HB.out⟩
    · have HR : Hid (decide (n % (r + 1) = 0 ∧ 255 % (r + 1) = 0) = false) := Lib.hid (decide_eq_false fun h => h5 (HD.out.2.2 h.2))
      have d5 : (z5 == 0) = false := by simpa using h5
      clear h5 h6
      go_enter Try.func77, Try.ntmps77
      go_wp2_with fail
      go_ret
      exact ⟨by rw [HR.out]; rfl, HB.out⟩
  · have HR : Hid (decide (n % (r + 1) = 0 ∧ 255 % (r + 1) = 0) = false) := Lib.hid (decide_eq_false fun h => h6 (HD.out.1.2 h.1))
    have d6 : (z6 == 0) = false := by simpa using h6
    clear h6
    go_enter Try.func77, Try.ntmps77
    go_wp2_with fail
    go_ret
    exact ⟨by rw [HR.out]; rfl, HB.out⟩
end Go.Proofs.Ytikfjbomogekbaa.Cf
