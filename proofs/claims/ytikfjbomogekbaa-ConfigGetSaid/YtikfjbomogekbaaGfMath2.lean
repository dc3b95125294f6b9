/- Powers of sums, and of powers. -/
import Derived.Test.YtikfjbomogekbaaGfMath
namespace Go.Proofs.Ytikfjbomogekbaa.GF

theorem gl_two : gl 2 = 1 := rfl
theorem gpow_two (n : Int) : gpow 2 n = ge n := by
  rw [gpow_of (by decide), gl_two]; congr 1; omega
theorem gpow_add {a : Nat} (a0 : a ≠ 0) (m n : Int) : gpow a (m + n) = gm (gpow a m) (gpow a n) := by
  rw [gpow_of a0, gpow_of a0, gpow_of a0, Int.mul_add, ge_add]
theorem gpow_255 {a : Nat} (a0 : a ≠ 0) : gpow a 255 = 1 := by
  rw [gpow_of a0]; unfold ge
  rw [show ((gl a : Int) * 255 % 255).toNat = 0 by omega]; rfl
theorem ge_eq_one {x : Int} (h : ge x = 1) : x % 255 = 0 := by
  unfold ge at h
  have := gp_inj (m := (x % 255).toNat) (n := 0) (by omega) (by decide) h
  omega
theorem ge_of_zero {x : Int} (h : x % 255 = 0) : ge x = 1 := by unfold ge; rw [h]; rfl
theorem gpow_ord {a : Nat} (ha : a < 256) (a0 : a ≠ 0) : gpow a (gord a) = 1 := by
  obtain ⟨h0, h1, _, h2, _⟩ := ord_spec ha a0
  obtain ⟨i, hi, rfl⟩ := pow_of ha a0
  rw [rpow_gp] at h2
  rw [gpow_of a0, gl_gp' i hi, ← Int.natCast_mul, ge_nat]; exact h2
theorem gpow_pow_ord {a : Nat} (ha : a < 256) (a0 : a ≠ 0) (m : Int) : gpow (gpow a m) (gord a) = 1 := by
  have h := gpow_ord ha a0
  rw [gpow_of a0] at h
  have h1 := ge_eq_one h
  have hc : gpow a m ≠ 0 := by rw [gpow_of a0]; exact ge_ne _
  rw [gpow_of hc, gpow_of a0]
  unfold ge
  rw [gl_gp]
  refine ge_of_zero ?_
  have e : ((((gl a : Int) * m % 255).toNat % 255 : Nat) : Int) = (gl a : Int) * m % 255 := by omega
  rw [e, Int.mul_emod, Int.emod_emod, ← Int.mul_emod, show (gl a : Int) * m * (gord a : Int) = (gl a : Int) * (gord a : Int) * m by rw [Int.mul_assoc, Int.mul_comm m, ← Int.mul_assoc], Int.mul_emod, h1]
  simp
theorem ge_log {a : Nat} (ha : a < 256) (a0 : a ≠ 0) : ge (gl a : Int) = a := by rw [ge_nat, gp_gl ha a0]
theorem gl_gm {a b : Nat} (ha : a < 256) (hb : b < 256) (a0 : a ≠ 0) (b0 : b ≠ 0) : gl (gm a b) = (gl a + gl b) % 255 := by
  obtain ⟨i, hi, rfl⟩ := pow_of ha a0
  obtain ⟨j, hj, rfl⟩ := pow_of hb b0
  rw [gm_pow, gl_gp, gl_gp' i hi, gl_gp' j hj]
end Go.Proofs.Ytikfjbomogekbaa.GF
