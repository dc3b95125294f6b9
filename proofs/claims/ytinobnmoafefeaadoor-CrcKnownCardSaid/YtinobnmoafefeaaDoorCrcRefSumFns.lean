/- The plain mathematics of the definition's Sum: its register is the other one with the bits turned about. -/
import Derived.Test.YtinobnmoafefeaaDoorCrcRefFns
namespace Go.Proofs.YtinobnmoafefeaaDoor.Crc

/-- v is u with its 32 bits turned about. -/
def Rev (v u : Nat) : Prop := ∀ i, i < 32 → v.testBit (31 - i) = u.testBit i
theorem P_bit : ∀ i, i < 32 → P.testBit i = (517762881 : Nat).testBit (31 - i) := by decide
theorem lf_bit (x : Nat) (i : Nat) : (lf x).testBit i = (x.testBit (i + 1) ^^ (x.testBit 0 && P.testBit i)) := by
  unfold lf
  rw [Nat.testBit_xor, Nat.testBit_succ]
  rcases Nat.mod_two_eq_zero_or_one x with h | h
  · have : x.testBit 0 = false := by simp [Nat.testBit_zero, h]
    rw [h, this]; simp
  · have : x.testBit 0 = true := by simp [Nat.testBit_zero, h]
    rw [h, this]; simp
theorem dbl_bit (v i : Nat) (hi : i < 32) : (v * 2 % 4294967296).testBit i = (decide (1 ≤ i) && v.testBit (i - 1)) := by
  rw [show (4294967296 : Nat) = 2 ^ 32 from rfl, Nat.testBit_mod_two_pow, show v * 2 = 2 ^ 1 * v by omega, Nat.testBit_two_pow_mul]
  simp [hi]
theorem toNat_bit (b : Bool) (i : Nat) : (b.toNat).testBit i = (decide (i = 0) && b) := by
  cases b
  · simp
  · cases i with
    | zero => rfl
    | succ i => simp [Nat.testBit_succ]
theorem rev_no (v u : Nat) (b : Bool) (hu : u < 4294967296) (h : Rev v u) (ho : (v.testBit 31 ^^ b) = false) : Rev (v * 2 % 4294967296) (lf (u ^^^ b.toNat)) := by
  intro i hi
  have h0 := h 0 (by omega)
  rw [Nat.sub_zero] at h0
  rw [dbl_bit _ _ (by omega), lf_bit, Nat.testBit_xor, Nat.testBit_xor, toNat_bit, toNat_bit, ← h0]
  rw [show decide (i + 1 = 0) = false by simp, Bool.false_and, Bool.xor_false]
  rw [show decide (0 = 0) = true from rfl, Bool.true_and, ho, Bool.false_and, Bool.xor_false]
  by_cases h31 : i = 31
  · subst h31
    have : u.testBit 32 = false := Nat.testBit_lt_two_pow hu
    simp [this]
  · have := h (i + 1) (by omega)
    rw [← this, show 31 - i - 1 = 31 - (i + 1) by omega, show decide (1 ≤ 31 - i) = true by simp; omega, Bool.true_and]
theorem rev_yes (v u : Nat) (b : Bool) (hu : u < 4294967296) (h : Rev v u) (ho : (v.testBit 31 ^^ b) = true) : Rev (v * 2 % 4294967296 ^^^ 517762881) (lf (u ^^^ b.toNat)) := by
  intro i hi
  have h0 := h 0 (by omega)
  rw [Nat.sub_zero] at h0
  rw [Nat.testBit_xor, dbl_bit _ _ (by omega), lf_bit, Nat.testBit_xor, Nat.testBit_xor, toNat_bit, toNat_bit, ← h0]
  rw [show decide (i + 1 = 0) = false by simp, Bool.false_and, Bool.xor_false]
  rw [show decide (0 = 0) = true from rfl, Bool.true_and, ho, Bool.true_and, P_bit i hi]
  by_cases h31 : i = 31
  · subst h31
    have : u.testBit 32 = false := Nat.testBit_lt_two_pow hu
    simp [this]
  · have := h (i + 1) (by omega)
    rw [← this, show 31 - i - 1 = 31 - (i + 1) by omega, show decide (1 ≤ 31 - i) = true by simp; omega, Bool.true_and]
theorem lfs_pow (k m : Nat) : lfs k (2 ^ k * m) = m := by
  induction k generalizing m with
  | zero => simp [lfs]
  | succ k ih => simp only [lfs]; rw [show 2 ^ (k + 1) * m = 2 ^ k * (2 * m) by rw [Nat.pow_succ, Nat.mul_assoc], ih, lf_even]
theorem mod_succ_xor (c k : Nat) : c % 2 ^ (k + 1) = (c % 2 ^ k) ^^^ (2 ^ k * (c.testBit k).toNat) := by
  apply Nat.eq_of_testBit_eq
  intro i
  rw [Nat.testBit_xor, Nat.testBit_mod_two_pow, Nat.testBit_mod_two_pow, Nat.testBit_two_pow_mul, toNat_bit]
  by_cases h : i < k
  · rw [show decide (i < k + 1) = true by simp; omega, show decide (i < k) = true by simp; omega, show decide (i ≥ k) = false by simp; omega]; simp
  · by_cases h2 : i = k
    · subst h2; simp
    · rw [show decide (i < k + 1) = false by simp; omega, show decide (i < k) = false by simp; omega, show decide (i - k = 0) = false by simp; omega]; simp
theorem lfs_step (r c k : Nat) : lf (lfs k (r ^^^ (c % 2 ^ k)) ^^^ (c.testBit k).toNat) = lfs (k + 1) (r ^^^ (c % 2 ^ (k + 1))) := by
  rw [mod_succ_xor, ← Nat.xor_assoc, lfs_xor (k + 1)]
  simp only [lfs]
  rw [lfs_pow, lf_xor]
theorem rev_start : Rev 4294967295 4294967295 := by
  intro i hi
  rw [show (4294967295 : Nat) = 2 ^ 32 - 1 from rfl, Nat.testBit_two_pow_sub_one, Nat.testBit_two_pow_sub_one]
  simp; omega
theorem top_bit (v : Nat) (hv : v < 4294967296) : decide ((2147483648 : Int) ≤ (v : Int)) = v.testBit 31 := by
  rw [Nat.testBit_eq_decide_div_mod_eq]
  rw [Bool.eq_iff_iff]; simp; omega
theorem not_bit (x i : Nat) (hi : i < 32) : (x ^^^ 4294967295).testBit i = !x.testBit i := by
  rw [Nat.testBit_xor, show (4294967295 : Nat) = 2 ^ 32 - 1 from rfl, Nat.testBit_two_pow_sub_one]
  simp [hi]
end Go.Proofs.YtinobnmoafefeaaDoor.Crc
