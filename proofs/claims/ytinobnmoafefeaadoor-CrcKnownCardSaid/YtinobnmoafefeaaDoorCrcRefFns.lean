/- The plain mathematics of layer 1's definition: division of polynomials, and that it is what the register's steps do. -/
import Derived.Test.YtinobnmoafefeaaDoorCrcFns
namespace Go.Proofs.YtinobnmoafefeaaDoor.Crc

/-- The divisor, the coefficient of x^32 its lowest bit; without it. -/
def D : Nat := 4394350321
def P : Nat := 2197175160
/-- One bit is divided. -/
def lf (x : Nat) : Nat := x / 2 ^^^ P * (x % 2)
def lfs : Nat → Nat → Nat
  | 0, x => x
  | i + 1, x => lf (lfs i x)

theorem mul_mod_xor (p a b : Nat) : p * ((a ^^^ b) % 2) = (p * (a % 2)) ^^^ (p * (b % 2)) := by
  have h : (a ^^^ b) % 2 = (a % 2) ^^^ (b % 2) := by
    have := Nat.xor_mod_two_pow (a := a) (b := b) (n := 1); simpa using this
  rw [h]
  rcases Nat.mod_two_eq_zero_or_one a with ha | ha <;> rcases Nat.mod_two_eq_zero_or_one b with hb | hb <;> rw [ha, hb] <;> simp
theorem xor_swap (a b c d : Nat) : (a ^^^ b) ^^^ (c ^^^ d) = (a ^^^ c) ^^^ (b ^^^ d) := by
  rw [Nat.xor_assoc, Nat.xor_assoc, ← Nat.xor_assoc b c d, ← Nat.xor_assoc c b d, Nat.xor_comm b c]
theorem xor_div_two (a b : Nat) : (a ^^^ b) / 2 = a / 2 ^^^ b / 2 := by
  have := Nat.xor_div_two_pow (a := a) (b := b) (n := 1); simpa using this
theorem lf_xor (a b : Nat) : lf (a ^^^ b) = lf a ^^^ lf b := by
  unfold lf; rw [mul_mod_xor, xor_div_two, xor_swap]
theorem lf_even (y : Nat) : lf (2 * y) = y := by
  unfold lf; rw [Nat.mul_mod_right]; simp
theorem lfs_xor (i a b : Nat) : lfs i (a ^^^ b) = lfs i a ^^^ lfs i b := by
  induction i with
  | zero => rfl
  | succ i ih => simp only [lfs]; rw [ih, lf_xor]
theorem lfs_add (i j x : Nat) : lfs (i + j) x = lfs i (lfs j x) := by
  induction i with
  | zero => rw [Nat.zero_add]; rfl
  | succ i ih => rw [Nat.succ_add]; simp only [lfs]; rw [ih]
theorem lfs4_high (y : Nat) : lfs 4 (16 * y) = y := by
  simp only [lfs]
  rw [show 16 * y = 2 * (2 * (2 * (2 * y))) by omega, lf_even, lf_even, lf_even, lf_even]
theorem split16 (x : Nat) : x = (16 * (x / 16)) ^^^ (x % 16) := by
  have h : x % 16 < 2 ^ 4 := Nat.mod_lt _ (by decide)
  have h1 := Nat.two_pow_add_eq_or_of_lt h (x / 16)
  have h2 : (2 ^ 4 * (x / 16)) ||| (x % 16) = (2 ^ 4 * (x / 16)) ^^^ (x % 16) := by
    apply Nat.eq_of_testBit_eq
    intro i
    rw [Nat.testBit_or, Nat.testBit_xor, Nat.testBit_two_pow_mul]
    by_cases hi : 4 ≤ i
    · have : (x % 16).testBit i = false := Nat.testBit_lt_two_pow (Nat.lt_of_lt_of_le h (Nat.pow_le_pow_right (by decide) hi))
      simp [this]
    · simp [hi]
  rw [h2, show (2 : Nat) ^ 4 = 16 from rfl] at h1
  omega
theorem two_mul_xor_one (z : Nat) : (2 * z) ^^^ 1 = 2 * z + 1 := by
  apply Nat.eq_of_testBit_eq
  intro k
  rw [Nat.testBit_xor]
  cases k with
  | zero => simp [Nat.testBit_zero]
  | succ k =>
    rw [Nat.testBit_succ, Nat.testBit_succ, Nat.testBit_succ, show 2 * z / 2 = z by omega, show (2 * z + 1) / 2 = z by omega]
    simp
/-- The four multiples of a half. -/
def T (m : Nat) : Nat := ((tab 0 * (m % 2)) ^^^ (tab 1 * (m / 2 % 2))) ^^^ ((tab 2 * (m / 4 % 2)) ^^^ (tab 3 * (m / 8 % 2)))
theorem lfs4_low : ∀ m, m < 16 → lfs 4 m = T m := by decide
theorem half_eq (x : Nat) : half x = lfs 4 x := by
  conv => rhs; rw [split16 x]
  rw [lfs_xor, lfs4_high, lfs4_low _ (Nat.mod_lt _ (by decide))]
  unfold half T
  simp only [halfTo]
  rw [show x % 16 % 2 = x / 2 ^ 0 % 2 by omega, show x % 16 / 2 % 2 = x / 2 ^ 1 % 2 by omega, show x % 16 / 4 % 2 = x / 2 ^ 2 % 2 by omega, show x % 16 / 8 % 2 = x / 2 ^ 3 % 2 by omega]
  simp only [Nat.xor_assoc]
theorem step_eq (r c : Nat) : step r c = lfs 8 (r ^^^ c) := by
  unfold step; rw [half_eq, half_eq, ← lfs_add]

/-- The row of coefficients behind i rounds of the division: the number whose bits it is. -/
def row (x : Nat) : Nat → Nat
  | 0 => x
  | i + 1 => if (row x i).testBit i then row x i ^^^ (D <<< i) else row x i
theorem row_eq (x i : Nat) : row x i = lfs i x <<< i := by
  induction i with
  | zero => simp [row, lfs]
  | succ i ih =>
    simp only [row, lfs]
    rw [ih, Nat.testBit_shiftLeft]
    simp only [Nat.le_refl, decide_true, Bool.true_and, Nat.sub_self]
    generalize lfs i x = y
    have hs : ∀ z : Nat, z <<< (i + 1) = (2 * z) <<< i := fun z => by rw [Nat.shiftLeft_eq, Nat.shiftLeft_eq, Nat.pow_succ]; rw [Nat.mul_comm 2 z, Nat.mul_assoc, Nat.mul_comm 2]
    rw [hs]
    by_cases h : y.testBit 0 = true
    · rw [if_pos h, ← Nat.shiftLeft_xor_distrib]
      congr 1
      have h1 : y % 2 = 1 := by simpa using h
      unfold lf
      rw [h1, Nat.mul_one]
      have e : 2 * (y / 2 ^^^ P) = (2 * (y / 2)) ^^^ (2 * P) := by
        have := Nat.shiftLeft_xor_distrib (a := y / 2) (b := P) (i := 1)
        simpa [Nat.shiftLeft_eq, Nat.mul_comm] using this
      rw [e]
      have hy : y = (2 * (y / 2)) ^^^ 1 := by
        rw [two_mul_xor_one]
        omega
      have hd : D = (2 * P) ^^^ 1 := by decide
      rw [hd]
      conv => lhs; rw [hy]
      rw [xor_swap, Nat.xor_self, Nat.xor_zero]
    · rw [if_neg h]
      have h1 : y % 2 = 0 := by simpa using h
      unfold lf
      rw [h1]
      congr 1
      simp; omega

theorem lf_lt (x : Nat) (h : x < 4294967296) : lf x < 4294967296 := by
  unfold lf
  refine xor_lt (by omega) ?_
  rcases Nat.mod_two_eq_zero_or_one x with h | h <;> rw [h] <;> decide
theorem lfs_lt (i x : Nat) (h : x < 4294967296) : lfs i x < 4294967296 := by
  induction i with
  | zero => exact h
  | succ i ih => exact lf_lt _ ih
theorem row8_bit (x i : Nat) : (row x 8).testBit (8 + i) = (lfs 8 x).testBit i := by
  rw [row_eq, Nat.testBit_shiftLeft]; simp
end Go.Proofs.YtinobnmoafefeaaDoor.Crc
