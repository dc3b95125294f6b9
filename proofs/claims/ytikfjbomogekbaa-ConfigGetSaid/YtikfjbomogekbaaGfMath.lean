/- The finite field of 256 elements, as plain mathematics on numbers below 256: powers of g, logarithms, products; and that the product of polynomials, divided, is the same. -/
namespace Go.Proofs.Ytikfjbomogekbaa.GF

/-- The product with x. -/
def gx (n : Nat) : Nat := if 256 ≤ 2 * n then (2 * n) ^^^ 285 else 2 * n
/-- The powers of g. -/
def gp : Nat → Nat
  | 0 => 1
  | n + 1 => gx (gp n)
/-- The logarithms. -/
def lt : List Nat := [
  0, 0, 1, 25, 2, 50, 26, 198, 3, 223, 51, 238, 27, 104, 199, 75, 4, 100, 224, 14, 52, 141, 239, 129, 28, 193, 105, 248, 200, 8, 76, 113,
  5, 138, 101, 47, 225, 36, 15, 33, 53, 147, 142, 218, 240, 18, 130, 69, 29, 181, 194, 125, 106, 39, 249, 185, 201, 154, 9, 120, 77, 228, 114, 166,
  6, 191, 139, 98, 102, 221, 48, 253, 226, 152, 37, 179, 16, 145, 34, 136, 54, 208, 148, 206, 143, 150, 219, 189, 241, 210, 19, 92, 131, 56, 70, 64,
  30, 66, 182, 163, 195, 72, 126, 110, 107, 58, 40, 84, 250, 133, 186, 61, 202, 94, 155, 159, 10, 21, 121, 43, 78, 212, 229, 172, 115, 243, 167, 87,
  7, 112, 192, 247, 140, 128, 99, 13, 103, 74, 222, 237, 49, 197, 254, 24, 227, 165, 153, 119, 38, 184, 180, 124, 17, 68, 146, 217, 35, 32, 137, 46,
  55, 63, 209, 91, 149, 188, 207, 205, 144, 135, 151, 178, 220, 252, 190, 97, 242, 86, 211, 171, 20, 42, 93, 158, 132, 60, 57, 83, 71, 109, 65, 162,
  31, 45, 67, 216, 183, 123, 164, 118, 196, 23, 73, 236, 127, 12, 111, 246, 108, 161, 59, 82, 41, 157, 85, 170, 251, 96, 134, 177, 187, 204, 62, 90,
  203, 89, 95, 176, 156, 169, 160, 81, 11, 245, 22, 235, 122, 117, 44, 215, 79, 174, 213, 233, 230, 231, 173, 232, 116, 214, 244, 234, 168, 80, 88, 175]
def gl (a : Nat) : Nat := lt.getD a 0
/-- The product, by logarithms. -/
def gm (a b : Nat) : Nat := if a = 0 then 0 else if b = 0 then 0 else gp ((gl a + gl b) % 255)

theorem xor_swap (a b c d : Nat) : (a ^^^ b) ^^^ (c ^^^ d) = (a ^^^ c) ^^^ (b ^^^ d) := by
  rw [Nat.xor_assoc, Nat.xor_assoc, ← Nat.xor_assoc b c d, ← Nat.xor_assoc c b d, Nat.xor_comm b c]
theorem gx_lt' : ∀ n, n < 256 → gx n < 256 := by decide +kernel
theorem gx_lt {n : Nat} (h : n < 256) : gx n < 256 := gx_lt' n h
theorem gp_lt (n : Nat) : gp n < 256 := by
  induction n with
  | zero => decide
  | succ n ih => exact gx_lt ih
theorem gp_255 : gp 255 = 1 := by decide +kernel
theorem gp_add255 (n : Nat) : gp (n + 255) = gp n := by
  induction n with
  | zero => rw [Nat.zero_add]; exact gp_255
  | succ n ih => rw [Nat.succ_add]; show gx (gp (n + 255)) = gx (gp n); rw [ih]
theorem gp_mod (n : Nat) : gp (n % 255) = gp n := by
  induction n using Nat.strongRecOn with
  | ind n ih =>
    rcases Nat.lt_or_ge n 255 with h | h
    · rw [Nat.mod_eq_of_lt h]
    · obtain ⟨m, rfl⟩ : ∃ m, n = m + 255 := ⟨n - 255, by omega⟩
      rw [gp_add255, Nat.add_mod_right]; exact ih m (by omega)
theorem gl_gp' : ∀ n, n < 255 → gl (gp n) = n := by decide +kernel
theorem gl_gp (n : Nat) : gl (gp n) = n % 255 := by rw [← gp_mod]; exact gl_gp' _ (by omega)
theorem gp_gl' : ∀ a, a < 256 → a ≠ 0 → gp (gl a) = a := by decide +kernel
theorem gp_gl {a : Nat} (h : a < 256) (h0 : a ≠ 0) : gp (gl a) = a := gp_gl' a h h0
theorem gl_lt' : ∀ a, a < 256 → gl a < 255 := by decide +kernel
theorem gl_lt {a : Nat} (h : a < 256) : gl a < 255 := gl_lt' a h
theorem gp_ne (n : Nat) : gp n ≠ 0 := by
  have h : ∀ n, n < 255 → gp n ≠ 0 := by decide +kernel
  rw [← gp_mod]; exact h _ (by omega)
theorem gp_inj {m n : Nat} (hm : m < 255) (hn : n < 255) (h : gp m = gp n) : m = n := by
  rw [← gl_gp' m hm, ← gl_gp' n hn, h]
theorem gm_lt (a b : Nat) : gm a b < 256 := by
  unfold gm; split; · decide
  split; · decide
  exact gp_lt _
theorem gm_zero (a : Nat) : gm a 0 = 0 := by unfold gm; split <;> rfl
theorem zero_gm (b : Nat) : gm 0 b = 0 := by unfold gm; rfl
theorem gm_pow (m n : Nat) : gm (gp m) (gp n) = gp (m + n) := by
  unfold gm
  rw [if_neg (gp_ne m), if_neg (gp_ne n), gl_gp, gl_gp, ← Nat.add_mod, gp_mod]
theorem gm_eq_zero {a b : Nat} : gm a b = 0 ↔ a = 0 ∨ b = 0 := by
  unfold gm
  by_cases ha : a = 0
  · simp [ha]
  · by_cases hb : b = 0
    · simp [hb]
    · simp [ha, hb, gp_ne]
theorem pow_of {a : Nat} (h : a < 256) (h0 : a ≠ 0) : ∃ n, n < 255 ∧ a = gp n := ⟨gl a, gl_lt h, (gp_gl h h0).symm⟩
theorem gm_comm (a b : Nat) : gm a b = gm b a := by
  unfold gm
  by_cases ha : a = 0 <;> by_cases hb : b = 0 <;> simp [ha, hb, Nat.add_comm]
theorem gm_assoc {a b c : Nat} (ha : a < 256) (hb : b < 256) (hc : c < 256) : gm (gm a b) c = gm a (gm b c) := by
  by_cases a0 : a = 0
  · subst a0; simp [zero_gm]
  by_cases b0 : b = 0
  · subst b0; simp [zero_gm, gm_zero]
  by_cases c0 : c = 0
  · subst c0; simp [gm_zero]
  obtain ⟨i, _, rfl⟩ := pow_of ha a0
  obtain ⟨j, _, rfl⟩ := pow_of hb b0
  obtain ⟨k, _, rfl⟩ := pow_of hc c0
  rw [gm_pow, gm_pow, gm_pow, gm_pow, Nat.add_assoc]
theorem gm_one {a : Nat} (ha : a < 256) : gm a 1 = a := by
  by_cases a0 : a = 0
  · subst a0; rfl
  obtain ⟨i, _, rfl⟩ := pow_of ha a0
  exact gm_pow i 0
theorem one_gm {a : Nat} (ha : a < 256) : gm 1 a = a := by rw [gm_comm]; exact gm_one ha

/-- Products as polynomials: k bits of b. -/
def rmA (a b : Nat) : Nat → Nat
  | 0 => 0
  | k + 1 => if b.testBit k then rmA a b k ^^^ (a <<< k) else rmA a b k
/-- The rest: j coefficients from that of x^14 on. -/
def rmR (n : Nat) : Nat → Nat
  | 0 => n
  | j + 1 => if (rmR n j).testBit (14 - j) then rmR n j ^^^ (285 <<< (6 - j)) else rmR n j
def rm (a b : Nat) : Nat := rmR (rmA a b 8) 7 % 256

theorem rmA_lt {a : Nat} (ha : a < 256) (b k : Nat) : rmA a b k < 2 ^ (8 + k) := by
  induction k with
  | zero => simp [rmA]
  | succ k ih =>
    have h1 : rmA a b k < 2 ^ (8 + (k + 1)) := Nat.lt_of_lt_of_le ih (Nat.pow_le_pow_right (by decide) (by omega))
    simp only [rmA]
    split
    · refine Nat.xor_lt_two_pow h1 ?_
      rw [Nat.shiftLeft_eq, show 8 + (k + 1) = 8 + 1 + k by omega, Nat.pow_add]
      exact Nat.mul_lt_mul_of_pos_right (by omega) (Nat.pow_pos (by decide))
    · exact h1
theorem rmA_lt16 {a : Nat} (ha : a < 256) (b k : Nat) (hk : k ≤ 8) : rmA a b k < 65536 :=
  Nat.lt_of_lt_of_le (rmA_lt ha b k) (Nat.le_trans (Nat.pow_le_pow_right (by decide) (show 8 + k ≤ 16 by omega)) (by decide))
theorem rmR_lt {n : Nat} (hn : n < 65536) (j : Nat) : rmR n j < 65536 := by
  induction j with
  | zero => exact hn
  | succ j ih =>
    simp only [rmR]
    split
    · refine Nat.xor_lt_two_pow (n := 16) ih ?_
      rw [Nat.shiftLeft_eq]
      have : 2 ^ (6 - j) ≤ 2 ^ 6 := Nat.pow_le_pow_right (by decide) (by omega)
      have := Nat.mul_le_mul_left 285 this
      omega
    · exact ih
theorem rm_lt (a b : Nat) : rm a b < 256 := Nat.mod_lt _ (by decide)

theorem rmA_xor_left (a a' b k : Nat) : rmA (a ^^^ a') b k = rmA a b k ^^^ rmA a' b k := by
  induction k with
  | zero => simp [rmA]
  | succ k ih =>
    simp only [rmA]
    rw [ih, Nat.shiftLeft_xor_distrib]
    cases b.testBit k
    · rfl
    · exact xor_swap _ _ _ _
theorem rmA_xor_right (a b b' k : Nat) : rmA a (b ^^^ b') k = rmA a b k ^^^ rmA a b' k := by
  induction k with
  | zero => simp [rmA]
  | succ k ih =>
    simp only [rmA, Nat.testBit_xor]
    rw [ih]
    cases b.testBit k <;> cases b'.testBit k
    · rfl
    · simp [Nat.xor_assoc]
    · simp only [Bool.xor_false, if_true, Bool.false_eq_true, if_false]
      rw [Nat.xor_assoc, Nat.xor_assoc, Nat.xor_comm (a <<< k)]
    · simp only [Bool.xor_self, if_true, Bool.false_eq_true, if_false]
      rw [xor_swap, Nat.xor_self, Nat.xor_zero]
theorem rmR_xor (n m j : Nat) : rmR (n ^^^ m) j = rmR n j ^^^ rmR m j := by
  induction j with
  | zero => rfl
  | succ j ih =>
    simp only [rmR]
    rw [ih, Nat.testBit_xor]
    generalize 285 <<< (6 - j) = c
    cases (rmR n j).testBit (14 - j) <;> cases (rmR m j).testBit (14 - j)
    · rfl
    · simp [Nat.xor_assoc]
    · simp only [Bool.xor_false, if_true, Bool.false_eq_true, if_false]
      rw [Nat.xor_assoc, Nat.xor_assoc, Nat.xor_comm c]
    · simp only [Bool.xor_self, if_true, Bool.false_eq_true, if_false]
      rw [xor_swap, Nat.xor_self, Nat.xor_zero]
theorem xor_mod256 (a b : Nat) : (a ^^^ b) % 256 = (a % 256) ^^^ (b % 256) := Nat.xor_mod_two_pow (n := 8)
theorem rm_xor_left (a a' b : Nat) : rm (a ^^^ a') b = rm a b ^^^ rm a' b := by
  unfold rm; rw [rmA_xor_left, rmR_xor, xor_mod256]
theorem rm_xor_right (a b b' : Nat) : rm a (b ^^^ b') = rm a b ^^^ rm a b' := by
  unfold rm; rw [rmA_xor_right, rmR_xor, xor_mod256]

/-- A byte is the sum of its bits. -/
theorem bits_sum : ∀ n, n < 256 → n = ((((((((128 * (n / 128 % 2)) ^^^ (64 * (n / 64 % 2))) ^^^ (32 * (n / 32 % 2))) ^^^ (16 * (n / 16 % 2))) ^^^ (8 * (n / 8 % 2))) ^^^ (4 * (n / 4 % 2))) ^^^ (2 * (n / 2 % 2))) ^^^ (n % 2)) := by decide +kernel
/-- What agrees at all bits agrees. -/
theorem lin_ext (f g : Nat → Nat) (hf : ∀ a b, f (a ^^^ b) = f a ^^^ f b) (hg : ∀ a b, g (a ^^^ b) = g a ^^^ g b)
    (h : ∀ i, i < 8 → f (2 ^ i) = g (2 ^ i)) (n : Nat) (hn : n < 256) : f n = g n := by
  have f0 : f 0 = 0 := by have := hf 0 0; rw [Nat.xor_self, Nat.xor_self] at this; exact this
  have g0 : g 0 = 0 := by have := hg 0 0; rw [Nat.xor_self, Nat.xor_self] at this; exact this
  have hb : ∀ i, i < 8 → ∀ m, f (2 ^ i * (m % 2)) = g (2 ^ i * (m % 2)) := by
    intro i hi m
    rcases Nat.mod_two_eq_zero_or_one m with e | e <;> rw [e]
    · rw [Nat.mul_zero, f0, g0]
    · rw [Nat.mul_one]; exact h i hi
  rw [bits_sum n hn]
  rw [hf, hf, hf, hf, hf, hf, hf, hg, hg, hg, hg, hg, hg, hg]
  have b0 := hb 0 (by decide) n; have b1 := hb 1 (by decide) (n / 2); have b2 := hb 2 (by decide) (n / 4); have b3 := hb 3 (by decide) (n / 8)
  have b4 := hb 4 (by decide) (n / 16); have b5 := hb 5 (by decide) (n / 32); have b6 := hb 6 (by decide) (n / 64); have b7 := hb 7 (by decide) (n / 128)
  simp only [Nat.pow_zero, Nat.one_mul] at b0
  rw [show (128 : Nat) = 2 ^ 7 from rfl, show (64 : Nat) = 2 ^ 6 from rfl, show (32 : Nat) = 2 ^ 5 from rfl, show (16 : Nat) = 2 ^ 4 from rfl, show (8 : Nat) = 2 ^ 3 from rfl, show (4 : Nat) = 2 ^ 2 from rfl] at *
  rw [show f (2 * (n / 2 % 2)) = g (2 * (n / 2 % 2)) from b1, b0, b2, b3, b4, b5, b6, b7]
/-- The product with x, at all numbers. -/
def gx' (n : Nat) : Nat := (2 * n) ^^^ (285 * (n / 128 % 2))
theorem gx_eq : ∀ n, n < 256 → gx n = gx' n := by decide +kernel
theorem mul_mod_xor (p a b : Nat) : p * ((a ^^^ b) % 2) = (p * (a % 2)) ^^^ (p * (b % 2)) := by
  have h : (a ^^^ b) % 2 = (a % 2) ^^^ (b % 2) := Nat.xor_mod_two_pow (n := 1)
  rw [h]
  rcases Nat.mod_two_eq_zero_or_one a with ha | ha <;> rcases Nat.mod_two_eq_zero_or_one b with hb | hb <;> rw [ha, hb] <;> simp
theorem gx'_xor (a b : Nat) : gx' (a ^^^ b) = gx' a ^^^ gx' b := by
  have h2 : 2 * (a ^^^ b) = (2 * a) ^^^ (2 * b) := by
    have := Nat.shiftLeft_xor_distrib (a := a) (b := b) (i := 1)
    simpa [Nat.shiftLeft_eq, Nat.mul_comm] using this
  unfold gx'
  rw [h2, show (a ^^^ b) / 128 = (a / 128) ^^^ (b / 128) from Nat.xor_div_two_pow (n := 7), mul_mod_xor, xor_swap]
theorem rm_gx {a b : Nat} (ha : a < 256) (hb : b < 256) : rm a (gx b) = gx (rm a b) := by
  rw [gx_eq b hb, gx_eq _ (rm_lt a b)]
  refine lin_ext (fun b => rm a (gx' b)) (fun b => gx' (rm a b)) (fun x y => ?_) (fun x y => ?_) (fun i hi => ?_) b hb
  · show rm a (gx' (x ^^^ y)) = _
    rw [gx'_xor, rm_xor_right]
  · show gx' (rm a (x ^^^ y)) = _
    rw [rm_xor_right, gx'_xor]
  · refine lin_ext (fun a => rm a (gx' (2 ^ i))) (fun a => gx' (rm a (2 ^ i))) (fun x y => ?_) (fun x y => ?_) (fun j hj => ?_) a ha
    · exact rm_xor_left _ _ _
    · show gx' (rm (x ^^^ y) _) = _
      rw [rm_xor_left, gx'_xor]
    · revert i j
      have : ∀ i, i < 8 → ∀ j, j < 8 → rm (2 ^ j) (gx' (2 ^ i)) = gx' (rm (2 ^ j) (2 ^ i)) := by decide +kernel
      exact fun i hi j hj => this i hi j hj
theorem rm_one : ∀ a, a < 256 → rm a 1 = a := by decide +kernel
theorem rm_pow {a : Nat} (ha : a < 256) (n : Nat) : rm a (gp n) = gm a (gp n) := by
  induction n with
  | zero => rw [show gp 0 = 1 from rfl, rm_one a ha, gm_one ha]
  | succ n ih =>
    show rm a (gx (gp n)) = gm a (gp (n + 1))
    rw [rm_gx ha (gp_lt n), ih]
    by_cases a0 : a = 0
    · subst a0; rw [zero_gm, zero_gm]; rfl
    obtain ⟨i, _, rfl⟩ := pow_of ha a0
    rw [gm_pow, gm_pow]; rfl
theorem rm_zero (a : Nat) : rm a 0 = 0 := by
  have := rm_xor_right a 0 0
  rw [Nat.xor_self, Nat.xor_self] at this; exact this
/-- The two products are one. -/
theorem rm_eq {a b : Nat} (ha : a < 256) (hb : b < 256) : rm a b = gm a b := by
  by_cases b0 : b = 0
  · subst b0; rw [rm_zero, gm_zero]
  obtain ⟨n, _, rfl⟩ := pow_of hb b0
  exact rm_pow ha n
theorem gm_add {a b c : Nat} (ha : a < 256) (hb : b < 256) (hc : c < 256) : gm a (b ^^^ c) = gm a b ^^^ gm a c := by
  rw [← rm_eq ha (Nat.xor_lt_two_pow (n := 8) hb hc), ← rm_eq ha hb, ← rm_eq ha hc, rm_xor_right]
theorem add_gm {a b c : Nat} (ha : a < 256) (hb : b < 256) (hc : c < 256) : gm (a ^^^ b) c = gm a c ^^^ gm b c := by
  rw [gm_comm, gm_add hc ha hb, gm_comm c a, gm_comm c b]
theorem xor_lt {a b : Nat} (ha : a < 256) (hb : b < 256) : a ^^^ b < 256 := Nat.xor_lt_two_pow (n := 8) ha hb
theorem sq_add {a b : Nat} (ha : a < 256) (hb : b < 256) : gm (a ^^^ b) (a ^^^ b) = gm a a ^^^ gm b b := by
  rw [gm_add (xor_lt ha hb) ha hb, add_gm ha hb ha, add_gm ha hb hb, gm_comm b a, xor_swap, Nat.xor_comm (gm a b) (gm b b), xor_swap, Nat.xor_self, Nat.xor_zero]

/-- Quotient and inverse. -/
def gq (a b : Nat) : Nat := if a = 0 then 0 else gp ((gl a + (255 - gl b)) % 255)
theorem gq_lt (a b : Nat) : gq a b < 256 := by
  unfold gq
  split
  · decide
  · exact gp_lt _
theorem gq_gm {a b : Nat} (ha : a < 256) (hb : b < 256) (h0 : b ≠ 0) : gq (gm a b) b = a := by
  by_cases a0 : a = 0
  · subst a0; rw [zero_gm]; rfl
  obtain ⟨i, hi, rfl⟩ := pow_of ha a0
  obtain ⟨j, hj, rfl⟩ := pow_of hb h0
  unfold gq
  rw [gm_pow, if_neg (gp_ne _), gl_gp, gl_gp' j hj, gp_mod]
  rw [← gp_mod i, ← gp_mod]
  congr 1; omega
theorem gm_gq {a b : Nat} (ha : a < 256) (hb : b < 256) (h0 : b ≠ 0) : gm (gq a b) b = a := by
  by_cases a0 : a = 0
  · subst a0; exact zero_gm b
  obtain ⟨i, hi, rfl⟩ := pow_of ha a0
  obtain ⟨j, hj, rfl⟩ := pow_of hb h0
  unfold gq
  rw [if_neg (gp_ne _), gm_pow, gl_gp' i hi, gl_gp' j hj, ← gp_mod]
  congr 1; omega
theorem gm_cancel {a b c : Nat} (ha : a < 256) (hb : b < 256) (hc : c < 256) (h0 : c ≠ 0) (h : gm a c = gm b c) : a = b := by
  rw [← gq_gm ha hc h0, ← gq_gm hb hc h0, h]

/-- Powers with any exponent. -/
def ge (n : Int) : Nat := gp (n % 255).toNat
theorem ge_lt (n : Int) : ge n < 256 := gp_lt _
theorem ge_nat (n : Nat) : ge n = gp n := by
  unfold ge; rw [← gp_mod n]; congr 1
theorem ge_add (m n : Int) : ge (m + n) = gm (ge m) (ge n) := by
  unfold ge
  rw [gm_pow, ← gp_mod ((m % 255).toNat + (n % 255).toNat)]
  congr 1; omega
theorem ge_ne (n : Int) : ge n ≠ 0 := gp_ne _
theorem ge_zero : ge 0 = 1 := rfl
/-- Powers of any byte. -/
def gpow (a : Nat) (n : Int) : Nat := if n = 0 then 1 else if a = 0 then 0 else ge (gl a * n)
theorem gpow_lt (a : Nat) (n : Int) : gpow a n < 256 := by
  unfold gpow; split; · decide
  split; · decide
  exact ge_lt _
theorem gpow_of {a : Nat} (h0 : a ≠ 0) (n : Int) : gpow a n = ge (gl a * n) := by
  unfold gpow
  split
  · rename_i h; subst h; rw [Int.mul_zero]; rfl
  · rfl
theorem ge_mul_mod (a n : Int) : ge (a * (n % 255)) = ge (a * n) := by
  unfold ge; rw [Int.mul_emod, Int.emod_emod, ← Int.mul_emod]
/-- The definition's power, round by round. -/
def rpow (a : Nat) : Nat → Nat
  | 0 => 1
  | n + 1 => gm (rpow a n) a
theorem rpow_lt (a n : Nat) : rpow a n < 256 := by
  cases n with
  | zero => exact Nat.one_lt_two_pow (n := 8) (by decide)
  | succ n => exact gm_lt _ _
theorem rpow_gp (i n : Nat) : rpow (gp i) n = gp (i * n) := by
  induction n with
  | zero => rfl
  | succ n ih => simp only [rpow]; rw [ih, gm_pow, Nat.mul_succ]
theorem rpow_eq {a : Nat} (ha : a < 256) (h0 : a ≠ 0) (n : Int) : rpow a (n % 255).toNat = gpow a n := by
  rw [gpow_of h0, ← ge_mul_mod]
  obtain ⟨i, hi, rfl⟩ := pow_of ha h0
  rw [rpow_gp, gl_gp' i hi]
  obtain ⟨m, hm⟩ : ∃ m : Nat, n % 255 = (m : Int) := ⟨(n % 255).toNat, by omega⟩
  rw [hm, ← Int.natCast_mul, ge_nat, Int.toNat_natCast]

/-- The order, by the greatest common divisor. -/
def gord (a : Nat) : Nat := if a = 0 then 0 else 255 / Nat.gcd 255 (gl a)
theorem ord_spec {a : Nat} (ha : a < 256) (h0 : a ≠ 0) : 0 < gord a ∧ gord a ≤ 255 ∧ 255 % gord a = 0 ∧ rpow a (gord a) = 1 ∧ ∀ n, 0 < n → n < gord a → rpow a n ≠ 1 := by
  obtain ⟨i, hi, rfl⟩ := pow_of ha h0
  unfold gord
  rw [if_neg h0, gl_gp' i hi]
  have hg : Nat.gcd 255 i ∣ 255 := Nat.gcd_dvd_left _ _
  have hg0 : 0 < Nat.gcd 255 i := Nat.gcd_pos_of_pos_left _ (by decide)
  have hgi : Nat.gcd 255 i ∣ i := Nat.gcd_dvd_right _ _
  have hle : Nat.gcd 255 i ≤ 255 := Nat.le_of_dvd (by decide) hg
  refine ⟨Nat.div_pos hle hg0, Nat.div_le_self _ _, ?_, ?_, ?_⟩
  · exact Nat.mod_eq_zero_of_dvd (Nat.div_dvd_of_dvd hg)
  · rw [rpow_gp]
    obtain ⟨c, hc⟩ := hgi
    have e : i * (255 / Nat.gcd 255 i) = 255 * c := by
      have : Nat.gcd 255 i * (255 / Nat.gcd 255 i) = 255 := Nat.mul_div_cancel' hg
      calc i * (255 / Nat.gcd 255 i) = (Nat.gcd 255 i * c) * (255 / Nat.gcd 255 i) := by rw [← hc]
        _ = (Nat.gcd 255 i * (255 / Nat.gcd 255 i)) * c := by rw [Nat.mul_assoc, Nat.mul_comm c, Nat.mul_assoc]
        _ = 255 * c := by rw [this]
    rw [e, ← gp_mod, Nat.mul_mod_right]; rfl
  · intro n hn0 hn h1
    rw [rpow_gp] at h1
    have h2 : i * n % 255 = 0 := gp_inj (by omega) (by decide) (by rw [gp_mod]; exact h1)
    have h3 : 255 ∣ i * n := Nat.dvd_of_mod_eq_zero h2
    have h4 : 255 / Nat.gcd 255 i ∣ (i / Nat.gcd 255 i) * n := by
      obtain ⟨c, hc⟩ := h3
      refine ⟨c, ?_⟩
      have e1 : Nat.gcd 255 i * (255 / Nat.gcd 255 i) = 255 := Nat.mul_div_cancel' hg
      have e2 : Nat.gcd 255 i * (i / Nat.gcd 255 i) = i := Nat.mul_div_cancel' hgi
      refine Nat.eq_of_mul_eq_mul_left hg0 ?_
      rw [← Nat.mul_assoc, e2, ← Nat.mul_assoc, e1, hc]
    have hc : Nat.Coprime (255 / Nat.gcd 255 i) (i / Nat.gcd 255 i) := Nat.coprime_div_gcd_div_gcd hg0
    have h5 := hc.dvd_of_dvd_mul_left h4
    exact absurd (Nat.le_of_dvd hn0 h5) (by omega)
end Go.Proofs.Ytikfjbomogekbaa.GF
