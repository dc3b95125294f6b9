/- Of the program, joined: GfMath, GfMath2, F8, PolyMath, PolyMath2, RdMath. -/
namespace Go.Proofs.YtjoghbmedfmioabGreat.GF
def gx (n : Nat) : Nat := if 256 ≤ 2 * n then (2 * n) ^^^ 285 else 2 * n
def gp : Nat → Nat
 | 0 => 1
 | n + 1 => gx (gp n)
def lt : List Nat := [
 0, 0, 1, 25, 2, 50, 26, 198, 3, 223, 51, 238, 27, 104, 199, 75, 4, 100, 224, 14, 52, 141, 239, 129, 28, 193, 105, 248, 200, 8, 76, 113,
 5, 138, 101, 47, 225, 36, 15, 33, 53, 147, 142, 218, 240, 18, 130, 69, 29, 181, 194, 125, 106, 39, 249, 185, 201, 154, 9, 120, 77, 228, 114, 166,
 6, 191, 139, 98, 102, 221, 48, 253, 226, 152, 37, 179, 16, 145, 34, 136, 54, 208, 148, 206, 143, 150, 219, 189, 241, 210, 19, 92, 131, 56, 70, 64,
 30, 66, 182, 163, 195, 72, 126, 110, 107, 58, 40, 84, 250, 133, 186, 61, 202, 94, 155, 159, 10, 21, 121, 43, 78, 212, 229, 172, 115, 243, 167, 87,
 7, 112, 192, 247, 140, 128, 99, 13, 103, 74, 222, 237, 49, 197, 254, 24, 227, 165, 153, 119, 38, 184, 180, 124, 17, 68, 146, 217, 35, 32, 137, 46,
 55, 63, 209, 91, 149, 188, 207, 205, 144, 135, 151, 178, 220, 252, 190, 97, 242, 86, 211, 171, 20, 42, 93, 158, 132, 60, 57, 83, 71, 109, 65, 162,
 31, 45, 67, 216, 183, 123, 164, 118, 196, 23, 73, 236, 127, 12, 111, 246, 108, 161, 59, 82, 41, 157, 85, 170, 251, 96, 134, 177, 187, 204, 62, 90,
 203, 89, 95, 176, 156, 169, 160, 81, 11, 245, 22, 235, 122, 117, 44, 215, 79, 174, 213, 233, 230, 231, 173, 232, 116, 214, 244, 234, 168, 80, 88, 175]
def gl (a : Nat) : Nat := lt.getD a 0
def gm (a b : Nat) : Nat := if a = 0 then 0 else if b = 0 then 0 else gp ((gl a + gl b) % 255)
theorem xor_swap (a b c d : Nat) : (a ^^^ b) ^^^ (c ^^^ d) = (a ^^^ c) ^^^ (b ^^^ d) := by
 rw [Nat.xor_assoc, Nat.xor_assoc, ← Nat.xor_assoc b c d, ← Nat.xor_assoc c b d, Nat.xor_comm b c]
theorem gx_lt' : ∀ n, n < 256 → gx n < 256 := by decide +kernel
theorem gx_lt {n : Nat} (h : n < 256) : gx n < 256 := gx_lt' n h
theorem gp_lt (n : Nat) : gp n < 256 := by
 induction n with
 | zero => decide
 | succ n ih => exact gx_lt ih
theorem gp_255 : gp 255 = 1 := by decide +kernel
theorem gp_add255 (n : Nat) : gp (n + 255) = gp n := by
 induction n with
 | zero => rw [Nat.zero_add]; exact gp_255
 | succ n ih => rw [Nat.succ_add]; show gx (gp (n + 255)) = gx (gp n); rw [ih]
theorem gp_mod (n : Nat) : gp (n % 255) = gp n := by
 induction n using Nat.strongRecOn with
 | ind n ih =>
  rcases Nat.lt_or_ge n 255 with h | h
  ·rw [Nat.mod_eq_of_lt h]
  ·obtain ⟨m, rfl⟩ : ∃ m, n = m + 255 := ⟨n - 255, by omega⟩
   rw [gp_add255, Nat.add_mod_right]; exact ih m (by omega)
theorem gl_gp' : ∀ n, n < 255 → gl (gp n) = n := by decide +kernel
theorem gl_gp (n : Nat) : gl (gp n) = n % 255 := by rw [← gp_mod]; exact gl_gp' _ (by omega)
theorem gp_gl' : ∀ a, a < 256 → a ≠ 0 → gp (gl a) = a := by decide +kernel
theorem gp_gl {a : Nat} (h : a < 256) (h0 : a ≠ 0) : gp (gl a) = a := gp_gl' a h h0
theorem gl_lt' : ∀ a, a < 256 → gl a < 255 := by decide +kernel
theorem gl_lt {a : Nat} (h : a < 256) : gl a < 255 := gl_lt' a h
theorem gp_ne (n : Nat) : gp n ≠ 0 := by
 have h : ∀ n, n < 255 → gp n ≠ 0 := by decide +kernel
 rw [← gp_mod]; exact h _ (by omega)
theorem gp_inj {m n : Nat} (hm : m < 255) (hn : n < 255) (h : gp m = gp n) : m = n := by
 rw [← gl_gp' m hm, ← gl_gp' n hn, h]
theorem gm_lt (a b : Nat) : gm a b < 256 := by
 unfold gm; split; · decide
 split; · decide
 exact gp_lt _
theorem gm_zero (a : Nat) : gm a 0 = 0 := by unfold gm; split <;> rfl
theorem zero_gm (b : Nat) : gm 0 b = 0 := by unfold gm; rfl
theorem gm_pow (m n : Nat) : gm (gp m) (gp n) = gp (m + n) := by
 unfold gm
 rw [if_neg (gp_ne m), if_neg (gp_ne n), gl_gp, gl_gp, ← Nat.add_mod, gp_mod]
theorem gm_eq_zero {a b : Nat} : gm a b = 0 ↔ a = 0 ∨ b = 0 := by
 unfold gm
 by_cases ha : a = 0
 ·simp [ha]
 ·by_cases hb : b = 0
  ·simp [hb]
  ·simp [ha, hb, gp_ne]
theorem pow_of {a : Nat} (h : a < 256) (h0 : a ≠ 0) : ∃ n, n < 255 ∧ a = gp n := ⟨gl a, gl_lt h, (gp_gl h h0).symm⟩
theorem gm_comm (a b : Nat) : gm a b = gm b a := by
 unfold gm
 by_cases ha : a = 0 <;> by_cases hb : b = 0 <;> simp [ha, hb, Nat.add_comm]
theorem gm_assoc {a b c : Nat} (ha : a < 256) (hb : b < 256) (hc : c < 256) : gm (gm a b) c = gm a (gm b c) := by
 by_cases a0 : a = 0
 ·subst a0; simp [zero_gm]
 by_cases b0 : b = 0
 ·subst b0; simp [zero_gm, gm_zero]
 by_cases c0 : c = 0
 ·subst c0; simp [gm_zero]
 obtain ⟨i, _, rfl⟩ := pow_of ha a0
 obtain ⟨j, _, rfl⟩ := pow_of hb b0
 obtain ⟨k, _, rfl⟩ := pow_of hc c0
 rw [gm_pow, gm_pow, gm_pow, gm_pow, Nat.add_assoc]
theorem gm_one {a : Nat} (ha : a < 256) : gm a 1 = a := by
 by_cases a0 : a = 0
 ·subst a0; rfl
 obtain ⟨i, _, rfl⟩ := pow_of ha a0
 exact gm_pow i 0
theorem one_gm {a : Nat} (ha : a < 256) : gm 1 a = a := by rw [gm_comm]; exact gm_one ha
def rmA (a b : Nat) : Nat → Nat
 | 0 => 0
 | k + 1 => if b.testBit k then rmA a b k ^^^ (a <<< k) else rmA a b k
def rmR (n : Nat) : Nat → Nat
 | 0 => n
 | j + 1 => if (rmR n j).testBit (14 - j) then rmR n j ^^^ (285 <<< (6 - j)) else rmR n j
def rm (a b : Nat) : Nat := rmR (rmA a b 8) 7 % 256
theorem rmA_lt {a : Nat} (ha : a < 256) (b k : Nat) : rmA a b k < 2 ^ (8 + k) := by
 induction k with
 | zero => simp [rmA]
 | succ k ih =>
  have h1 : rmA a b k < 2 ^ (8 + (k + 1)) := Nat.lt_of_lt_of_le ih (Nat.pow_le_pow_right (by decide) (by omega))
  simp only [rmA]
  split
  ·refine Nat.xor_lt_two_pow h1 ?_
   rw [Nat.shiftLeft_eq, show 8 + (k + 1) = 8 + 1 + k by omega, Nat.pow_add]
   exact Nat.mul_lt_mul_of_pos_right (by omega) (Nat.pow_pos (by decide))
  ·exact h1
theorem rmA_lt16 {a : Nat} (ha : a < 256) (b k : Nat) (hk : k ≤ 8) : rmA a b k < 65536 :=
 Nat.lt_of_lt_of_le (rmA_lt ha b k) (Nat.le_trans (Nat.pow_le_pow_right (by decide) (show 8 + k ≤ 16 by omega)) (by decide))
theorem rmR_lt {n : Nat} (hn : n < 65536) (j : Nat) : rmR n j < 65536 := by
 induction j with
 | zero => exact hn
 | succ j ih =>
  simp only [rmR]
  split
  ·refine Nat.xor_lt_two_pow (n := 16) ih ?_
   rw [Nat.shiftLeft_eq]
   have : 2 ^ (6 - j) ≤ 2 ^ 6 := Nat.pow_le_pow_right (by decide) (by omega)
   have := Nat.mul_le_mul_left 285 this
   omega
  ·exact ih
theorem rm_lt (a b : Nat) : rm a b < 256 := Nat.mod_lt _ (by decide)
theorem rmA_xor_left (a a' b k : Nat) : rmA (a ^^^ a') b k = rmA a b k ^^^ rmA a' b k := by
 induction k with
 | zero => simp [rmA]
 | succ k ih =>
  simp only [rmA]
  rw [ih, Nat.shiftLeft_xor_distrib]
  cases b.testBit k
  ·rfl
  ·exact xor_swap _ _ _ _
theorem rmA_xor_right (a b b' k : Nat) : rmA a (b ^^^ b') k = rmA a b k ^^^ rmA a b' k := by
 induction k with
 | zero => simp [rmA]
 | succ k ih =>
  simp only [rmA, Nat.testBit_xor]
  rw [ih]
  cases b.testBit k <;> cases b'.testBit k
  ·rfl
  ·simp [Nat.xor_assoc]
  ·simp only [Bool.xor_false, if_true, Bool.false_eq_true, if_false]
   rw [Nat.xor_assoc, Nat.xor_assoc, Nat.xor_comm (a <<< k)]
  ·simp only [Bool.xor_self, if_true, Bool.false_eq_true, if_false]
   rw [xor_swap, Nat.xor_self, Nat.xor_zero]
theorem rmR_xor (n m j : Nat) : rmR (n ^^^ m) j = rmR n j ^^^ rmR m j := by
 induction j with
 | zero => rfl
 | succ j ih =>
  simp only [rmR]
  rw [ih, Nat.testBit_xor]
  generalize 285 <<< (6 - j) = c
  cases (rmR n j).testBit (14 - j) <;> cases (rmR m j).testBit (14 - j)
  ·rfl
  ·simp [Nat.xor_assoc]
  ·simp only [Bool.xor_false, if_true, Bool.false_eq_true, if_false]
   rw [Nat.xor_assoc, Nat.xor_assoc, Nat.xor_comm c]
  ·simp only [Bool.xor_self, if_true, Bool.false_eq_true, if_false]
   rw [xor_swap, Nat.xor_self, Nat.xor_zero]
theorem xor_mod256 (a b : Nat) : (a ^^^ b) % 256 = (a % 256) ^^^ (b % 256) := Nat.xor_mod_two_pow (n := 8)
theorem rm_xor_left (a a' b : Nat) : rm (a ^^^ a') b = rm a b ^^^ rm a' b := by
 unfold rm; rw [rmA_xor_left, rmR_xor, xor_mod256]
theorem rm_xor_right (a b b' : Nat) : rm a (b ^^^ b') = rm a b ^^^ rm a b' := by
 unfold rm; rw [rmA_xor_right, rmR_xor, xor_mod256]
theorem bits_sum : ∀ n, n < 256 → n = ((((((((128 * (n / 128 % 2)) ^^^ (64 * (n / 64 % 2))) ^^^ (32 * (n / 32 % 2))) ^^^ (16 * (n / 16 % 2))) ^^^ (8 * (n / 8 % 2))) ^^^ (4 * (n / 4 % 2))) ^^^ (2 * (n / 2 % 2))) ^^^ (n % 2)) := by decide +kernel
theorem lin_ext (f g : Nat → Nat) (hf : ∀ a b, f (a ^^^ b) = f a ^^^ f b) (hg : ∀ a b, g (a ^^^ b) = g a ^^^ g b)
  (h : ∀ i, i < 8 → f (2 ^ i) = g (2 ^ i)) (n : Nat) (hn : n < 256) : f n = g n := by
 have f0 : f 0 = 0 := by have := hf 0 0; rw [Nat.xor_self, Nat.xor_self] at this; exact this
 have g0 : g 0 = 0 := by have := hg 0 0; rw [Nat.xor_self, Nat.xor_self] at this; exact this
 have hb : ∀ i, i < 8 → ∀ m, f (2 ^ i * (m % 2)) = g (2 ^ i * (m % 2)) := by
  intro i hi m
  rcases Nat.mod_two_eq_zero_or_one m with e | e <;> rw [e]
  ·rw [Nat.mul_zero, f0, g0]
  ·rw [Nat.mul_one]; exact h i hi
 rw [bits_sum n hn]
 rw [hf, hf, hf, hf, hf, hf, hf, hg, hg, hg, hg, hg, hg, hg]
 have b0 := hb 0 (by decide) n; have b1 := hb 1 (by decide) (n / 2); have b2 := hb 2 (by decide) (n / 4); have b3 := hb 3 (by decide) (n / 8)
 have b4 := hb 4 (by decide) (n / 16); have b5 := hb 5 (by decide) (n / 32); have b6 := hb 6 (by decide) (n / 64); have b7 := hb 7 (by decide) (n / 128)
 simp only [Nat.pow_zero, Nat.one_mul] at b0
 rw [show (128 : Nat) = 2 ^ 7 from rfl, show (64 : Nat) = 2 ^ 6 from rfl, show (32 : Nat) = 2 ^ 5 from rfl, show (16 : Nat) = 2 ^ 4 from rfl, show (8 : Nat) = 2 ^ 3 from rfl, show (4 : Nat) = 2 ^ 2 from rfl] at *
 rw [show f (2 * (n / 2 % 2)) = g (2 * (n / 2 % 2)) from b1, b0, b2, b3, b4, b5, b6, b7]
def gx' (n : Nat) : Nat := (2 * n) ^^^ (285 * (n / 128 % 2))
theorem gx_eq : ∀ n, n < 256 → gx n = gx' n := by decide +kernel
theorem mul_mod_xor (p a b : Nat) : p * ((a ^^^ b) % 2) = (p * (a % 2)) ^^^ (p * (b % 2)) := by
 have h : (a ^^^ b) % 2 = (a % 2) ^^^ (b % 2) := Nat.xor_mod_two_pow (n := 1)
 rw [h]
 rcases Nat.mod_two_eq_zero_or_one a with ha | ha <;> rcases Nat.mod_two_eq_zero_or_one b with hb | hb <;> rw [ha, hb] <;> simp
theorem gx'_xor (a b : Nat) : gx' (a ^^^ b) = gx' a ^^^ gx' b := by
 have h2 : 2 * (a ^^^ b) = (2 * a) ^^^ (2 * b) := by
  have := Nat.shiftLeft_xor_distrib (a := a) (b := b) (i := 1)
  simpa [Nat.shiftLeft_eq, Nat.mul_comm] using this
 unfold gx'
 rw [h2, show (a ^^^ b) / 128 = (a / 128) ^^^ (b / 128) from Nat.xor_div_two_pow (n := 7), mul_mod_xor, xor_swap]
theorem rm_gx {a b : Nat} (ha : a < 256) (hb : b < 256) : rm a (gx b) = gx (rm a b) := by
 rw [gx_eq b hb, gx_eq _ (rm_lt a b)]
 refine lin_ext (fun b => rm a (gx' b)) (fun b => gx' (rm a b)) (fun x y => ?_) (fun x y => ?_) (fun i hi => ?_) b hb
 ·show rm a (gx' (x ^^^ y)) = _
  rw [gx'_xor, rm_xor_right]
 ·show gx' (rm a (x ^^^ y)) = _
  rw [rm_xor_right, gx'_xor]
 ·refine lin_ext (fun a => rm a (gx' (2 ^ i))) (fun a => gx' (rm a (2 ^ i))) (fun x y => ?_) (fun x y => ?_) (fun j hj => ?_) a ha
  ·exact rm_xor_left _ _ _
  ·show gx' (rm (x ^^^ y) _) = _
   rw [rm_xor_left, gx'_xor]
  ·revert i j
   have : ∀ i, i < 8 → ∀ j, j < 8 → rm (2 ^ j) (gx' (2 ^ i)) = gx' (rm (2 ^ j) (2 ^ i)) := by decide +kernel
   exact fun i hi j hj => this i hi j hj
theorem rm_one : ∀ a, a < 256 → rm a 1 = a := by decide +kernel
theorem rm_pow {a : Nat} (ha : a < 256) (n : Nat) : rm a (gp n) = gm a (gp n) := by
 induction n with
 | zero => rw [show gp 0 = 1 from rfl, rm_one a ha, gm_one ha]
 | succ n ih =>
  show rm a (gx (gp n)) = gm a (gp (n + 1))
  rw [rm_gx ha (gp_lt n), ih]
  by_cases a0 : a = 0
  ·subst a0; rw [zero_gm, zero_gm]; rfl
  obtain ⟨i, _, rfl⟩ := pow_of ha a0
  rw [gm_pow, gm_pow]; rfl
theorem rm_zero (a : Nat) : rm a 0 = 0 := by
 have := rm_xor_right a 0 0
 rw [Nat.xor_self, Nat.xor_self] at this; exact this
theorem rm_eq {a b : Nat} (ha : a < 256) (hb : b < 256) : rm a b = gm a b := by
 by_cases b0 : b = 0
 ·subst b0; rw [rm_zero, gm_zero]
 obtain ⟨n, _, rfl⟩ := pow_of hb b0
 exact rm_pow ha n
theorem gm_add {a b c : Nat} (ha : a < 256) (hb : b < 256) (hc : c < 256) : gm a (b ^^^ c) = gm a b ^^^ gm a c := by
 rw [← rm_eq ha (Nat.xor_lt_two_pow (n := 8) hb hc), ← rm_eq ha hb, ← rm_eq ha hc, rm_xor_right]
theorem add_gm {a b c : Nat} (ha : a < 256) (hb : b < 256) (hc : c < 256) : gm (a ^^^ b) c = gm a c ^^^ gm b c := by
 rw [gm_comm, gm_add hc ha hb, gm_comm c a, gm_comm c b]
theorem xor_lt {a b : Nat} (ha : a < 256) (hb : b < 256) : a ^^^ b < 256 := Nat.xor_lt_two_pow (n := 8) ha hb
def gq (a b : Nat) : Nat := if a = 0 then 0 else gp ((gl a + (255 - gl b)) % 255)
theorem gq_lt (a b : Nat) : gq a b < 256 := by
 unfold gq
 split
 ·decide
 ·exact gp_lt _
theorem gq_gm {a b : Nat} (ha : a < 256) (hb : b < 256) (h0 : b ≠ 0) : gq (gm a b) b = a := by
 by_cases a0 : a = 0
 ·subst a0; rw [zero_gm]; rfl
 obtain ⟨i, hi, rfl⟩ := pow_of ha a0
 obtain ⟨j, hj, rfl⟩ := pow_of hb h0
 unfold gq
 rw [gm_pow, if_neg (gp_ne _), gl_gp, gl_gp' j hj, gp_mod]
 rw [← gp_mod i, ← gp_mod]
 congr 1; omega
theorem gm_gq {a b : Nat} (ha : a < 256) (hb : b < 256) (h0 : b ≠ 0) : gm (gq a b) b = a := by
 by_cases a0 : a = 0
 ·subst a0; exact zero_gm b
 obtain ⟨i, hi, rfl⟩ := pow_of ha a0
 obtain ⟨j, hj, rfl⟩ := pow_of hb h0
 unfold gq
 rw [if_neg (gp_ne _), gm_pow, gl_gp' i hi, gl_gp' j hj, ← gp_mod]
 congr 1; omega
theorem gm_cancel {a b c : Nat} (ha : a < 256) (hb : b < 256) (hc : c < 256) (h0 : c ≠ 0) (h : gm a c = gm b c) : a = b := by
 rw [← gq_gm ha hc h0, ← gq_gm hb hc h0, h]
def ge (n : Int) : Nat := gp (n % 255).toNat
theorem ge_nat (n : Nat) : ge n = gp n := by
 unfold ge; rw [← gp_mod n]; congr 1
def gpow (a : Nat) (n : Int) : Nat := if n = 0 then 1 else if a = 0 then 0 else ge (gl a * n)
theorem gpow_of {a : Nat} (h0 : a ≠ 0) (n : Int) : gpow a n = ge (gl a * n) := by
 unfold gpow
 split
 ·rename_i h; subst h; rw [Int.mul_zero]; rfl
 ·rfl
theorem ge_mul_mod (a n : Int) : ge (a * (n % 255)) = ge (a * n) := by
 unfold ge; rw [Int.mul_emod, Int.emod_emod, ← Int.mul_emod]
def rpow (a : Nat) : Nat → Nat
 | 0 => 1
 | n + 1 => gm (rpow a n) a
theorem rpow_lt (a n : Nat) : rpow a n < 256 := by
 cases n with
 | zero => exact Nat.one_lt_two_pow (n := 8) (by decide)
 | succ n => exact gm_lt _ _
theorem rpow_gp (i n : Nat) : rpow (gp i) n = gp (i * n) := by
 induction n with
 | zero => rfl
 | succ n ih => simp only [rpow]; rw [ih, gm_pow, Nat.mul_succ]
theorem rpow_eq {a : Nat} (ha : a < 256) (h0 : a ≠ 0) (n : Int) : rpow a (n % 255).toNat = gpow a n := by
 rw [gpow_of h0, ← ge_mul_mod]
 obtain ⟨i, hi, rfl⟩ := pow_of ha h0
 rw [rpow_gp, gl_gp' i hi]
 obtain ⟨m, hm⟩ : ∃ m : Nat, n % 255 = (m : Int) := ⟨(n % 255).toNat, by omega⟩
 rw [hm, ← Int.natCast_mul, ge_nat, Int.toNat_natCast]
end Go.Proofs.YtjoghbmedfmioabGreat.GF

namespace Go.Proofs.YtjoghbmedfmioabGreat.GF
theorem gl_two : gl 2 = 1 := rfl
theorem gpow_two (n : Int) : gpow 2 n = ge n := by
 rw [gpow_of (by decide), gl_two]; congr 1; omega
end Go.Proofs.YtjoghbmedfmioabGreat.GF

namespace Go.Proofs.YtjoghbmedfmioabGreat
structure F8 where
 n : Nat
 h : n < 256
namespace F8
theorem ext {a b : F8} (h : a.n = b.n) : a = b := by
 obtain ⟨a, ha⟩ := a; obtain ⟨b, hb⟩ := b; cases h; rfl
theorem n_inj {a b : F8} : a.n = b.n ↔ a = b := ⟨ext, fun h => by rw [h]⟩
instance : DecidableEq F8 := fun a b => if h : a.n = b.n then isTrue (ext h) else isFalse (fun e => h (by rw [e]))
instance : Zero F8 := ⟨⟨0, by decide⟩⟩
instance : One F8 := ⟨⟨1, by decide⟩⟩
instance : Add F8 := ⟨fun a b => ⟨a.n ^^^ b.n, GF.xor_lt a.h b.h⟩⟩
instance : Mul F8 := ⟨fun a b => ⟨GF.gm a.n b.n, GF.gm_lt _ _⟩⟩
instance : Div F8 := ⟨fun a b => ⟨GF.gq a.n b.n, GF.gq_lt _ _⟩⟩
instance : Inhabited F8 := ⟨0⟩
theorem n_mul (a b : F8) : (a * b).n = GF.gm a.n b.n := rfl
theorem n_eq_zero {a : F8} : a.n = 0 ↔ a = 0 := n_inj (b := 0)
theorem n_ne_zero {a : F8} : a.n ≠ 0 ↔ a ≠ 0 := not_congr n_eq_zero
theorem add_comm (a b : F8) : a + b = b + a := ext (Nat.xor_comm _ _)
theorem add_assoc (a b c : F8) : a + b + c = a + (b + c) := ext (Nat.xor_assoc _ _ _)
theorem add_left_comm (a b c : F8) : a + (b + c) = b + (a + c) := by rw [← add_assoc, add_comm a b, add_assoc]
theorem add_zero (a : F8) : a + 0 = a := ext (Nat.xor_zero _)
theorem zero_add (a : F8) : 0 + a = a := ext (Nat.zero_xor _)
theorem add_self (a : F8) : a + a = 0 := ext (Nat.xor_self _)
theorem add_add_self (a b : F8) : a + b + b = a := by rw [add_assoc, add_self, add_zero]
theorem add_eq_zero {a b : F8} : a + b = 0 ↔ a = b := ⟨fun h => by rw [← add_add_self a b, h, zero_add], fun h => by rw [h, add_self]⟩
theorem mul_comm (a b : F8) : a * b = b * a := ext (GF.gm_comm _ _)
theorem mul_assoc (a b c : F8) : a * b * c = a * (b * c) := ext (GF.gm_assoc a.h b.h c.h)
theorem mul_left_comm (a b c : F8) : a * (b * c) = b * (a * c) := by rw [← mul_assoc, mul_comm a b, mul_assoc]
theorem mul_one (a : F8) : a * 1 = a := ext (GF.gm_one a.h)
theorem one_mul (a : F8) : 1 * a = a := ext (GF.one_gm a.h)
theorem mul_zero (a : F8) : a * 0 = 0 := ext (GF.gm_zero _)
theorem zero_mul (a : F8) : 0 * a = 0 := ext (GF.zero_gm a.n)
theorem mul_add (a b c : F8) : a * (b + c) = a * b + a * c := ext (GF.gm_add a.h b.h c.h)
theorem add_mul (a b c : F8) : (a + b) * c = a * c + b * c := ext (GF.add_gm a.h b.h c.h)
theorem mul_eq_zero {a b : F8} : a * b = 0 ↔ a = 0 ∨ b = 0 := by
 rw [← n_eq_zero, ← n_eq_zero, ← n_eq_zero, n_mul, GF.gm_eq_zero]
theorem mul_ne_zero {a b : F8} (ha : a ≠ 0) (hb : b ≠ 0) : a * b ≠ 0 := fun h => (mul_eq_zero.1 h).elim ha hb
theorem one_ne_zero : (1 : F8) ≠ 0 := by decide
theorem div_mul {b : F8} (a : F8) (hb : b ≠ 0) : a / b * b = a := ext (GF.gm_gq a.h b.h (n_ne_zero.2 hb))
theorem mul_div' {b : F8} (a : F8) (hb : b ≠ 0) : b * (a / b) = a := by rw [mul_comm, div_mul a hb]
instance : Std.Associative (α := F8) (· + ·) := ⟨add_assoc⟩
instance : Std.Commutative (α := F8) (· + ·) := ⟨add_comm⟩
instance : Std.Associative (α := F8) (· * ·) := ⟨mul_assoc⟩
instance : Std.Commutative (α := F8) (· * ·) := ⟨mul_comm⟩
def bs (l : List F8) : List Nat := l.map F8.n
theorem bs_lt (l : List F8) : ∀ c ∈ bs l, c < 256 := by
 intro c hc; obtain ⟨x, _, rfl⟩ := List.mem_map.1 hc; exact x.h
theorem bs_length (l : List F8) : (bs l).length = l.length := by simp [bs]
theorem bs_append (a b : List F8) : bs (a ++ b) = bs a ++ bs b := by simp [bs]
theorem bs_inj {a b : List F8} : bs a = bs b ↔ a = b := by
 constructor
 ·intro h
  induction a generalizing b with
  | nil => cases b with
   | nil => rfl
   | cons y b => simp [bs] at h
  | cons x a ih => cases b with
   | nil => simp [bs] at h
   | cons y b =>
    simp only [bs, List.map_cons, List.cons.injEq] at h
    rw [ext h.1, ih h.2]
 ·intro h; rw [h]
theorem of_bytes (l : List Nat) (h : ∀ c ∈ l, c < 256) : ∃ p : List F8, l = bs p := by
 induction l with
 | nil => exact ⟨[], rfl⟩
 | cons x l ih =>
  obtain ⟨p, rfl⟩ := ih (fun c hc => h c (by simp [hc]))
  exact ⟨⟨x, h x (by simp)⟩ :: p, rfl⟩
end F8
end Go.Proofs.YtjoghbmedfmioabGreat

namespace Go.Proofs.YtjoghbmedfmioabGreat.Poly
open F8
def coef (p : List F8) (i : Nat) : F8 := p.getD i 0
theorem coef_nil (i : Nat) : coef [] i = 0 := by simp [coef]
theorem coef_cons_zero (a : F8) (p : List F8) : coef (a :: p) 0 = a := rfl
theorem coef_cons_succ (a : F8) (p : List F8) (i : Nat) : coef (a :: p) (i + 1) = coef p i := rfl
theorem coef_of_le {p : List F8} {i : Nat} (h : p.length ≤ i) : coef p i = 0 := by
 unfold coef; rw [List.getD_eq_getElem?_getD, List.getElem?_eq_none h]; rfl
theorem coef_of_lt {p : List F8} {i : Nat} (h : i < p.length) : coef p i = p[i] := by
 unfold coef; rw [List.getD_eq_getElem?_getD, List.getElem?_eq_getElem h]; rfl
def Eqv (p q : List F8) : Prop := ∀ i, coef p i = coef q i
theorem Eqv.refl (p : List F8) : Eqv p p := fun _ => rfl
theorem Eqv.symm {p q : List F8} (h : Eqv p q) : Eqv q p := fun i => (h i).symm
theorem Eqv.trans {p q r : List F8} (h : Eqv p q) (k : Eqv q r) : Eqv p r := fun i => (h i).trans (k i)
theorem Eqv.cons {p q : List F8} (a : F8) (h : Eqv p q) : Eqv (a :: p) (a :: q) := fun i => by
 cases i with
 | zero => rfl
 | succ i => exact h i
theorem Eqv.tail {a b : F8} {p q : List F8} (h : Eqv (a :: p) (b :: q)) : a = b ∧ Eqv p q := ⟨h 0, fun i => h (i + 1)⟩
theorem eqv_nil_cons {a : F8} {p : List F8} : Eqv (a :: p) [] ↔ a = 0 ∧ Eqv p [] :=
 ⟨fun h => ⟨by have := h 0; rwa [coef_nil] at this, fun i => by have := h (i + 1); rw [coef_nil] at this; rw [coef_nil]; exact this⟩, fun ⟨h1, h2⟩ i => by
  cases i with
  | zero => rw [coef_nil]; exact h1
  | succ i => rw [coef_nil]; have := h2 i; rw [coef_nil] at this; exact this⟩
def trim : List F8 → List F8
 | [] => []
 | a :: l => match trim l with
  | [] => if a = 0 then [] else [a]
  | b :: t => a :: b :: t
theorem trim_nil : trim [] = [] := rfl
theorem trim_cons_of {a : F8} {l : List F8} (h : trim l = []) : trim (a :: l) = if a = 0 then [] else [a] := by simp only [trim]; rw [h]
theorem trim_cons_ne {a : F8} {l : List F8} (h : trim l ≠ []) : trim (a :: l) = a :: trim l := by
 simp only [trim]
 cases hl : trim l with
 | nil => exact absurd hl h
 | cons b t => rfl
theorem trim_eqv (p : List F8) : Eqv (trim p) p := by
 induction p with
 | nil => exact Eqv.refl _
 | cons a l ih =>
  by_cases h : trim l = []
  ·rw [trim_cons_of h]
   rw [h] at ih
   by_cases a0 : a = 0
   ·rw [if_pos a0]; exact (eqv_nil_cons.2 ⟨a0, ih.symm⟩).symm
   ·rw [if_neg a0]; exact ih.cons a
  ·rw [trim_cons_ne h]; exact ih.cons a
theorem trim_nil_iff {p : List F8} : trim p = [] ↔ Eqv p [] := by
 induction p with
 | nil => exact ⟨fun _ => Eqv.refl _, fun _ => rfl⟩
 | cons a l ih =>
  rw [eqv_nil_cons, ← ih]
  by_cases h : trim l = []
  ·rw [trim_cons_of h]
   by_cases a0 : a = 0 <;> simp [a0, h]
  ·rw [trim_cons_ne h]; simp [h]
theorem trim_congr {p q : List F8} (h : Eqv p q) : trim p = trim q := by
 induction p generalizing q with
 | nil => exact ((trim_nil_iff).2 h.symm).symm
 | cons a l ih =>
  cases q with
  | nil => exact trim_nil_iff.2 h
  | cons b m =>
   obtain ⟨rfl, h2⟩ := h.tail
   simp only [trim]; rw [ih h2]
theorem trim_trim (p : List F8) : trim (trim p) = trim p := trim_congr (trim_eqv p)
def len (p : List F8) : Nat := (trim p).length
theorem len_congr {p q : List F8} (h : Eqv p q) : len p = len q := by unfold len; rw [trim_congr h]
theorem len_trim (p : List F8) : len (trim p) = len p := len_congr (trim_eqv p)
theorem len_le (p : List F8) : len p ≤ p.length := by
 unfold len
 induction p with
 | nil => simp [trim]
 | cons a l ih =>
  by_cases h : trim l = []
  ·rw [trim_cons_of h]; split <;> simp
  ·rw [trim_cons_ne h]; simp; exact ih
def Bdd (p : List F8) (n : Nat) : Prop := ∀ i, n ≤ i → coef p i = 0
theorem Bdd.mono {p : List F8} {n m : Nat} (h : Bdd p n) (hm : n ≤ m) : Bdd p m := fun i hi => h i (Nat.le_trans hm hi)
theorem Bdd.congr {p q : List F8} {n : Nat} (h : Bdd p n) (he : Eqv p q) : Bdd q n := fun i hi => by rw [← he i]; exact h i hi
theorem bdd_length (p : List F8) : Bdd p p.length := fun _ hi => coef_of_le hi
theorem bdd_len (p : List F8) : Bdd p (len p) := (bdd_length (trim p)).congr (trim_eqv p)
theorem bdd_zero {p : List F8} : Bdd p 0 ↔ Eqv p [] := ⟨fun h i => by rw [coef_nil]; exact h i (Nat.zero_le _), fun h i _ => by rw [h i, coef_nil]⟩
theorem trim_last (p : List F8) : trim p = [] ∨ ∃ l a, trim p = l ++ [a] ∧ a ≠ 0 := by
 induction p with
 | nil => exact .inl rfl
 | cons a l ih =>
  by_cases h : trim l = []
  ·rw [trim_cons_of h]
   by_cases a0 : a = 0
   ·exact .inl (if_pos a0)
   ·exact .inr ⟨[], a, by rw [if_neg a0]; rfl, a0⟩
  ·rcases ih with ih | ⟨m, b, h1, h2⟩
   ·exact absurd ih h
   ·exact .inr ⟨a :: m, b, by rw [trim_cons_ne h, h1]; rfl, h2⟩
theorem lead {p : List F8} (h : 0 < len p) : coef p (len p - 1) ≠ 0 := by
 rcases trim_last p with h0 | ⟨l, a, h1, h2⟩
 ·unfold len at h; rw [h0] at h; simp at h
 ·rw [← trim_eqv p (len p - 1)]
  unfold len
  rw [h1, coef_of_lt (by simp)]
  simpa using h2
theorem len_le_of_bdd {p : List F8} {n : Nat} (h : Bdd p n) : len p ≤ n := by
 rcases Nat.lt_or_ge n (len p) with hlt | hge
 ·exact absurd (h (len p - 1) (by omega)) (lead (by omega))
 ·exact hge
theorem bdd_iff {p : List F8} {n : Nat} : Bdd p n ↔ len p ≤ n := ⟨len_le_of_bdd, fun h => (bdd_len p).mono h⟩
theorem len_zero {p : List F8} : len p = 0 ↔ Eqv p [] := by unfold len; rw [List.length_eq_zero_iff, trim_nil_iff]
theorem trim_snoc (l : List F8) (a : F8) (ha : a ≠ 0) : trim (l ++ [a]) = l ++ [a] := by
 induction l with
 | nil => show trim [a] = [a]; rw [trim_cons_of trim_nil, if_neg ha]
 | cons b l ih => rw [List.cons_append, trim_cons_ne (by rw [ih]; simp), ih]
theorem trim_take (p : List F8) (n : Nat) (hn : n ≤ p.length) (h0 : ∀ i, n ≤ i → i < p.length → coef p i = 0) (h1 : n = 0 ∨ coef p (n - 1) ≠ 0) : trim p = p.take n := by
 have he : Eqv p (p.take n) := fun i => by
  rcases Nat.lt_or_ge i n with hi | hi
  ·rw [coef_of_lt (by omega), coef_of_lt (by rw [List.length_take]; omega), List.getElem_take]
  ·rw [coef_of_le (p := p.take n) (by rw [List.length_take]; omega)]
   rcases Nat.lt_or_ge i p.length with h | h
   ·exact h0 i hi h
   ·exact coef_of_le h
 rw [trim_congr he]
 cases n with
 | zero => simp [trim]
 | succ n =>
  have hl : coef p n ≠ 0 := by rcases h1 with h | h; cases h; exact h
  rw [List.take_succ_eq_append_getElem (by omega)]
  exact trim_snoc _ _ (by rw [← coef_of_lt]; exact hl)
def padd : List F8 → List F8 → List F8
 | [], q => q
 | p, [] => p
 | a :: p, b :: q => (a + b) :: padd p q
theorem padd_nil (p : List F8) : padd p [] = p := by cases p <;> rfl
theorem nil_padd (p : List F8) : padd [] p = p := by cases p <;> rfl
theorem coef_padd (p q : List F8) (i : Nat) : coef (padd p q) i = coef p i + coef q i := by
 induction p generalizing q i with
 | nil => rw [nil_padd, coef_nil, zero_add]
 | cons a p ih =>
  cases q with
  | nil => rw [padd_nil, coef_nil, add_zero]
  | cons b q =>
   cases i with
   | zero => rfl
   | succ i => exact ih q i
theorem padd_length (p q : List F8) : (padd p q).length = max p.length q.length := by
 induction p generalizing q with
 | nil => rw [nil_padd]; simp
 | cons a p ih =>
  cases q with
  | nil => rw [padd_nil]; simp
  | cons b q => simp only [padd, List.length_cons, ih]; omega
theorem padd_congr {p p' q q' : List F8} (h : Eqv p p') (k : Eqv q q') : Eqv (padd p q) (padd p' q') := fun i => by rw [coef_padd, coef_padd, h i, k i]
theorem bdd_padd {p q : List F8} {n : Nat} (h : Bdd p n) (k : Bdd q n) : Bdd (padd p q) n := fun i hi => by rw [coef_padd, h i hi, k i hi, add_zero]
def scale (c : F8) (p : List F8) : List F8 := p.map (c * ·)
theorem coef_scale (c : F8) (p : List F8) (i : Nat) : coef (scale c p) i = c * coef p i := by
 unfold coef scale
 rw [List.getD_eq_getElem?_getD, List.getD_eq_getElem?_getD, List.getElem?_map]
 cases p[i]? with
 | none => exact (mul_zero c).symm
 | some x => rfl
def pmul : List F8 → List F8 → List F8
 | [], _ => []
 | a :: p, q => padd (scale a q) (0 :: pmul p q)
theorem coef_shift (p : List F8) (i : Nat) : coef (0 :: p) i = if i = 0 then 0 else coef p (i - 1) := by
 cases i with
 | zero => rfl
 | succ i => rfl
theorem coef_pmul_nil (q : List F8) (i : Nat) : coef (pmul [] q) i = 0 := coef_nil i
theorem coef_pmul_cons (a : F8) (p q : List F8) (i : Nat) : coef (pmul (a :: p) q) i = a * coef q i + if i = 0 then 0 else coef (pmul p q) (i - 1) := by
 show coef (padd (scale a q) (0 :: pmul p q)) i = _
 rw [coef_padd, coef_scale, coef_shift]
theorem pmul_congr_right (p : List F8) {q q' : List F8} (h : Eqv q q') : Eqv (pmul p q) (pmul p q') := by
 induction p with
 | nil => exact Eqv.refl _
 | cons a p ih => intro i; rw [coef_pmul_cons, coef_pmul_cons, h i, ih (i - 1)]
theorem pmul_zero_left {p : List F8} (q : List F8) (h : Eqv p []) : Eqv (pmul p q) [] := by
 induction p with
 | nil => exact Eqv.refl _
 | cons a p ih =>
  obtain ⟨h1, h2⟩ := eqv_nil_cons.1 h
  intro i; rw [coef_pmul_cons, h1, zero_mul, zero_add, ih h2 (i - 1), coef_nil, coef_nil]; split <;> rfl
theorem pmul_congr_left {p p' : List F8} (q : List F8) (h : Eqv p p') : Eqv (pmul p q) (pmul p' q) := by
 induction p generalizing p' with
 | nil => exact (pmul_zero_left q h.symm).symm
 | cons a p ih =>
  cases p' with
  | nil => exact pmul_zero_left q h
  | cons b p' =>
   obtain ⟨rfl, h2⟩ := h.tail
   intro i; rw [coef_pmul_cons, coef_pmul_cons, ih h2 (i - 1)]
theorem pmul_congr {p p' q q' : List F8} (h : Eqv p p') (k : Eqv q q') : Eqv (pmul p q) (pmul p' q') := (pmul_congr_left q h).trans (pmul_congr_right p' k)
theorem pmul_nil (p : List F8) : Eqv (pmul p []) [] := by
 induction p with
 | nil => exact Eqv.refl _
 | cons a p ih => intro i; rw [coef_pmul_cons, coef_nil, mul_zero, zero_add, ih (i - 1), coef_nil]; split <;> rfl
theorem pmul_cons_right (p : List F8) (b : F8) (q : List F8) (i : Nat) : coef (pmul p (b :: q)) i = b * coef p i + if i = 0 then 0 else coef (pmul p q) (i - 1) := by
 induction p generalizing i with
 | nil => rw [coef_pmul_nil, coef_nil, mul_zero, zero_add]; split; rfl; exact (coef_pmul_nil q _).symm
 | cons a p ih =>
  rw [coef_pmul_cons, coef_pmul_cons]
  cases i with
  | zero => rw [if_pos rfl, if_pos rfl, coef_cons_zero, coef_cons_zero, F8.mul_comm]
  | succ i =>
   rw [if_neg (by omega), if_neg (by omega), coef_cons_succ, coef_cons_succ, Nat.add_sub_cancel, ih i, ← F8.add_assoc, F8.add_comm (a * _), F8.add_assoc]
theorem pmul_comm (p q : List F8) : Eqv (pmul p q) (pmul q p) := by
 induction p with
 | nil => intro i; rw [pmul_nil q i, coef_pmul_nil, coef_nil]
 | cons a p ih => intro i; rw [coef_pmul_cons, pmul_cons_right, ih (i - 1)]
theorem pmul_padd (p q r : List F8) : Eqv (pmul p (padd q r)) (padd (pmul p q) (pmul p r)) := by
 induction p with
 | nil => intro i; rw [coef_padd, coef_pmul_nil, coef_pmul_nil, coef_pmul_nil, add_zero]
 | cons a p ih =>
  intro i
  rw [coef_padd, coef_pmul_cons, coef_pmul_cons, coef_pmul_cons, coef_padd, mul_add, ih (i - 1), coef_padd]
  split
  ·rw [add_zero, add_zero, add_zero]
  ·ac_rfl
theorem padd_pmul (p q r : List F8) : Eqv (pmul (padd p q) r) (padd (pmul p r) (pmul q r)) :=
 (pmul_comm _ _).trans ((pmul_padd r p q).trans (padd_congr (pmul_comm _ _) (pmul_comm _ _)))
theorem pmul_scale (a : F8) (p q : List F8) : Eqv (pmul (scale a p) q) (scale a (pmul p q)) := by
 induction p with
 | nil => exact Eqv.refl _
 | cons b p ih =>
  intro i
  show coef (pmul (a * b :: scale a p) q) i = _
  rw [coef_pmul_cons, coef_scale, coef_pmul_cons, ih (i - 1), coef_scale, mul_add, F8.mul_assoc]
  split
  ·rw [mul_zero]
  ·rfl
theorem pmul_shift (p q : List F8) : Eqv (pmul (0 :: p) q) (0 :: pmul p q) := fun i => by rw [coef_pmul_cons, zero_mul, zero_add, coef_shift]
theorem pmul_assoc (p q r : List F8) : Eqv (pmul (pmul p q) r) (pmul p (pmul q r)) := by
 induction p with
 | nil => exact Eqv.refl _
 | cons a p ih =>
  refine (padd_pmul _ _ r).trans ?_
  exact padd_congr (pmul_scale a q r) ((pmul_shift _ r).trans (ih.cons 0))
theorem pmul_one (p : List F8) : Eqv (pmul p [1]) p := fun i => by
 rw [pmul_cons_right, one_mul, pmul_nil p (i - 1), coef_nil]; split <;> rw [add_zero]
theorem one_pmul (p : List F8) : Eqv (pmul [1] p) p := (pmul_comm _ _).trans (pmul_one p)
theorem bdd_pmul {p q : List F8} {m n : Nat} (h : Bdd p m) (k : Bdd q n) : ∀ i, m + n ≤ i + 1 → coef (pmul p q) i = 0 := by
 induction p generalizing m with
 | nil => intro i _; exact coef_pmul_nil q i
 | cons a p ih =>
  intro i hi
  cases m with
  | zero => rw [pmul_zero_left q (bdd_zero.1 h) i, coef_nil]
  | succ m =>
   have h2 : Bdd p m := fun j hj => h (j + 1) (by omega)
   rw [coef_pmul_cons, k i (by omega), mul_zero, zero_add]
   split
   ·rfl
   ·exact ih h2 (i - 1) (by omega)
theorem lead_pmul {p q : List F8} {m n : Nat} (h : Bdd p (m + 1)) (k : Bdd q (n + 1)) : coef (pmul p q) (m + n) = coef p m * coef q n := by
 induction p generalizing m with
 | nil => rw [coef_pmul_nil, coef_nil, zero_mul]
 | cons a p ih =>
  rw [coef_pmul_cons]
  cases m with
  | zero =>
   rw [coef_cons_zero, Nat.zero_add]
   have h2 : Bdd p 0 := fun j hj => h (j + 1) (by omega)
   split
   ·rw [add_zero]
   ·rw [pmul_zero_left q (bdd_zero.1 h2) (n - 1), coef_nil, add_zero]
  | succ m =>
   have h2 : Bdd p (m + 1) := fun j hj => h (j + 1) (by omega)
   rw [k (m + 1 + n) (by omega), mul_zero, zero_add, if_neg (by omega), coef_cons_succ, show m + 1 + n - 1 = m + n by omega, ih h2]
theorem len_pmul {p q : List F8} (hp : 0 < len p) (hq : 0 < len q) : len (pmul p q) = len p + len q - 1 := by
 have h1 := lead_pmul (m := len p - 1) (n := len q - 1) (p := p) (q := q) ((bdd_len p).mono (by omega)) ((bdd_len q).mono (by omega))
 have h2 : coef (pmul p q) (len p - 1 + (len q - 1)) ≠ 0 := by rw [h1]; exact mul_ne_zero (lead hp) (lead hq)
 have h3 : len (pmul p q) ≤ len p + len q - 1 := len_le_of_bdd (fun i hi => bdd_pmul (bdd_len p) (bdd_len q) i (by omega))
 rcases Nat.lt_or_ge (len p - 1 + (len q - 1)) (len (pmul p q)) with h | h
 ·omega
 ·exact absurd (bdd_len (pmul p q) _ h) h2
def eval : List F8 → F8 → F8
 | [], _ => 0
 | a :: p, x => a + x * eval p x
theorem eval_zero {p : List F8} (x : F8) (h : Eqv p []) : eval p x = 0 := by
 induction p with
 | nil => rfl
 | cons a p ih =>
  obtain ⟨h1, h2⟩ := eqv_nil_cons.1 h
  show a + x * eval p x = 0
  rw [h1, ih h2, mul_zero, add_zero]
theorem eval_congr {p q : List F8} (x : F8) (h : Eqv p q) : eval p x = eval q x := by
 induction p generalizing q with
 | nil => exact (eval_zero x h.symm).symm
 | cons a p ih =>
  cases q with
  | nil => exact eval_zero x h
  | cons b q =>
   obtain ⟨rfl, h2⟩ := h.tail
   show a + x * eval p x = a + x * eval q x
   rw [ih h2]
theorem eval_padd (p q : List F8) (x : F8) : eval (padd p q) x = eval p x + eval q x := by
 induction p generalizing q with
 | nil => rw [nil_padd]; exact (zero_add _).symm
 | cons a p ih =>
  cases q with
  | nil => rw [padd_nil]; exact (add_zero _).symm
  | cons b q =>
   show (a + b) + x * eval (padd p q) x = (a + x * eval p x) + (b + x * eval q x)
   rw [ih, mul_add]; ac_rfl
theorem eval_scale (c : F8) (p : List F8) (x : F8) : eval (scale c p) x = c * eval p x := by
 induction p with
 | nil => exact (mul_zero c).symm
 | cons a p ih =>
  show c * a + x * eval (scale c p) x = c * (a + x * eval p x)
  rw [ih, mul_add, F8.mul_left_comm]
theorem eval_pmul (p q : List F8) (x : F8) : eval (pmul p q) x = eval p x * eval q x := by
 induction p with
 | nil => exact (zero_mul _).symm
 | cons a p ih =>
  show eval (padd (scale a q) (0 :: pmul p q)) x = (a + x * eval p x) * eval q x
  rw [eval_padd, eval_scale]
  show _ + (0 + x * eval (pmul p q) x) = _
  rw [ih, zero_add, add_mul, F8.mul_assoc]
theorem eval_trim (p : List F8) (x : F8) : eval (trim p) x = eval p x := eval_congr x (trim_eqv p)
def xpow (x : F8) : Nat → F8
 | 0 => 1
 | n + 1 => x * xpow x n
theorem eval_snoc (p : List F8) (a x : F8) : eval (p ++ [a]) x = eval p x + a * xpow x p.length := by
 induction p with
 | nil => show a + x * 0 = 0 + a * 1; rw [mul_zero, add_zero, mul_one, zero_add]
 | cons b p ih =>
  show b + x * eval (p ++ [a]) x = b + x * eval p x + a * (x * xpow x p.length)
  rw [ih, mul_add, F8.add_assoc, F8.mul_left_comm]
def synth (x : F8) : List F8 → List F8
 | [] => []
 | _ :: p => eval p x :: synth x p
theorem synth_eqv (x : F8) (p : List F8) : Eqv p (padd [eval p x] (pmul [x, 1] (synth x p))) := by
 induction p with
 | nil =>
  intro i
  have h : coef (pmul [x, 1] []) i = coef [] i := pmul_nil [x, 1] i
  show coef [] i = coef (padd [0] (pmul [x, 1] [])) i
  rw [coef_padd, h, coef_nil, add_zero]; cases i <;> rfl
 | cons a p ih =>
  intro i
  rw [coef_padd, coef_pmul_cons, coef_pmul_cons, coef_pmul_nil]
  show _ = _ + (x * coef (eval p x :: synth x p) i + if i = 0 then 0 else 1 * coef (eval p x :: synth x p) (i - 1) + if i - 1 = 0 then 0 else 0)
  cases i with
  | zero =>
   show a = (a + x * eval p x) + (x * eval p x + 0)
   rw [add_zero, add_add_self]
  | succ i =>
   rw [if_neg (by omega), coef_cons_succ, coef_cons_succ, coef_cons_succ, coef_nil, zero_add, Nat.add_sub_cancel, one_mul]
   have h := ih i
   rw [coef_padd, coef_pmul_cons, coef_pmul_cons, coef_pmul_nil] at h
   rw [h]
   cases i with
   | zero =>
    show eval p x + (x * coef (synth x p) 0 + 0) = x * coef (synth x p) 0 + (eval p x + 0)
    rw [add_zero, add_zero, F8.add_comm]
   | succ i =>
    show 0 + (x * coef (synth x p) (i + 1) + (1 * coef (synth x p) i + (if i = 0 then 0 else 0))) = x * coef (synth x p) (i + 1) + (coef (synth x p) i + 0)
    rw [zero_add, one_mul]; congr 2; split <;> rfl
theorem synth_bdd (x : F8) (p : List F8) (n : Nat) (h : Bdd p (n + 1)) : Bdd (synth x p) n := by
 induction p generalizing n with
 | nil => exact fun i _ => coef_nil i
 | cons a p ih =>
  have h2 : Bdd p n := fun j hj => h (j + 1) (by omega)
  intro i hi
  cases n with
  | zero =>
   have h3 := bdd_zero.1 h2
   cases i with
   | zero => exact eval_zero x h3
   | succ i => exact ih 0 (h2.mono (by omega)) i (by omega)
  | succ n =>
   cases i with
   | zero => omega
   | succ i => exact ih n h2 i (by omega)
theorem eval_root (x y : F8) : eval [x, 1] y = x + y := by
 show x + y * (1 + y * 0) = x + y
 rw [mul_zero, add_zero, mul_one]
theorem zero_of_roots (n : Nat) (p : List F8) (xs : List F8) (hb : Bdd p n) (hl : xs.length = n) (hn : xs.Nodup) (hx : ∀ x ∈ xs, eval p x = 0) : Eqv p [] := by
 induction n generalizing p xs with
 | zero => exact bdd_zero.1 hb
 | succ n ih =>
  cases xs with
  | nil => cases hl
  | cons x xs =>
   have h0 := hx x (by simp)
   have he := synth_eqv x p
   rw [h0] at he
   have he2 : Eqv p (pmul [x, 1] (synth x p)) := he.trans (fun i => by rw [coef_padd]; cases i <;> (first | exact zero_add _ | (rw [coef_cons_succ, coef_nil]; exact zero_add _)))
   have hs : Eqv (synth x p) [] := by
    refine ih (synth x p) xs (synth_bdd x p n hb) (by simpa using hl) (List.nodup_cons.1 hn).2 (fun y hy => ?_)
    have hy0 := hx y (by simp [hy])
    rw [eval_congr y he2, eval_pmul, eval_root, mul_eq_zero] at hy0
    rcases hy0 with h | h
    ·exact absurd (add_eq_zero.1 h ▸ hy) (List.nodup_cons.1 hn).1
    ·exact h
   exact he2.trans ((pmul_congr_right _ hs).trans (pmul_nil _))
theorem only {n : Nat} {p q : List F8} {xs : List F8} (hp : Bdd p n) (hq : Bdd q n) (hl : n ≤ xs.length) (hn : xs.Nodup) (h : ∀ x ∈ xs, eval p x = eval q x) : Eqv p q := by
 have hz := zero_of_roots xs.length (padd p q) xs (bdd_padd (hp.mono hl) (hq.mono hl)) rfl hn (fun x hx => by rw [eval_padd, h x hx, add_self])
 intro i
 have := hz i
 rw [coef_padd, coef_nil, add_eq_zero] at this
 exact this
def roots : List F8 → List F8
 | [] => [1]
 | x :: xs => pmul [x, 1] (roots xs)
theorem eval_roots (xs : List F8) (y : F8) : eval (roots xs) y = 0 ↔ y ∈ xs := by
 induction xs with
 | nil =>
  have : eval (roots []) y = 1 := by show 1 + y * 0 = 1; rw [mul_zero, add_zero]
  rw [this]; simp [one_ne_zero]
 | cons x xs ih =>
  show eval (pmul [x, 1] (roots xs)) y = 0 ↔ _
  rw [eval_pmul, eval_root, mul_eq_zero, ih, add_eq_zero, List.mem_cons, eq_comm]
theorem len_lin (x : F8) : len [x, 1] = 2 := by
 unfold len; rw [show [x, 1] = [x] ++ [1] from rfl, trim_snoc _ _ one_ne_zero]; rfl
theorem len_one : len [1] = 1 := by unfold len; rw [show ([1] : List F8) = [] ++ [1] from rfl, trim_snoc _ _ one_ne_zero]; rfl
theorem len_roots (xs : List F8) : len (roots xs) = xs.length + 1 := by
 induction xs with
 | nil => exact len_one
 | cons x xs ih =>
  show len (pmul [x, 1] (roots xs)) = _
  rw [len_pmul (by rw [len_lin]; omega) (by rw [ih]; omega), len_lin, ih, List.length_cons]; omega
theorem roots_snoc (xs : List F8) (x : F8) : Eqv (roots (xs ++ [x])) (pmul (roots xs) [x, 1]) := by
 induction xs with
 | nil => exact (pmul_one _).trans (one_pmul _).symm
 | cons y xs ih =>
  show Eqv (pmul [y, 1] (roots (xs ++ [x]))) (pmul (pmul [y, 1] (roots xs)) [x, 1])
  exact (pmul_congr_right _ ih).trans (pmul_assoc _ _ _).symm
def mono (n : Nat) (c : F8) : List F8 := List.replicate n 0 ++ [c]
theorem coef_mono (n : Nat) (c : F8) (i : Nat) : coef (mono n c) i = if i = n then c else 0 := by
 induction n generalizing i with
 | zero => cases i with
  | zero => rfl
  | succ i => rw [if_neg (by omega)]; exact coef_nil i
 | succ n ih =>
  show coef (0 :: mono n c) i = _
  rw [coef_shift]
  cases i with
  | zero => rfl
  | succ i => rw [if_neg (by omega), Nat.add_sub_cancel, ih]; by_cases h : i = n <;> simp [h]
theorem mono_succ (n : Nat) (c : F8) : mono (n + 1) c = 0 :: mono n c := rfl
theorem coef_mono_pmul (n : Nat) (c : F8) (p : List F8) (i : Nat) : coef (pmul (mono n c) p) i = if i < n then 0 else c * coef p (i - n) := by
 induction n generalizing i with
 | zero =>
  show coef (pmul [c] p) i = _
  rw [coef_pmul_cons, coef_pmul_nil, if_neg (Nat.not_lt_zero i), Nat.sub_zero]; split <;> rw [add_zero]
 | succ n ih =>
  rw [mono_succ, pmul_shift (mono n c) p i, coef_shift]
  cases i with
  | zero => rw [if_pos rfl, if_pos (by omega)]
  | succ i =>
   rw [if_neg (by omega), Nat.add_sub_cancel, ih]
   by_cases h : i < n
   ·rw [if_pos h, if_pos (by omega)]
   ·rw [if_neg h, if_neg (by omega), show i + 1 - (n + 1) = i - n by omega]
theorem pmul_snoc (l : List F8) (a : F8) (q : List F8) : Eqv (pmul (l ++ [a]) q) (padd (pmul l q) (List.replicate l.length 0 ++ scale a q)) := by
 induction l with
 | nil =>
  intro i
  show coef (pmul [a] q) i = coef (padd [] (scale a q)) i
  rw [coef_pmul_cons, coef_pmul_nil, nil_padd, coef_scale]; split <;> rw [add_zero]
 | cons b l ih =>
  intro i
  show coef (pmul (b :: (l ++ [a])) q) i = coef (padd (pmul (b :: l) q) (0 :: (List.replicate l.length 0 ++ scale a q))) i
  rw [coef_pmul_cons, coef_padd, coef_pmul_cons, ih (i - 1), coef_padd, coef_shift]
  split
  ·rw [add_zero, add_zero]
  ·rw [F8.add_assoc]
theorem pmul_length_le (p q : List F8) : (pmul p q).length ≤ p.length + q.length := by
 induction p with
 | nil => simp [pmul]
 | cons a p ih => simp only [pmul, padd_length, List.length_cons, scale, List.length_map]; omega
theorem scale_snoc (a : F8) (q : List F8) (k : Nat) (hk : k < q.length) : scale a (q.take (k + 1)) = scale a (q.take k) ++ [a * coef q k] := by
 rw [List.take_succ_eq_append_getElem hk, coef_of_lt hk]; unfold scale; rw [List.map_append]; rfl
theorem trim_le (p : List F8) : (trim p).length ≤ p.length := len_le p
structure DivBy (a b q r : List F8) : Prop where
 tq : trim q = q
 tr : trim r = r
 eqv : Eqv a (padd (pmul q b) r)
 lt : len r < len b
structure Thru (xs ys r : List F8) : Prop where
 tr : trim r = r
 bdd : Bdd r xs.length
 val : ∀ i (h : i < xs.length) (h' : i < ys.length), eval r xs[i] = ys[i]
theorem Thru.only {xs ys r r' : List F8} (hn : xs.Nodup) (hl : xs.length = ys.length) (h : Thru xs ys r) (h' : Thru xs ys r') : r = r' := by
 rw [← h.tr, ← h'.tr]
 refine trim_congr (Poly.only h.bdd h'.bdd (Nat.le_refl _) hn (fun x hx => ?_))
 obtain ⟨i, hi, rfl⟩ := List.getElem_of_mem hx
 rw [h.val i hi (by omega), h'.val i hi (by omega)]
end Go.Proofs.YtjoghbmedfmioabGreat.Poly

namespace Go.Proofs.YtjoghbmedfmioabGreat.Poly
open F8
theorem DivBy.len_r {a b q r : List F8} (h : DivBy a b q r) : r.length < len b := by
 have : r.length = len r := by unfold len; rw [h.tr]
 rw [this]; exact h.lt
theorem DivBy.at_root {a q r : List F8} {x : F8} (h : DivBy a [x, 1] q r) : eval a x = eval r x := by
 rw [eval_congr x h.eqv, eval_padd, eval_pmul, eval_root, add_self, mul_zero, zero_add]
theorem DivBy.rest {a q r : List F8} {x : F8} (h : DivBy a [x, 1] q r) : r = [] ∧ eval a x = 0 ∨ ∃ y, r = [y] ∧ y ≠ 0 ∧ eval a x = y := by
 have h1 := h.len_r
 rw [len_lin] at h1
 have h2 := h.at_root
 cases r with
 | nil => exact .inl ⟨rfl, h2⟩
 | cons y r =>
  cases r with
  | nil =>
   refine .inr ⟨y, rfl, fun e => ?_, ?_⟩
   ·have := h.tr
    rw [e, trim_cons_of trim_nil, if_pos rfl] at this
    cases this
   ·rw [h2]; show y + x * 0 = y; rw [mul_zero, add_zero]
  | cons z r => simp only [List.length_cons] at h1; omega
theorem roots_one (x : F8) : trim (roots [x]) = [x, 1] := by
 have : trim (roots [x]) = trim [x, 1] := trim_congr (pmul_one [x, 1])
 rw [this]; exact trim_snoc [x] 1 one_ne_zero
end Go.Proofs.YtjoghbmedfmioabGreat.Poly

namespace Go.Proofs.YtjoghbmedfmioabGreat.Rd
open F8 Poly
def word (m xs : List F8) : List F8 := xs.map (eval m)
theorem word_length (m xs : List F8) : (word m xs).length = xs.length := by simp [word]
theorem word_append (m xs ys : List F8) : word m (xs ++ ys) = word m xs ++ word m ys := by simp [word]
theorem word_congr {m m' : List F8} (h : Eqv m m') (xs : List F8) : word m xs = word m' xs := List.map_congr_left fun x _ => eval_congr x h
theorem word_get {m xs : List F8} {i : Nat} (h : i < xs.length) : coef (word m xs) i = eval m (coef xs i) := by
 rw [coef_of_lt (by rw [word_length]; exact h), coef_of_lt h]; simp [word]
def full (p : List F8) (k : Nat) : List F8 := p.take k ++ List.replicate (k - p.length) 0
theorem full_length (p : List F8) (k : Nat) : (full p k).length = k := by simp [full]; omega
theorem eqv_app (p : List F8) (n : Nat) : Eqv (p ++ List.replicate n 0) p := by
 intro i
 rcases Nat.lt_or_ge i p.length with h | h
 ·rw [coef_of_lt h, coef_of_lt (by rw [List.length_append]; omega), List.getElem_append_left h]
 ·rw [coef_of_le h]
  rcases Nat.lt_or_ge i (p ++ List.replicate n (0 : F8)).length with h2 | h2
  ·rw [coef_of_lt h2, List.getElem_append_right h, List.getElem_replicate]
  ·exact coef_of_le h2
theorem full_eqv {p : List F8} {k : Nat} (h : p.length ≤ k) : Eqv (full p k) p := by
 unfold full; rw [List.take_of_length_le h]; exact eqv_app p _
theorem full_same {p : List F8} {k : Nat} (h : p.length = k) : full p k = p := by
 unfold full; rw [List.take_of_length_le (by omega), h, Nat.sub_self]; simp
theorem eq_of_eqv {p q : List F8} (hl : p.length = q.length) (h : Eqv p q) : p = q :=
 List.ext_getElem hl fun i h1 h2 => by have := h i; rwa [coef_of_lt h1, coef_of_lt h2] at this
theorem msg_only {m m' xs : List F8} {k : Nat} (h1 : m.length = k) (h2 : m'.length = k) (hk : k ≤ xs.length) (hn : xs.Nodup) (h : word m xs = word m' xs) : m = m' := by
 refine eq_of_eqv (h1.trans h2.symm) (Poly.only (n := k) (h1 ▸ bdd_length m) (h2 ▸ bdd_length m') hk hn fun x hx => ?_)
 exact List.map_inj_left.1 h x hx
theorem split_ok {l pts ys : List F8} {k : Nat} (h1 : word l (pts.take k) = ys.take k) (h2 : word l (pts.drop k) = ys.drop k) : word l pts = ys := by
 rw [← List.take_append_drop k pts, word_append, h1, h2, List.take_append_drop]
theorem word_take {m pts ys : List F8} (k : Nat) (h : word m pts = ys) : word m (pts.take k) = ys.take k := by subst h; simp [word]
theorem word_drop {m pts ys : List F8} (k : Nat) (h : word m pts = ys) : word m (pts.drop k) = ys.drop k := by subst h; simp [word]
theorem split_no {l pts ys : List F8} {k : Nat} (hl : l.length = k) (hk : k ≤ pts.length) (hn : pts.Nodup) (h1 : word l (pts.take k) = ys.take k) (h2 : word l (pts.drop k) ≠ ys.drop k) :
  ∀ m : List F8, m.length = k → word m pts ≠ ys := fun m hm h => by
 have := msg_only hm hl (by rw [List.length_take]; omega) (hn.sublist (List.take_sublist k _)) ((word_take k h).trans h1.symm)
 subst this
 exact h2 (word_drop k h)
theorem thru_word {xs ys r : List F8} (hl : xs.length = ys.length) (h : Thru xs ys r) : word r xs = ys :=
 List.ext_getElem (by rw [word_length, hl]) fun i h1 h2 => by
  simp only [word, List.getElem_map]
  exact h.val i (by rwa [word_length] at h1) h2
theorem thru_of {m xs ys : List F8} (h : m.length ≤ xs.length) (hw : word m xs = ys) : Thru xs ys (trim m) :=
 ⟨trim_trim m, ((bdd_length m).mono h).congr (trim_eqv m).symm, fun i h1 h2 => by subst hw; rw [eval_trim]; simp [word]⟩
theorem thru_length {xs ys r : List F8} (h : Thru xs ys r) : r.length ≤ xs.length := by
 have := len_le_of_bdd h.bdd
 unfold Poly.len at this
 rwa [h.tr] at this
theorem thru_no {xs ys r : List F8} {k : Nat} (hn : xs.Nodup) (hl : xs.length = ys.length) (hk : k ≤ xs.length) (h : Thru xs ys r) (hr : k < r.length) : ∀ m : List F8, m.length = k → word m xs ≠ ys := fun m hm hw => by
 have := h.only hn hl (thru_of (by omega) hw)
 have h2 := trim_le m
 rw [this] at hr
 omega
def ptsAt (xs : List F8) (pl : List Int) : List F8 := pl.map fun i => coef xs i.toNat
theorem ptsAt_length (xs : List F8) (pl : List Int) : (ptsAt xs pl).length = pl.length := by simp [ptsAt]
def OkP (n : Nat) (pl : List Int) : Prop := (∀ i ∈ pl, 0 ≤ i ∧ i < (n : Int)) ∧ pl.Nodup
theorem ptsAt_nodup {xs : List F8} {pl : List Int} (hn : xs.Nodup) (h : OkP xs.length pl) : (ptsAt xs pl).Nodup := by
 unfold ptsAt
 refine List.nodup_iff_pairwise_ne.2 (List.pairwise_map.2 (h.2.imp_of_mem fun {a b} ha hb hne e => hne ?_))
 have h1 := h.1 a ha
 have h2 := h.1 b hb
 rw [coef_of_lt (by omega), coef_of_lt (by omega)] at e
 have := (List.getElem_inj hn).1 e
 omega
def DecIs (xs : List F8) (k : Nat) (pl : List Int) (ys l : List F8) (n : Int) : Prop :=
 (¬ (pl.length = ys.length ∧ OkP xs.length pl) ∧ l = [] ∧ n = 2) ∨
 ((pl.length = ys.length ∧ OkP xs.length pl) ∧ pl.length < k ∧ l = [] ∧ n = 70) ∨
 ((pl.length = ys.length ∧ OkP xs.length pl) ∧ k ≤ pl.length ∧ n = 0 ∧ l.length = k ∧ word l (ptsAt xs pl) = ys) ∨
 ((pl.length = ys.length ∧ OkP xs.length pl) ∧ k ≤ pl.length ∧ n = 71 ∧ l = [] ∧ ∀ m : List F8, m.length = k → word m (ptsAt xs pl) ≠ ys)
theorem DecIs.only {xs : List F8} {k : Nat} {pl : List Int} {ys l l' : List F8} {n n' : Int} (hn : xs.Nodup) (h : DecIs xs k pl ys l n) (h' : DecIs xs k pl ys l' n') : l = l' ∧ n = n' := by
 rcases h with ⟨a, h1, h2⟩ | ⟨a, b, h1, h2⟩ | ⟨a, b, h1, h2, h3⟩ | ⟨a, b, h1, h2, h3⟩ <;>
 rcases h' with ⟨a', h1', h2'⟩ | ⟨a', b', h1', h2'⟩ | ⟨a', b', h1', h2', h3'⟩ | ⟨a', b', h1', h2', h3'⟩ <;>
 first
  | exact absurd a' a
  | exact absurd a a'
  | exact absurd b (by omega)
  | exact ⟨h1.trans h1'.symm, h2.trans h2'.symm⟩
  | exact ⟨h2.trans h2'.symm, h1.trans h1'.symm⟩
  | exact absurd h3 (h3' l h2)
  | exact absurd h3' (h3 l' h2')
  | exact ⟨msg_only h2 h2' (by rw [ptsAt_length]; exact b) (ptsAt_nodup hn a.2) (h3.trans h3'.symm), h1.trans h1'.symm⟩
def encR (xs : List F8) (k : Nat) (m : List F8) : List F8 × Int := if m.length = k then (word m xs, 0) else ([], 2)
def newR (xs : List F8) (k : Int) : Int := if xs.Nodup ∧ 1 ≤ k ∧ k ≤ xs.length then 0 else 2
end Go.Proofs.YtjoghbmedfmioabGreat.Rd
