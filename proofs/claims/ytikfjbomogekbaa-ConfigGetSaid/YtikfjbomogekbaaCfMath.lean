/- Which codes are valid, and what their parameters are: plain mathematics. -/
import Derived.Test.YtikfjbomogekbaaKit
namespace Go.Proofs.Ytikfjbomogekbaa.Cf
set_option linter.unusedVariables false

/-- A code. -/
structure C where
  code : Nat
  n : Int
  k : Int
  d : Int
  r : Int
  t : Int
  w : Int
/-- A shape: Alpha, B, Tells, Asked (Told is 1). -/
structure Sh where
  a : Int
  b : Int
  s : Int
  o : Int
/-- As many points as have different powers of this exponent. -/
def lim (a : Nat) : Nat := 255 / Nat.gcd 255 a
def pairs (k : Int) : Int := k * (k - 1) / 2
def GReed (c : C) : Prop := 1 ≤ c.k ∧ c.k ≤ c.n ∧ c.d = 0 ∧ c.r = 0
def GMsr (c : C) : Prop := (2 ≤ c.k ∧ 2 * c.k ≤ c.d + 2 ∧ c.d < c.n ∧ c.d - c.k + 1 ≤ 16) ∧ c.n + (c.d - 2 * c.k + 2) ≤ lim (c.d - c.k + 1).toNat ∧ c.r = 0
def GMbr (c : C) : Prop := 1 ≤ c.k ∧ c.k ≤ c.d ∧ c.d < c.n ∧ c.r = 0
def GTr (c : C) : Prop := 1 ≤ c.k ∧ c.k < c.n ∧ c.n ≤ 23 ∧ c.t = 0 ∧ c.d = 0 ∧ c.r = 0
def GLo (c : C) : Prop := 1 ≤ c.r ∧ c.r < c.n ∧ c.n % (c.r + 1) = 0 ∧ 255 % (c.r + 1) = 0 ∧ 1 ≤ c.k ∧ c.k ≤ c.n ∧ c.k % c.r = 0 ∧ c.d = 0
instance (c : C) : Decidable (GReed c) := inferInstanceAs (Decidable (_ ∧ _))
instance (c : C) : Decidable (GMsr c) := inferInstanceAs (Decidable (_ ∧ _))
instance (c : C) : Decidable (GMbr c) := inferInstanceAs (Decidable (_ ∧ _))
instance (c : C) : Decidable (GTr c) := inferInstanceAs (Decidable (_ ∧ _))
instance (c : C) : Decidable (GLo c) := inferInstanceAs (Decidable (_ ∧ _))
/-- What a code of each kind amounts to, where N and T are within their bounds. -/
def kReed (c : C) : Option Sh := if GReed c then some ⟨1, c.k, c.k, c.k + 2 * c.t⟩ else none
def kMsr (c : C) : Option Sh := if GMsr c then some ⟨c.d - c.k + 1, c.k * (c.d - c.k + 1), c.k, c.d + 2 * c.t⟩ else none
def kMbr (c : C) : Option Sh := if GMbr c then some ⟨c.d, c.k * c.d - pairs c.k, c.k, c.d + 2 * c.t⟩ else none
def kTr (c : C) : Option Sh := if GTr c then some ⟨c.n - 1, c.k * (c.n - 1) - pairs c.k, c.k, c.n - 1⟩ else none
def kLo (c : C) : Option Sh := if GLo c then some ⟨1, c.k, c.k + c.k / c.r - 1, if c.t = 0 then c.r else c.k + c.k / c.r - 1 + 2 * c.t⟩ else none
def kind (c : C) : Option Sh :=
  if c.code = 1 then kReed c else if c.code = 2 then kMsr c else if c.code = 3 then kMbr c else if c.code = 4 then kTr c else if c.code = 5 then kLo c else none
def In (c : C) : Prop := 1 ≤ c.n ∧ c.n ≤ 255 ∧ 0 ≤ c.t ∧ c.t ≤ 127
instance (c : C) : Decidable (In c) := inferInstanceAs (Decidable (_ ∧ _))
def shp (c : C) : Option Sh := if In c then kind c else none
/-- The last conditions, of all kinds. -/
def Fit (c : C) (s : Sh) : Prop := s.s + 2 * c.t ≤ c.w ∧ c.w ≤ c.n ∧ s.o < c.n ∧ s.s + 2 * c.t < c.n
instance (c : C) (s : Sh) : Decidable (Fit c s) := inferInstanceAs (Decidable (_ ∧ _))
/-- The shape of a code, if that is valid. -/
def chk (c : C) : Option Sh := match shp c with
  | none => none
  | some s => if Fit c s then some s else none
theorem chk_some {c : C} {s : Sh} (h : chk c = some s) : In c ∧ kind c = some s ∧ Fit c s := by
  unfold chk at h
  unfold shp at h
  by_cases hi : In c
  · rw [if_pos hi] at h
    cases hk : kind c with
    | none => rw [hk] at h; cases h
    | some s' =>
      rw [hk] at h
      by_cases hf : Fit c s'
      · simp only [if_pos hf] at h
        cases h
        exact ⟨hi, rfl, hf⟩
      · simp only [if_neg hf] at h
        cases h
  · rw [if_neg hi] at h
    cases h
theorem chk_mk {c : C} {s : Sh} (hi : In c) (hk : kind c = some s) (hf : Fit c s) : chk c = some s := by
  unfold chk shp
  rw [if_pos hi, hk]
  exact if_pos hf
/-- The ways to be a code of some kind. -/
theorem kind_some {c : C} {s : Sh} (h : kind c = some s) :
    (c.code = 1 ∧ GReed c ∧ s = ⟨1, c.k, c.k, c.k + 2 * c.t⟩) ∨
    (c.code = 2 ∧ GMsr c ∧ s = ⟨c.d - c.k + 1, c.k * (c.d - c.k + 1), c.k, c.d + 2 * c.t⟩) ∨
    (c.code = 3 ∧ GMbr c ∧ s = ⟨c.d, c.k * c.d - pairs c.k, c.k, c.d + 2 * c.t⟩) ∨
    (c.code = 4 ∧ GTr c ∧ s = ⟨c.n - 1, c.k * (c.n - 1) - pairs c.k, c.k, c.n - 1⟩) ∨
    (c.code = 5 ∧ GLo c ∧ s = ⟨1, c.k, c.k + c.k / c.r - 1, if c.t = 0 then c.r else c.k + c.k / c.r - 1 + 2 * c.t⟩) := by
  unfold kind at h
  by_cases h1 : c.code = 1
  · rw [if_pos h1] at h; unfold kReed at h
    by_cases hg : GReed c
    · rw [if_pos hg] at h; exact .inl ⟨h1, hg, (Option.some.inj h).symm⟩
    · rw [if_neg hg] at h; cases h
  rw [if_neg h1] at h
  by_cases h2 : c.code = 2
  · rw [if_pos h2] at h; unfold kMsr at h
    by_cases hg : GMsr c
    · rw [if_pos hg] at h; exact .inr (.inl ⟨h2, hg, (Option.some.inj h).symm⟩)
    · rw [if_neg hg] at h; cases h
  rw [if_neg h2] at h
  by_cases h3 : c.code = 3
  · rw [if_pos h3] at h; unfold kMbr at h
    by_cases hg : GMbr c
    · rw [if_pos hg] at h; exact .inr (.inr (.inl ⟨h3, hg, (Option.some.inj h).symm⟩))
    · rw [if_neg hg] at h; cases h
  rw [if_neg h3] at h
  by_cases h4 : c.code = 4
  · rw [if_pos h4] at h; unfold kTr at h
    by_cases hg : GTr c
    · rw [if_pos hg] at h; exact .inr (.inr (.inr (.inl ⟨h4, hg, (Option.some.inj h).symm⟩)))
    · rw [if_neg hg] at h; cases h
  rw [if_neg h4] at h
  by_cases h5 : c.code = 5
  · rw [if_pos h5] at h; unfold kLo at h
    by_cases hg : GLo c
    · rw [if_pos hg] at h; exact .inr (.inr (.inr (.inr ⟨h5, hg, (Option.some.inj h).symm⟩)))
    · rw [if_neg hg] at h; cases h
  rw [if_neg h5] at h
  cases h
theorem kind1 {c : C} (h1 : c.code = 1) (hg : GReed c) : kind c = some ⟨1, c.k, c.k, c.k + 2 * c.t⟩ := by
  unfold kind kReed; rw [if_pos h1, if_pos hg]
theorem kind2 {c : C} (h1 : c.code = 2) (hg : GMsr c) : kind c = some ⟨c.d - c.k + 1, c.k * (c.d - c.k + 1), c.k, c.d + 2 * c.t⟩ := by
  unfold kind kMsr; rw [if_neg (by omega), if_pos h1, if_pos hg]
theorem kind3 {c : C} (h1 : c.code = 3) (hg : GMbr c) : kind c = some ⟨c.d, c.k * c.d - pairs c.k, c.k, c.d + 2 * c.t⟩ := by
  unfold kind kMbr; rw [if_neg (by omega), if_neg (by omega), if_pos h1, if_pos hg]
theorem kind4 {c : C} (h1 : c.code = 4) (hg : GTr c) : kind c = some ⟨c.n - 1, c.k * (c.n - 1) - pairs c.k, c.k, c.n - 1⟩ := by
  unfold kind kTr; rw [if_neg (by omega), if_neg (by omega), if_neg (by omega), if_pos h1, if_pos hg]
theorem kind5 {c : C} (h1 : c.code = 5) (hg : GLo c) : kind c = some ⟨1, c.k, c.k + c.k / c.r - 1, if c.t = 0 then c.r else c.k + c.k / c.r - 1 + 2 * c.t⟩ := by
  unfold kind kLo; rw [if_neg (by omega), if_neg (by omega), if_neg (by omega), if_neg (by omega), if_pos h1, if_pos hg]
theorem pairs_two (k : Int) : 2 * pairs k = k * (k - 1) := by
  unfold pairs
  have h : k * (k - 1) % 2 = 0 := by
    rcases (show k % 2 = 0 ∨ k % 2 = 1 by omega) with h | h
    · rw [Int.mul_emod, h]; simp
    · rw [Int.mul_emod, show (k - 1) % 2 = 0 by omega]; simp
  omega
theorem lim_le (a : Nat) : lim a ≤ 255 := Nat.div_le_self _ _
/-- All numbers of a valid code are bytes. -/
theorem chk_bytes {c : C} {s : Sh} (h : chk c = some s) : (1 ≤ c.n ∧ c.n ≤ 255) ∧ (1 ≤ c.k ∧ c.k ≤ 255) ∧ (0 ≤ c.d ∧ c.d ≤ 255) ∧ (0 ≤ c.r ∧ c.r ≤ 255) ∧ (0 ≤ c.t ∧ c.t ≤ 127) ∧ (1 ≤ c.w ∧ c.w ≤ 255) := by
  obtain ⟨hi, hk, hf⟩ := chk_some h
  unfold In at hi
  unfold Fit at hf
  rcases kind_some hk with ⟨-, hg, rfl⟩ | ⟨-, hg, rfl⟩ | ⟨-, hg, rfl⟩ | ⟨-, hg, rfl⟩ | ⟨-, hg, rfl⟩
  · unfold GReed at hg; dsimp only at hf; omega
  · unfold GMsr at hg; dsimp only at hf; omega
  · unfold GMbr at hg; dsimp only at hf; omega
  · unfold GTr at hg; dsimp only at hf; omega
  · unfold GLo at hg; dsimp only at hf
    have := Int.ediv_nonneg (show 0 ≤ c.k by omega) (show 0 ≤ c.r by omega)
    have h2 : 1 ≤ c.k / c.r := by
      have hm := Int.emod_add_mul_ediv c.k c.r
      rcases Int.lt_or_le 0 (c.k / c.r) with h3 | h3
      · omega
      · have : c.k / c.r = 0 := by omega
        rw [this] at hm
        omega
    omega
/-- A shape is of numbers above 0. -/
theorem chk_pos {c : C} {s : Sh} (h : chk c = some s) : 1 ≤ s.b ∧ 1 ≤ s.a ∧ s.b ≤ s.s * s.a ∧ 1 ≤ s.o ∧ s.o < c.n ∧ s.s + 2 * c.t ≤ c.w ∧ c.w ≤ c.n := by
  obtain ⟨hi, hk, hf⟩ := chk_some h
  unfold In at hi
  unfold Fit at hf
  rcases kind_some hk with ⟨-, hg, rfl⟩ | ⟨-, hg, rfl⟩ | ⟨-, hg, rfl⟩ | ⟨-, hg, rfl⟩ | ⟨-, hg, rfl⟩
  · unfold GReed at hg; dsimp only at hf ⊢; omega
  · unfold GMsr at hg; dsimp only at hf ⊢
    have h1 : 1 ≤ c.d - c.k + 1 := by omega
    have h2 : 1 * 1 ≤ c.k * (c.d - c.k + 1) := Int.mul_le_mul (by omega) h1 (by omega) (by omega)
    refine ⟨by omega, h1, Int.le_refl _, by omega, by omega, by omega, by omega⟩
  · unfold GMbr at hg; dsimp only at hf ⊢
    have hp := pairs_two c.k
    have h3 : c.k * (c.k - 1) ≤ c.k * c.d := Int.mul_le_mul_of_nonneg_left (by omega) (by omega)
    have h4 : 0 ≤ c.k * (c.k - 1) := Int.mul_nonneg (by omega) (by omega)
    have h5 : 1 * 1 ≤ c.k * c.d := Int.mul_le_mul (by omega) (by omega) (by omega) (by omega)
    refine ⟨?_, by omega, by omega, by omega, by omega, by omega, by omega⟩
    rcases Int.lt_or_le 1 c.k with h6 | h6
    · have h7 : c.k * (c.k - 1) + c.k * 1 ≤ c.k * c.d := by rw [← Int.mul_add]; exact Int.mul_le_mul_of_nonneg_left (by omega) (by omega)
      omega
    · have : c.k = 1 := by omega
      rw [this] at hp h3 h4 h5 ⊢
      omega
  · unfold GTr at hg; dsimp only at hf ⊢
    have hp := pairs_two c.k
    have h3 : c.k * (c.k - 1) + c.k * 1 ≤ c.k * (c.n - 1) := by rw [← Int.mul_add]; exact Int.mul_le_mul_of_nonneg_left (by omega) (by omega)
    have h4 : 0 ≤ c.k * (c.k - 1) := Int.mul_nonneg (by omega) (by omega)
    refine ⟨by omega, by omega, by omega, by omega, by omega, by omega, by omega⟩
  · unfold GLo at hg; dsimp only at hf ⊢
    have h0 := Int.ediv_nonneg (show 0 ≤ c.k by omega) (show 0 ≤ c.r by omega)
    have h2 : 1 ≤ c.k / c.r := by
      have hm := Int.emod_add_mul_ediv c.k c.r
      rcases Int.lt_or_le 0 (c.k / c.r) with h3 | h3
      · omega
      · have : c.k / c.r = 0 := by omega
        rw [this] at hm
        omega
    refine ⟨by omega, by omega, by omega, ?_, by omega, by omega, by omega⟩
    split <;> omega
/-- The sum, for i below j, of the lesser of a and d - i. -/
def cut (a d : Int) : Nat → Int
  | 0 => 0
  | j + 1 => cut a d j + min a (d - (j : Int))
theorem cut_all (a d : Int) : ∀ j : Nat, a + (j : Int) ≤ d + 1 → cut a d j = a * (j : Int)
  | 0, _ => by simp [cut]
  | j + 1, h => by
    rw [cut, cut_all a d j (by omega), Int.min_eq_left (by omega), Int.natCast_add, Int.mul_add]
    simp
theorem cut_less (a d : Int) (ha : d ≤ a) : ∀ j : Nat, cut a d j = (j : Int) * d - pairs j
  | 0 => by simp [cut, pairs]
  | j + 1 => by
    rw [cut, cut_less a d ha j, Int.min_eq_right (by omega)]
    have h1 := pairs_two (j : Int)
    have h2 := pairs_two ((j + 1 : Nat) : Int)
    rw [Int.natCast_add, Int.add_mul] at *
    have e : ((j : Int) + ((1 : Nat) : Int)) * ((j : Int) + ((1 : Nat) : Int) - 1) = (j : Int) * ((j : Int) - 1) + 2 * (j : Int) := by
      have : ((j : Int) + ((1 : Nat) : Int) - 1) = (j : Int) := by omega
      rw [this, Int.add_mul, Int.mul_sub]
      omega
    rw [← Int.add_mul, e] at h2
    omega
/-- THE CUT-SET BOUND, WITH EQUALITY. -/
theorem chk_cut {c : C} {s : Sh} (h : chk c = some s) (hc : c.code = 2 ∨ c.code = 3) : cut s.a c.d c.k.toNat = s.b := by
  obtain ⟨hi, hk, hf⟩ := chk_some h
  rcases kind_some hk with ⟨e, hg, rfl⟩ | ⟨e, hg, rfl⟩ | ⟨e, hg, rfl⟩ | ⟨e, hg, rfl⟩ | ⟨e, hg, rfl⟩
  · omega
  · unfold GMsr at hg
    dsimp only
    rw [cut_all _ _ _ (by omega), show (c.k.toNat : Int) = c.k by omega, Int.mul_comm]
  · unfold GMbr at hg
    dsimp only
    rw [cut_less _ _ (Int.le_refl _), show (c.k.toNat : Int) = c.k by omega]
  · omega
  · omega
/-- A liar less. -/
theorem chk_t {c : C} {s : Sh} (h : chk c = some s) (ht : 0 < c.t) : ∃ s', chk { c with t := c.t - 1 } = some s' ∧ s'.o ≤ s.o ∧ s'.s = s.s ∧ s'.b = s.b ∧ s'.a = s.a := by
  obtain ⟨hi, hk, hf⟩ := chk_some h
  have hi' : In { c with t := c.t - 1 } := by unfold In at hi ⊢; dsimp only; omega
  unfold Fit at hf
  rcases kind_some hk with ⟨e, hg, rfl⟩ | ⟨e, hg, rfl⟩ | ⟨e, hg, rfl⟩ | ⟨e, hg, rfl⟩ | ⟨e, hg, rfl⟩
  · refine ⟨_, chk_mk hi' (kind1 (c := { c with t := c.t - 1 }) e hg) ?_, ?_, rfl, rfl, rfl⟩
    · unfold Fit; dsimp only at hf ⊢; omega
    · dsimp only; omega
  · refine ⟨_, chk_mk hi' (kind2 (c := { c with t := c.t - 1 }) e hg) ?_, ?_, rfl, rfl, rfl⟩
    · unfold Fit; dsimp only at hf ⊢; omega
    · dsimp only; omega
  · refine ⟨_, chk_mk hi' (kind3 (c := { c with t := c.t - 1 }) e hg) ?_, ?_, rfl, rfl, rfl⟩
    · unfold Fit; dsimp only at hf ⊢; omega
    · dsimp only; omega
  · unfold GTr at hg; omega
  · have hg' := hg
    unfold GLo at hg
    dsimp only at hf
    rw [if_neg (by omega)] at hf
    have hle : c.r ≤ c.k := by
      have hm := Int.emod_add_mul_ediv c.k c.r
      rcases Int.lt_or_le 0 (c.k / c.r) with h3 | h3
      · have : c.r * 1 ≤ c.r * (c.k / c.r) := Int.mul_le_mul_of_nonneg_left (by omega) (by omega)
        omega
      · have h0 := Int.ediv_nonneg (show 0 ≤ c.k by omega) (show 0 ≤ c.r by omega)
        have : c.k / c.r = 0 := by omega
        rw [this] at hm
        omega
    have h2 : 1 ≤ c.k / c.r := by
      have hm := Int.emod_add_mul_ediv c.k c.r
      rcases Int.lt_or_le 0 (c.k / c.r) with h3 | h3
      · omega
      · have h0 := Int.ediv_nonneg (show 0 ≤ c.k by omega) (show 0 ≤ c.r by omega)
        have : c.k / c.r = 0 := by omega
        rw [this] at hm
        omega
    refine ⟨_, chk_mk hi' (kind5 (c := { c with t := c.t - 1 }) e hg') ?_, ?_, rfl, rfl, rfl⟩
    · unfold Fit; dsimp only; split <;> omega
    · dsimp only; rw [if_neg (show ¬ c.t = 0 by omega)]; split <;> omega
/-- An acknowledgement more. -/
theorem chk_w {c : C} {s : Sh} (h : chk c = some s) (hw : c.w < c.n) : chk { c with w := c.w + 1 } = some s := by
  obtain ⟨hi, hk, hf⟩ := chk_some h
  refine chk_mk (c := { c with w := c.w + 1 }) hi hk ?_
  unfold Fit at hf ⊢
  dsimp only
  omega
/-- A node more. -/
theorem chk_n {c : C} {s : Sh} (h : chk c = some s) (hn : c.n < 255) (hc : c.code = 1 ∨ c.code = 3) : chk { c with n := c.n + 1 } = some s := by
  obtain ⟨hi, hk, hf⟩ := chk_some h
  have hi' : In { c with n := c.n + 1 } := by unfold In at hi ⊢; dsimp only; omega
  rcases kind_some hk with ⟨e, hg, rfl⟩ | ⟨e, hg, rfl⟩ | ⟨e, hg, rfl⟩ | ⟨e, hg, rfl⟩ | ⟨e, hg, rfl⟩
  · refine chk_mk (c := { c with n := c.n + 1 }) hi' (kind1 (c := { c with n := c.n + 1 }) e ?_) ?_
    · unfold GReed at hg ⊢; dsimp only; omega
    · unfold Fit at hf ⊢; dsimp only at hf ⊢; omega
  · omega
  · refine chk_mk (c := { c with n := c.n + 1 }) hi' (kind3 (c := { c with n := c.n + 1 }) e ?_) ?_
    · unfold GMbr at hg ⊢; dsimp only; omega
    · unfold Fit at hf ⊢; dsimp only at hf ⊢; omega
  · omega
  · omega
end Go.Proofs.Ytikfjbomogekbaa.Cf
