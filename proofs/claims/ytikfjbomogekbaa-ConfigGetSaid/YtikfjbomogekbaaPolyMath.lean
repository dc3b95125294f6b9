/- Polynomials over the field, as lists of their coefficients from the lowest on: sums, products, values, roots, division, what goes through values. -/
import Derived.Test.YtikfjbomogekbaaF8
namespace Go.Proofs.Ytikfjbomogekbaa.Poly
open F8

def coef (p : List F8) (i : Nat) : F8 := p.getD i 0
theorem coef_nil (i : Nat) : coef [] i = 0 := by simp [coef]
theorem coef_cons_zero (a : F8) (p : List F8) : coef (a :: p) 0 = a := rfl
theorem coef_cons_succ (a : F8) (p : List F8) (i : Nat) : coef (a :: p) (i + 1) = coef p i := rfl
theorem coef_of_le {p : List F8} {i : Nat} (h : p.length ≤ i) : coef p i = 0 := by
  unfold coef; rw [List.getD_eq_getElem?_getD, List.getElem?_eq_none h]; rfl
theorem coef_of_lt {p : List F8} {i : Nat} (h : i < p.length) : coef p i = p[i] := by
  unfold coef; rw [List.getD_eq_getElem?_getD, List.getElem?_eq_getElem h]; rfl
/-- The same polynomial. -/
def Eqv (p q : List F8) : Prop := ∀ i, coef p i = coef q i
theorem Eqv.refl (p : List F8) : Eqv p p := fun _ => rfl
theorem Eqv.symm {p q : List F8} (h : Eqv p q) : Eqv q p := fun i => (h i).symm
theorem Eqv.trans {p q r : List F8} (h : Eqv p q) (k : Eqv q r) : Eqv p r := fun i => (h i).trans (k i)
theorem Eqv.cons {p q : List F8} (a : F8) (h : Eqv p q) : Eqv (a :: p) (a :: q) := fun i => by
  cases i with
  | zero => rfl
  | succ i => exact h i
theorem Eqv.tail {a b : F8} {p q : List F8} (h : Eqv (a :: p) (b :: q)) : a = b ∧ Eqv p q := ⟨h 0, fun i => h (i + 1)⟩
theorem eqv_nil_cons {a : F8} {p : List F8} : Eqv (a :: p) [] ↔ a = 0 ∧ Eqv p [] :=
  ⟨fun h => ⟨by have := h 0; rwa [coef_nil] at this, fun i => by have := h (i + 1); rw [coef_nil] at this; rw [coef_nil]; exact this⟩, fun ⟨h1, h2⟩ i => by
    cases i with
    | zero => rw [coef_nil]; exact h1
    | succ i => rw [coef_nil]; have := h2 i; rw [coef_nil] at this; exact this⟩

/-- Trimmed. -/
def trim : List F8 → List F8
  | [] => []
  | a :: l => match trim l with
    | [] => if a = 0 then [] else [a]
    | b :: t => a :: b :: t
theorem trim_nil : trim [] = [] := rfl
theorem trim_cons_of {a : F8} {l : List F8} (h : trim l = []) : trim (a :: l) = if a = 0 then [] else [a] := by simp only [trim]; rw [h]
theorem trim_cons_ne {a : F8} {l : List F8} (h : trim l ≠ []) : trim (a :: l) = a :: trim l := by
  simp only [trim]
  cases hl : trim l with
  | nil => exact absurd hl h
  | cons b t => rfl
theorem trim_eqv (p : List F8) : Eqv (trim p) p := by
  induction p with
  | nil => exact Eqv.refl _
  | cons a l ih =>
    by_cases h : trim l = []
    · rw [trim_cons_of h]
      rw [h] at ih
      by_cases a0 : a = 0
      · rw [if_pos a0]; exact (eqv_nil_cons.2 ⟨a0, ih.symm⟩).symm
      · rw [if_neg a0]; exact ih.cons a
    · rw [trim_cons_ne h]; exact ih.cons a
theorem trim_nil_iff {p : List F8} : trim p = [] ↔ Eqv p [] := by
  induction p with
  | nil => exact ⟨fun _ => Eqv.refl _, fun _ => rfl⟩
  | cons a l ih =>
    rw [eqv_nil_cons, ← ih]
    by_cases h : trim l = []
    · rw [trim_cons_of h]
      by_cases a0 : a = 0 <;> simp [a0, h]
    · rw [trim_cons_ne h]; simp [h]
theorem trim_congr {p q : List F8} (h : Eqv p q) : trim p = trim q := by
  induction p generalizing q with
  | nil => exact ((trim_nil_iff).2 h.symm).symm
  | cons a l ih =>
    cases q with
    | nil => exact trim_nil_iff.2 h
    | cons b m =>
      obtain ⟨rfl, h2⟩ := h.tail
      simp only [trim]; rw [ih h2]
theorem trim_eq_iff {p q : List F8} : trim p = trim q ↔ Eqv p q :=
  ⟨fun h => (trim_eqv p).symm.trans (by rw [h]; exact trim_eqv q), trim_congr⟩
theorem trim_trim (p : List F8) : trim (trim p) = trim p := trim_congr (trim_eqv p)
/-- How many coefficients there are: the degree, and one. -/
def len (p : List F8) : Nat := (trim p).length
theorem len_congr {p q : List F8} (h : Eqv p q) : len p = len q := by unfold len; rw [trim_congr h]
theorem len_trim (p : List F8) : len (trim p) = len p := len_congr (trim_eqv p)
theorem trim_length (p : List F8) : (trim p).length = len p := rfl
theorem len_le (p : List F8) : len p ≤ p.length := by
  unfold len
  induction p with
  | nil => simp [trim]
  | cons a l ih =>
    by_cases h : trim l = []
    · rw [trim_cons_of h]; split <;> simp
    · rw [trim_cons_ne h]; simp; exact ih
/-- All coefficients from n on are 0. -/
def Bdd (p : List F8) (n : Nat) : Prop := ∀ i, n ≤ i → coef p i = 0
theorem Bdd.mono {p : List F8} {n m : Nat} (h : Bdd p n) (hm : n ≤ m) : Bdd p m := fun i hi => h i (Nat.le_trans hm hi)
theorem Bdd.congr {p q : List F8} {n : Nat} (h : Bdd p n) (he : Eqv p q) : Bdd q n := fun i hi => by rw [← he i]; exact h i hi
theorem bdd_length (p : List F8) : Bdd p p.length := fun _ hi => coef_of_le hi
theorem bdd_len (p : List F8) : Bdd p (len p) := (bdd_length (trim p)).congr (trim_eqv p)
theorem bdd_zero {p : List F8} : Bdd p 0 ↔ Eqv p [] := ⟨fun h i => by rw [coef_nil]; exact h i (Nat.zero_le _), fun h i _ => by rw [h i, coef_nil]⟩
theorem trim_last (p : List F8) : trim p = [] ∨ ∃ l a, trim p = l ++ [a] ∧ a ≠ 0 := by
  induction p with
  | nil => exact .inl rfl
  | cons a l ih =>
    by_cases h : trim l = []
    · rw [trim_cons_of h]
      by_cases a0 : a = 0
      · exact .inl (if_pos a0)
      · exact .inr ⟨[], a, by rw [if_neg a0]; rfl, a0⟩
    · rcases ih with ih | ⟨m, b, h1, h2⟩
      · exact absurd ih h
      · exact .inr ⟨a :: m, b, by rw [trim_cons_ne h, h1]; rfl, h2⟩
theorem lead {p : List F8} (h : 0 < len p) : coef p (len p - 1) ≠ 0 := by
  rcases trim_last p with h0 | ⟨l, a, h1, h2⟩
  · unfold len at h; rw [h0] at h; simp at h
  · rw [← trim_eqv p (len p - 1)]
    unfold len
    rw [h1, coef_of_lt (by simp)]
    simpa using h2
theorem len_le_of_bdd {p : List F8} {n : Nat} (h : Bdd p n) : len p ≤ n := by
  rcases Nat.lt_or_ge n (len p) with hlt | hge
  · exact absurd (h (len p - 1) (by omega)) (lead (by omega))
  · exact hge
theorem bdd_iff {p : List F8} {n : Nat} : Bdd p n ↔ len p ≤ n := ⟨len_le_of_bdd, fun h => (bdd_len p).mono h⟩
theorem len_zero {p : List F8} : len p = 0 ↔ Eqv p [] := by unfold len; rw [List.length_eq_zero_iff, trim_nil_iff]
/-- A list without a 0 behind it is trimmed. -/
theorem trim_snoc (l : List F8) (a : F8) (ha : a ≠ 0) : trim (l ++ [a]) = l ++ [a] := by
  induction l with
  | nil => show trim [a] = [a]; rw [trim_cons_of trim_nil, if_neg ha]
  | cons b l ih => rw [List.cons_append, trim_cons_ne (by rw [ih]; simp), ih]
/-- What is cut off are noughts. -/
theorem trim_take (p : List F8) (n : Nat) (hn : n ≤ p.length) (h0 : ∀ i, n ≤ i → i < p.length → coef p i = 0) (h1 : n = 0 ∨ coef p (n - 1) ≠ 0) : trim p = p.take n := by
  have he : Eqv p (p.take n) := fun i => by
    rcases Nat.lt_or_ge i n with hi | hi
    · rw [coef_of_lt (by omega), coef_of_lt (by rw [List.length_take]; omega), List.getElem_take]
    · rw [coef_of_le (p := p.take n) (by rw [List.length_take]; omega)]
      rcases Nat.lt_or_ge i p.length with h | h
      · exact h0 i hi h
      · exact coef_of_le h
  rw [trim_congr he]
  cases n with
  | zero => simp [trim]
  | succ n =>
    have hl : coef p n ≠ 0 := by rcases h1 with h | h; cases h; exact h
    rw [List.take_succ_eq_append_getElem (by omega)]
    exact trim_snoc _ _ (by rw [← coef_of_lt]; exact hl)

/-- Sums. -/
def padd : List F8 → List F8 → List F8
  | [], q => q
  | p, [] => p
  | a :: p, b :: q => (a + b) :: padd p q
theorem padd_nil (p : List F8) : padd p [] = p := by cases p <;> rfl
theorem nil_padd (p : List F8) : padd [] p = p := by cases p <;> rfl
theorem coef_padd (p q : List F8) (i : Nat) : coef (padd p q) i = coef p i + coef q i := by
  induction p generalizing q i with
  | nil => rw [nil_padd, coef_nil, zero_add]
  | cons a p ih =>
    cases q with
    | nil => rw [padd_nil, coef_nil, add_zero]
    | cons b q =>
      cases i with
      | zero => rfl
      | succ i => exact ih q i
theorem padd_length (p q : List F8) : (padd p q).length = max p.length q.length := by
  induction p generalizing q with
  | nil => rw [nil_padd]; simp
  | cons a p ih =>
    cases q with
    | nil => rw [padd_nil]; simp
    | cons b q => simp only [padd, List.length_cons, ih]; omega
theorem padd_congr {p p' q q' : List F8} (h : Eqv p p') (k : Eqv q q') : Eqv (padd p q) (padd p' q') := fun i => by rw [coef_padd, coef_padd, h i, k i]
theorem padd_comm (p q : List F8) : Eqv (padd p q) (padd q p) := fun i => by rw [coef_padd, coef_padd, F8.add_comm]
theorem padd_assoc (p q r : List F8) : Eqv (padd (padd p q) r) (padd p (padd q r)) := fun i => by simp only [coef_padd, F8.add_assoc]
theorem padd_self (p : List F8) : Eqv (padd p p) [] := fun i => by rw [coef_padd, add_self, coef_nil]
theorem bdd_padd {p q : List F8} {n : Nat} (h : Bdd p n) (k : Bdd q n) : Bdd (padd p q) n := fun i hi => by rw [coef_padd, h i hi, k i hi, add_zero]
/-- Multiples. -/
def scale (c : F8) (p : List F8) : List F8 := p.map (c * ·)
theorem coef_scale (c : F8) (p : List F8) (i : Nat) : coef (scale c p) i = c * coef p i := by
  unfold coef scale
  rw [List.getD_eq_getElem?_getD, List.getD_eq_getElem?_getD, List.getElem?_map]
  cases p[i]? with
  | none => exact (mul_zero c).symm
  | some x => rfl
theorem scale_congr {p q : List F8} (c : F8) (h : Eqv p q) : Eqv (scale c p) (scale c q) := fun i => by rw [coef_scale, coef_scale, h i]
/-- Products. -/
def pmul : List F8 → List F8 → List F8
  | [], _ => []
  | a :: p, q => padd (scale a q) (0 :: pmul p q)
theorem coef_shift (p : List F8) (i : Nat) : coef (0 :: p) i = if i = 0 then 0 else coef p (i - 1) := by
  cases i with
  | zero => rfl
  | succ i => rfl
theorem coef_pmul_nil (q : List F8) (i : Nat) : coef (pmul [] q) i = 0 := coef_nil i
theorem coef_pmul_cons (a : F8) (p q : List F8) (i : Nat) : coef (pmul (a :: p) q) i = a * coef q i + if i = 0 then 0 else coef (pmul p q) (i - 1) := by
  show coef (padd (scale a q) (0 :: pmul p q)) i = _
  rw [coef_padd, coef_scale, coef_shift]
theorem pmul_congr_right (p : List F8) {q q' : List F8} (h : Eqv q q') : Eqv (pmul p q) (pmul p q') := by
  induction p with
  | nil => exact Eqv.refl _
  | cons a p ih => intro i; rw [coef_pmul_cons, coef_pmul_cons, h i, ih (i - 1)]
theorem pmul_zero_left {p : List F8} (q : List F8) (h : Eqv p []) : Eqv (pmul p q) [] := by
  induction p with
  | nil => exact Eqv.refl _
  | cons a p ih =>
    obtain ⟨h1, h2⟩ := eqv_nil_cons.1 h
    intro i; rw [coef_pmul_cons, h1, zero_mul, zero_add, ih h2 (i - 1), coef_nil, coef_nil]; split <;> rfl
theorem pmul_congr_left {p p' : List F8} (q : List F8) (h : Eqv p p') : Eqv (pmul p q) (pmul p' q) := by
  induction p generalizing p' with
  | nil => exact (pmul_zero_left q h.symm).symm
  | cons a p ih =>
    cases p' with
    | nil => exact pmul_zero_left q h
    | cons b p' =>
      obtain ⟨rfl, h2⟩ := h.tail
      intro i; rw [coef_pmul_cons, coef_pmul_cons, ih h2 (i - 1)]
theorem pmul_congr {p p' q q' : List F8} (h : Eqv p p') (k : Eqv q q') : Eqv (pmul p q) (pmul p' q') := (pmul_congr_left q h).trans (pmul_congr_right p' k)
theorem pmul_nil (p : List F8) : Eqv (pmul p []) [] := by
  induction p with
  | nil => exact Eqv.refl _
  | cons a p ih => intro i; rw [coef_pmul_cons, coef_nil, mul_zero, zero_add, ih (i - 1), coef_nil]; split <;> rfl
theorem pmul_cons_right (p : List F8) (b : F8) (q : List F8) (i : Nat) : coef (pmul p (b :: q)) i = b * coef p i + if i = 0 then 0 else coef (pmul p q) (i - 1) := by
  induction p generalizing i with
  | nil => rw [coef_pmul_nil, coef_nil, mul_zero, zero_add]; split; rfl; exact (coef_pmul_nil q _).symm
  | cons a p ih =>
    rw [coef_pmul_cons, coef_pmul_cons]
    cases i with
    | zero => rw [if_pos rfl, if_pos rfl, coef_cons_zero, coef_cons_zero, F8.mul_comm]
    | succ i =>
      rw [if_neg (by omega), if_neg (by omega), coef_cons_succ, coef_cons_succ, Nat.add_sub_cancel, ih i, ← F8.add_assoc, F8.add_comm (a * _), F8.add_assoc]
theorem pmul_comm (p q : List F8) : Eqv (pmul p q) (pmul q p) := by
  induction p with
  | nil => intro i; rw [pmul_nil q i, coef_pmul_nil, coef_nil]
  | cons a p ih => intro i; rw [coef_pmul_cons, pmul_cons_right, ih (i - 1)]
theorem pmul_padd (p q r : List F8) : Eqv (pmul p (padd q r)) (padd (pmul p q) (pmul p r)) := by
  induction p with
  | nil => intro i; rw [coef_padd, coef_pmul_nil, coef_pmul_nil, coef_pmul_nil, add_zero]
  | cons a p ih =>
    intro i
    rw [coef_padd, coef_pmul_cons, coef_pmul_cons, coef_pmul_cons, coef_padd, mul_add, ih (i - 1), coef_padd]
    split
    · rw [add_zero, add_zero, add_zero]
    · ac_rfl
theorem padd_pmul (p q r : List F8) : Eqv (pmul (padd p q) r) (padd (pmul p r) (pmul q r)) :=
  (pmul_comm _ _).trans ((pmul_padd r p q).trans (padd_congr (pmul_comm _ _) (pmul_comm _ _)))
theorem pmul_scale (a : F8) (p q : List F8) : Eqv (pmul (scale a p) q) (scale a (pmul p q)) := by
  induction p with
  | nil => exact Eqv.refl _
  | cons b p ih =>
    intro i
    show coef (pmul (a * b :: scale a p) q) i = _
    rw [coef_pmul_cons, coef_scale, coef_pmul_cons, ih (i - 1), coef_scale, mul_add, F8.mul_assoc]
    split
    · rw [mul_zero]
    · rfl
theorem pmul_shift (p q : List F8) : Eqv (pmul (0 :: p) q) (0 :: pmul p q) := fun i => by rw [coef_pmul_cons, zero_mul, zero_add, coef_shift]
theorem pmul_assoc (p q r : List F8) : Eqv (pmul (pmul p q) r) (pmul p (pmul q r)) := by
  induction p with
  | nil => exact Eqv.refl _
  | cons a p ih =>
    refine (padd_pmul _ _ r).trans ?_
    exact padd_congr (pmul_scale a q r) ((pmul_shift _ r).trans (ih.cons 0))
theorem nil_padd_pmul (q r : List F8) : padd (pmul [] q) r = r := nil_padd r
theorem pmul_one (p : List F8) : Eqv (pmul p [1]) p := fun i => by
  rw [pmul_cons_right, one_mul, pmul_nil p (i - 1), coef_nil]; split <;> rw [add_zero]
theorem one_pmul (p : List F8) : Eqv (pmul [1] p) p := (pmul_comm _ _).trans (pmul_one p)
theorem bdd_pmul {p q : List F8} {m n : Nat} (h : Bdd p m) (k : Bdd q n) : ∀ i, m + n ≤ i + 1 → coef (pmul p q) i = 0 := by
  induction p generalizing m with
  | nil => intro i _; exact coef_pmul_nil q i
  | cons a p ih =>
    intro i hi
    cases m with
    | zero => rw [pmul_zero_left q (bdd_zero.1 h) i, coef_nil]
    | succ m =>
      have h2 : Bdd p m := fun j hj => h (j + 1) (by omega)
      rw [coef_pmul_cons, k i (by omega), mul_zero, zero_add]
      split
      · rfl
      · exact ih h2 (i - 1) (by omega)
theorem lead_pmul {p q : List F8} {m n : Nat} (h : Bdd p (m + 1)) (k : Bdd q (n + 1)) : coef (pmul p q) (m + n) = coef p m * coef q n := by
  induction p generalizing m with
  | nil => rw [coef_pmul_nil, coef_nil, zero_mul]
  | cons a p ih =>
    rw [coef_pmul_cons]
    cases m with
    | zero =>
      rw [coef_cons_zero, Nat.zero_add]
      have h2 : Bdd p 0 := fun j hj => h (j + 1) (by omega)
      split
      · rw [add_zero]
      · rw [pmul_zero_left q (bdd_zero.1 h2) (n - 1), coef_nil, add_zero]
    | succ m =>
      have h2 : Bdd p (m + 1) := fun j hj => h (j + 1) (by omega)
      rw [k (m + 1 + n) (by omega), mul_zero, zero_add, if_neg (by omega), coef_cons_succ, show m + 1 + n - 1 = m + n by omega, ih h2]
theorem len_pmul {p q : List F8} (hp : 0 < len p) (hq : 0 < len q) : len (pmul p q) = len p + len q - 1 := by
  have h1 := lead_pmul (m := len p - 1) (n := len q - 1) (p := p) (q := q) ((bdd_len p).mono (by omega)) ((bdd_len q).mono (by omega))
  have h2 : coef (pmul p q) (len p - 1 + (len q - 1)) ≠ 0 := by rw [h1]; exact mul_ne_zero (lead hp) (lead hq)
  have h3 : len (pmul p q) ≤ len p + len q - 1 := len_le_of_bdd (fun i hi => bdd_pmul (bdd_len p) (bdd_len q) i (by omega))
  rcases Nat.lt_or_ge (len p - 1 + (len q - 1)) (len (pmul p q)) with h | h
  · omega
  · exact absurd (bdd_len (pmul p q) _ h) h2
theorem pmul_eq_zero {p q : List F8} (h : Eqv (pmul p q) []) : Eqv p [] ∨ Eqv q [] := by
  by_cases hp : len p = 0
  · exact .inl (len_zero.1 hp)
  · by_cases hq : len q = 0
    · exact .inr (len_zero.1 hq)
    · have := len_pmul (p := p) (q := q) (by omega) (by omega)
      rw [len_zero.2 h] at this; omega

/-- Values. -/
def eval : List F8 → F8 → F8
  | [], _ => 0
  | a :: p, x => a + x * eval p x
theorem eval_zero {p : List F8} (x : F8) (h : Eqv p []) : eval p x = 0 := by
  induction p with
  | nil => rfl
  | cons a p ih =>
    obtain ⟨h1, h2⟩ := eqv_nil_cons.1 h
    show a + x * eval p x = 0
    rw [h1, ih h2, mul_zero, add_zero]
theorem eval_congr {p q : List F8} (x : F8) (h : Eqv p q) : eval p x = eval q x := by
  induction p generalizing q with
  | nil => exact (eval_zero x h.symm).symm
  | cons a p ih =>
    cases q with
    | nil => exact eval_zero x h
    | cons b q =>
      obtain ⟨rfl, h2⟩ := h.tail
      show a + x * eval p x = a + x * eval q x
      rw [ih h2]
theorem eval_padd (p q : List F8) (x : F8) : eval (padd p q) x = eval p x + eval q x := by
  induction p generalizing q with
  | nil => rw [nil_padd]; exact (zero_add _).symm
  | cons a p ih =>
    cases q with
    | nil => rw [padd_nil]; exact (add_zero _).symm
    | cons b q =>
      show (a + b) + x * eval (padd p q) x = (a + x * eval p x) + (b + x * eval q x)
      rw [ih, mul_add]; ac_rfl
theorem eval_scale (c : F8) (p : List F8) (x : F8) : eval (scale c p) x = c * eval p x := by
  induction p with
  | nil => exact (mul_zero c).symm
  | cons a p ih =>
    show c * a + x * eval (scale c p) x = c * (a + x * eval p x)
    rw [ih, mul_add, F8.mul_left_comm]
theorem eval_pmul (p q : List F8) (x : F8) : eval (pmul p q) x = eval p x * eval q x := by
  induction p with
  | nil => exact (zero_mul _).symm
  | cons a p ih =>
    show eval (padd (scale a q) (0 :: pmul p q)) x = (a + x * eval p x) * eval q x
    rw [eval_padd, eval_scale]
    show _ + (0 + x * eval (pmul p q) x) = _
    rw [ih, zero_add, add_mul, F8.mul_assoc]
theorem eval_trim (p : List F8) (x : F8) : eval (trim p) x = eval p x := eval_congr x (trim_eqv p)
def xpow (x : F8) : Nat → F8
  | 0 => 1
  | n + 1 => x * xpow x n
theorem eval_snoc (p : List F8) (a x : F8) : eval (p ++ [a]) x = eval p x + a * xpow x p.length := by
  induction p with
  | nil => show a + x * 0 = 0 + a * 1; rw [mul_zero, add_zero, mul_one, zero_add]
  | cons b p ih =>
    show b + x * eval (p ++ [a]) x = b + x * eval p x + a * (x * xpow x p.length)
    rw [ih, mul_add, F8.add_assoc, F8.mul_left_comm]

/-- Division by x + x0: the quotient. -/
def synth (x : F8) : List F8 → List F8
  | [] => []
  | _ :: p => eval p x :: synth x p
theorem synth_eqv (x : F8) (p : List F8) : Eqv p (padd [eval p x] (pmul [x, 1] (synth x p))) := by
  induction p with
  | nil =>
    intro i
    have h : coef (pmul [x, 1] []) i = coef [] i := pmul_nil [x, 1] i
    show coef [] i = coef (padd [0] (pmul [x, 1] [])) i
    rw [coef_padd, h, coef_nil, add_zero]; cases i <;> rfl
  | cons a p ih =>
    intro i
    rw [coef_padd, coef_pmul_cons, coef_pmul_cons, coef_pmul_nil]
    show _ = _ + (x * coef (eval p x :: synth x p) i + if i = 0 then 0 else 1 * coef (eval p x :: synth x p) (i - 1) + if i - 1 = 0 then 0 else 0)
    cases i with
    | zero =>
      show a = (a + x * eval p x) + (x * eval p x + 0)
      rw [add_zero, add_add_self]
    | succ i =>
      rw [if_neg (by omega), coef_cons_succ, coef_cons_succ, coef_cons_succ, coef_nil, zero_add, Nat.add_sub_cancel, one_mul]
      have h := ih i
      rw [coef_padd, coef_pmul_cons, coef_pmul_cons, coef_pmul_nil] at h
      rw [h]
      cases i with
      | zero =>
        show eval p x + (x * coef (synth x p) 0 + 0) = x * coef (synth x p) 0 + (eval p x + 0)
        rw [add_zero, add_zero, F8.add_comm]
      | succ i =>
        show 0 + (x * coef (synth x p) (i + 1) + (1 * coef (synth x p) i + (if i = 0 then 0 else 0))) = x * coef (synth x p) (i + 1) + (coef (synth x p) i + 0)
        rw [zero_add, one_mul]; congr 2; split <;> rfl
theorem synth_bdd (x : F8) (p : List F8) (n : Nat) (h : Bdd p (n + 1)) : Bdd (synth x p) n := by
  induction p generalizing n with
  | nil => exact fun i _ => coef_nil i
  | cons a p ih =>
    have h2 : Bdd p n := fun j hj => h (j + 1) (by omega)
    intro i hi
    cases n with
    | zero =>
      have h3 := bdd_zero.1 h2
      cases i with
      | zero => exact eval_zero x h3
      | succ i => exact ih 0 (h2.mono (by omega)) i (by omega)
    | succ n =>
      cases i with
      | zero => omega
      | succ i => exact ih n h2 i (by omega)
theorem eval_root (x y : F8) : eval [x, 1] y = x + y := by
  show x + y * (1 + y * 0) = x + y
  rw [mul_zero, add_zero, mul_one]
/-- It has as many roots as it could have coefficients: it is 0. -/
theorem zero_of_roots (n : Nat) (p : List F8) (xs : List F8) (hb : Bdd p n) (hl : xs.length = n) (hn : xs.Nodup) (hx : ∀ x ∈ xs, eval p x = 0) : Eqv p [] := by
  induction n generalizing p xs with
  | zero => exact bdd_zero.1 hb
  | succ n ih =>
    cases xs with
    | nil => cases hl
    | cons x xs =>
      have h0 := hx x (by simp)
      have he := synth_eqv x p
      rw [h0] at he
      have he2 : Eqv p (pmul [x, 1] (synth x p)) := he.trans (fun i => by rw [coef_padd]; cases i <;> (first | exact zero_add _ | (rw [coef_cons_succ, coef_nil]; exact zero_add _)))
      have hs : Eqv (synth x p) [] := by
        refine ih (synth x p) xs (synth_bdd x p n hb) (by simpa using hl) (List.nodup_cons.1 hn).2 (fun y hy => ?_)
        have hy0 := hx y (by simp [hy])
        rw [eval_congr y he2, eval_pmul, eval_root, mul_eq_zero] at hy0
        rcases hy0 with h | h
        · exact absurd (add_eq_zero.1 h ▸ hy) (List.nodup_cons.1 hn).1
        · exact h
      exact he2.trans ((pmul_congr_right _ hs).trans (pmul_nil _))
/-- What agrees at more places than its degree is the same. -/
theorem only {n : Nat} {p q : List F8} {xs : List F8} (hp : Bdd p n) (hq : Bdd q n) (hl : n ≤ xs.length) (hn : xs.Nodup) (h : ∀ x ∈ xs, eval p x = eval q x) : Eqv p q := by
  have hz := zero_of_roots xs.length (padd p q) xs (bdd_padd (hp.mono hl) (hq.mono hl)) rfl hn (fun x hx => by rw [eval_padd, h x hx, add_self])
  intro i
  have := hz i
  rw [coef_padd, coef_nil, add_eq_zero] at this
  exact this
/-- No more roots than its degree. -/
theorem roots_le {p : List F8} {xs : List F8} (h0 : 0 < len p) (hn : xs.Nodup) (h : ∀ x ∈ xs, eval p x = 0) : xs.length ≤ len p - 1 := by
  rcases Nat.lt_or_ge (len p - 1) xs.length with hlt | hge
  · have hz := zero_of_roots (len p) p (xs.take (len p)) (bdd_len p) (by rw [List.length_take]; omega) (hn.sublist (List.take_sublist _ _)) (fun x hx => h x (List.mem_of_mem_take hx))
    have := len_zero.2 hz; omega
  · exact hge

/-- Quotient and rest are the only ones. -/
theorem div_only {a b q r q' r' : List F8} (hb : 0 < len b) (h : Eqv a (padd (pmul q b) r)) (h' : Eqv a (padd (pmul q' b) r')) (hr : len r < len b) (hr' : len r' < len b) : Eqv q q' ∧ Eqv r r' := by
  have e : Eqv (pmul (padd q q') b) (padd r r') := fun i => by
    have h1 := (h.symm.trans h') i
    rw [coef_padd, coef_padd] at h1
    rw [padd_pmul q q' b i, coef_padd, coef_padd, ← add_eq_zero]
    rw [← add_eq_zero] at h1
    rw [← h1]; ac_rfl
  have hbd : Bdd (pmul (padd q q') b) (len b - 1) := (bdd_padd ((bdd_len r).mono (by omega)) ((bdd_len r').mono (by omega))).congr e.symm
  have hq : Eqv (padd q q') [] := by
    by_cases hz : len (padd q q') = 0
    · exact len_zero.1 hz
    · have := len_pmul (p := padd q q') (q := b) (by omega) hb
      have h2 := len_le_of_bdd hbd
      omega
  have conv : ∀ {u v : List F8}, Eqv (padd u v) [] → Eqv u v := fun hh i => by have := hh i; rw [coef_padd, coef_nil, add_eq_zero] at this; exact this
  refine ⟨conv hq, conv ?_⟩
  exact e.symm.trans ((pmul_congr_left b hq).trans (Eqv.refl _))
/-- The product of all x + xs[i]. -/
def roots : List F8 → List F8
  | [] => [1]
  | x :: xs => pmul [x, 1] (roots xs)
theorem eval_roots (xs : List F8) (y : F8) : eval (roots xs) y = 0 ↔ y ∈ xs := by
  induction xs with
  | nil =>
    have : eval (roots []) y = 1 := by show 1 + y * 0 = 1; rw [mul_zero, add_zero]
    rw [this]; simp [one_ne_zero]
  | cons x xs ih =>
    show eval (pmul [x, 1] (roots xs)) y = 0 ↔ _
    rw [eval_pmul, eval_root, mul_eq_zero, ih, add_eq_zero, List.mem_cons, eq_comm]
theorem len_lin (x : F8) : len [x, 1] = 2 := by
  unfold len; rw [show [x, 1] = [x] ++ [1] from rfl, trim_snoc _ _ one_ne_zero]; rfl
theorem len_one : len [1] = 1 := by unfold len; rw [show ([1] : List F8) = [] ++ [1] from rfl, trim_snoc _ _ one_ne_zero]; rfl
theorem len_roots (xs : List F8) : len (roots xs) = xs.length + 1 := by
  induction xs with
  | nil => exact len_one
  | cons x xs ih =>
    show len (pmul [x, 1] (roots xs)) = _
    rw [len_pmul (by rw [len_lin]; omega) (by rw [ih]; omega), len_lin, ih, List.length_cons]; omega
theorem roots_snoc (xs : List F8) (x : F8) : Eqv (roots (xs ++ [x])) (pmul (roots xs) [x, 1]) := by
  induction xs with
  | nil => exact (pmul_one _).trans (one_pmul _).symm
  | cons y xs ih =>
    show Eqv (pmul [y, 1] (roots (xs ++ [x]))) (pmul (pmul [y, 1] (roots xs)) [x, 1])
    exact (pmul_congr_right _ ih).trans (pmul_assoc _ _ _).symm

/-- One term: c at n. -/
def mono (n : Nat) (c : F8) : List F8 := List.replicate n 0 ++ [c]
theorem coef_mono (n : Nat) (c : F8) (i : Nat) : coef (mono n c) i = if i = n then c else 0 := by
  induction n generalizing i with
  | zero => cases i with
    | zero => rfl
    | succ i => rw [if_neg (by omega)]; exact coef_nil i
  | succ n ih =>
    show coef (0 :: mono n c) i = _
    rw [coef_shift]
    cases i with
    | zero => rfl
    | succ i => rw [if_neg (by omega), Nat.add_sub_cancel, ih]; by_cases h : i = n <;> simp [h]
theorem mono_succ (n : Nat) (c : F8) : mono (n + 1) c = 0 :: mono n c := rfl
theorem coef_mono_pmul (n : Nat) (c : F8) (p : List F8) (i : Nat) : coef (pmul (mono n c) p) i = if i < n then 0 else c * coef p (i - n) := by
  induction n generalizing i with
  | zero =>
    show coef (pmul [c] p) i = _
    rw [coef_pmul_cons, coef_pmul_nil, if_neg (Nat.not_lt_zero i), Nat.sub_zero]; split <;> rw [add_zero]
  | succ n ih =>
    rw [mono_succ, pmul_shift (mono n c) p i, coef_shift]
    cases i with
    | zero => rw [if_pos rfl, if_pos (by omega)]
    | succ i =>
      rw [if_neg (by omega), Nat.add_sub_cancel, ih]
      by_cases h : i < n
      · rw [if_pos h, if_pos (by omega)]
      · rw [if_neg h, if_neg (by omega), show i + 1 - (n + 1) = i - n by omega]
/-- One step of the division: the highest coefficient goes. -/
theorem div_step {r d : List F8} (hd : 0 < len d) (hr : len d ≤ len r) (c : F8) (hc : c = coef r (len r - 1) / coef d (len d - 1)) :
    len (padd r (pmul (mono (len r - len d) c) d)) < len r := by
  have hl := lead hd
  have hb : Bdd (padd r (pmul (mono (len r - len d) c) d)) (len r - 1) := fun i hi => by
    rw [coef_padd, coef_mono_pmul, if_neg (by omega)]
    rcases Nat.lt_or_ge (len r - 1) i with h | h
    · rw [bdd_len r i (by omega), bdd_len d _ (by omega), mul_zero, add_zero]
    · obtain rfl : i = len r - 1 := by omega
      rw [show len r - 1 - (len r - len d) = len d - 1 by omega, hc, div_mul _ hl, add_self]
  have := len_le_of_bdd hb
  omega
theorem pmul_snoc (l : List F8) (a : F8) (q : List F8) : Eqv (pmul (l ++ [a]) q) (padd (pmul l q) (List.replicate l.length 0 ++ scale a q)) := by
  induction l with
  | nil =>
    intro i
    show coef (pmul [a] q) i = coef (padd [] (scale a q)) i
    rw [coef_pmul_cons, coef_pmul_nil, nil_padd, coef_scale]; split <;> rw [add_zero]
  | cons b l ih =>
    intro i
    show coef (pmul (b :: (l ++ [a])) q) i = coef (padd (pmul (b :: l) q) (0 :: (List.replicate l.length 0 ++ scale a q))) i
    rw [coef_pmul_cons, coef_padd, coef_pmul_cons, ih (i - 1), coef_padd, coef_shift]
    split
    · rw [add_zero, add_zero]
    · rw [F8.add_assoc]
theorem pmul_length_le (p q : List F8) : (pmul p q).length ≤ p.length + q.length := by
  induction p with
  | nil => simp [pmul]
  | cons a p ih => simp only [pmul, padd_length, List.length_cons, scale, List.length_map]; omega
theorem scale_snoc (a : F8) (q : List F8) (k : Nat) (hk : k < q.length) : scale a (q.take (k + 1)) = scale a (q.take k) ++ [a * coef q k] := by
  rw [List.take_succ_eq_append_getElem hk, coef_of_lt hk]; unfold scale; rw [List.map_append]; rfl
theorem trim_le (p : List F8) : (trim p).length ≤ p.length := len_le p
/-- Quotient and rest, trimmed. -/
structure DivBy (a b q r : List F8) : Prop where
  tq : trim q = q
  tr : trim r = r
  eqv : Eqv a (padd (pmul q b) r)
  lt : len r < len b
theorem DivBy.only {a b q r q' r' : List F8} (h : DivBy a b q r) (h' : DivBy a b q' r') : q = q' ∧ r = r' := by
  obtain ⟨h1, h2⟩ := div_only (Nat.lt_of_le_of_lt (Nat.zero_le _) h.lt) h.eqv h'.eqv h.lt h'.lt
  exact ⟨by rw [← h.tq, ← h'.tq, trim_congr h1], by rw [← h.tr, ← h'.tr, trim_congr h2]⟩
/-- What goes through values, trimmed. -/
structure Thru (xs ys r : List F8) : Prop where
  tr : trim r = r
  bdd : Bdd r xs.length
  val : ∀ i (h : i < xs.length) (h' : i < ys.length), eval r xs[i] = ys[i]
theorem Thru.only {xs ys r r' : List F8} (hn : xs.Nodup) (hl : xs.length = ys.length) (h : Thru xs ys r) (h' : Thru xs ys r') : r = r' := by
  rw [← h.tr, ← h'.tr]
  refine trim_congr (Poly.only h.bdd h'.bdd (Nat.le_refl _) hn (fun x hx => ?_))
  obtain ⟨i, hi, rfl⟩ := List.getElem_of_mem hx
  rw [h.val i hi (by omega), h'.val i hi (by omega)]
end Go.Proofs.Ytikfjbomogekbaa.Poly
