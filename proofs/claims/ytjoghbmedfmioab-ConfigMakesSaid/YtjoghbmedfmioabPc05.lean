/- Of the program, joined: PolyMath, PolyMath2, RdMath, RdMath2, WlMath, WlMath2, MatMath, WlLoc, MsMath, WlMath3, MsMath2, ElMath, MsMath3, MsMath4, Kit2, Past, GfOnce, GfBits, GfTab, GfRef, PolyKit, Turn. -/
import Derived.Test.YtjoghbmedfmioabPc04
import Derived.Test.YtjoghbmedfmioabPc01
import Derived.Test.YtjoghbmedfmioabRows
import Derived.Tactics
import Derived.Tactics2
import Derived.Defers
import Derived.WalkKit
import Derived.Laws.Pointers
import Derived.Laws.LoneSync
import Derived.RegionTactic
import Derived.RegionCalls
import Derived.ChangeAlike
import Derived.Laws.BitsAllLaws
import Derived.IntWalk
import Derived.BigQuiet
import Derived.Deep.QuietTactic
import Derived.BigRegion
import Derived.StillTailTactics
import Derived.Deep.RegionWith
import Derived.Lib.Hide
import Derived.RangeFuncNested
import Derived.RangeFuncBound
import Derived.Shelf.Abstract
import Derived.Shelf.RegionOpen
import Derived.OwnWalkIn
import Derived.TacticsInMore
import Derived.LoopNIn
import Derived.LoopIn
namespace Go.Proofs.Ytjoghbmedfmioab.Poly
open F8
def coef (p : List F8) (i : Nat) : F8 := p.getD i 0
theorem coef_nil (i : Nat) : coef [] i = 0 := by simp [coef]
theorem coef_cons_zero (a : F8) (p : List F8) : coef (a :: p) 0 = a := rfl
theorem coef_cons_succ (a : F8) (p : List F8) (i : Nat) : coef (a :: p) (i + 1) = coef p i := rfl
theorem coef_of_le {p : List F8} {i : Nat} (h : p.length ≤ i) : coef p i = 0 := by
 unfold coef; rw [List.getD_eq_getElem?_getD, List.getElem?_eq_none h]; rfl
theorem coef_of_lt {p : List F8} {i : Nat} (h : i < p.length) : coef p i = p[i] := by
 unfold coef; rw [List.getD_eq_getElem?_getD, List.getElem?_eq_getElem h]; rfl
def Eqv (p q : List F8) : Prop := ∀ i, coef p i = coef q i
theorem Eqv.refl (p : List F8) : Eqv p p := fun _ => rfl
theorem Eqv.symm {p q : List F8} (h : Eqv p q) : Eqv q p := fun i => (h i).symm
theorem Eqv.trans {p q r : List F8} (h : Eqv p q) (k : Eqv q r) : Eqv p r := fun i => (h i).trans (k i)
theorem Eqv.cons {p q : List F8} (a : F8) (h : Eqv p q) : Eqv (a :: p) (a :: q) := fun i => by
 cases i with
 | zero => rfl
 | succ i => exact h i
theorem Eqv.tail {a b : F8} {p q : List F8} (h : Eqv (a :: p) (b :: q)) : a = b ∧ Eqv p q := ⟨h 0, fun i => h (i + 1)⟩
theorem eqv_nil_cons {a : F8} {p : List F8} : Eqv (a :: p) [] ↔ a = 0 ∧ Eqv p [] :=
 ⟨fun h => ⟨by have := h 0; rwa [coef_nil] at this, fun i => by have := h (i + 1); rw [coef_nil] at this; rw [coef_nil]; exact this⟩, fun ⟨h1, h2⟩ i => by
  cases i with
  | zero => rw [coef_nil]; exact h1
  | succ i => rw [coef_nil]; have := h2 i; rw [coef_nil] at this; exact this⟩
def trim : List F8 → List F8
 | [] => []
 | a :: l => match trim l with
  | [] => if a = 0 then [] else [a]
  | b :: t => a :: b :: t
theorem trim_nil : trim [] = [] := rfl
theorem trim_cons_of {a : F8} {l : List F8} (h : trim l = []) : trim (a :: l) = if a = 0 then [] else [a] := by simp only [trim]; rw [h]
theorem trim_cons_ne {a : F8} {l : List F8} (h : trim l ≠ []) : trim (a :: l) = a :: trim l := by
 simp only [trim]
 cases hl : trim l with
 | nil => exact absurd hl h
 | cons b t => rfl
theorem trim_eqv (p : List F8) : Eqv (trim p) p := by
 induction p with
 | nil => exact Eqv.refl _
 | cons a l ih =>
  by_cases h : trim l = []
  ·rw [trim_cons_of h]
   rw [h] at ih
   by_cases a0 : a = 0
   ·rw [if_pos a0]; exact (eqv_nil_cons.2 ⟨a0, ih.symm⟩).symm
   ·rw [if_neg a0]; exact ih.cons a
  ·rw [trim_cons_ne h]; exact ih.cons a
theorem trim_nil_iff {p : List F8} : trim p = [] ↔ Eqv p [] := by
 induction p with
 | nil => exact ⟨fun _ => Eqv.refl _, fun _ => rfl⟩
 | cons a l ih =>
  rw [eqv_nil_cons, ← ih]
  by_cases h : trim l = []
  ·rw [trim_cons_of h]
   by_cases a0 : a = 0 <;> simp [a0, h]
  ·rw [trim_cons_ne h]; simp [h]
theorem trim_congr {p q : List F8} (h : Eqv p q) : trim p = trim q := by
 induction p generalizing q with
 | nil => exact ((trim_nil_iff).2 h.symm).symm
 | cons a l ih =>
  cases q with
  | nil => exact trim_nil_iff.2 h
  | cons b m =>
   obtain ⟨rfl, h2⟩ := h.tail
   simp only [trim]; rw [ih h2]
def len (p : List F8) : Nat := (trim p).length
theorem len_congr {p q : List F8} (h : Eqv p q) : len p = len q := by unfold len; rw [trim_congr h]
theorem len_le (p : List F8) : len p ≤ p.length := by
 unfold len
 induction p with
 | nil => simp [trim]
 | cons a l ih =>
  by_cases h : trim l = []
  ·rw [trim_cons_of h]; split <;> simp
  ·rw [trim_cons_ne h]; simp; exact ih
def Bdd (p : List F8) (n : Nat) : Prop := ∀ i, n ≤ i → coef p i = 0
theorem Bdd.mono {p : List F8} {n m : Nat} (h : Bdd p n) (hm : n ≤ m) : Bdd p m := fun i hi => h i (Nat.le_trans hm hi)
theorem Bdd.congr {p q : List F8} {n : Nat} (h : Bdd p n) (he : Eqv p q) : Bdd q n := fun i hi => by rw [← he i]; exact h i hi
theorem bdd_length (p : List F8) : Bdd p p.length := fun _ hi => coef_of_le hi
theorem bdd_len (p : List F8) : Bdd p (len p) := (bdd_length (trim p)).congr (trim_eqv p)
theorem bdd_zero {p : List F8} : Bdd p 0 ↔ Eqv p [] := ⟨fun h i => by rw [coef_nil]; exact h i (Nat.zero_le _), fun h i _ => by rw [h i, coef_nil]⟩
theorem trim_last (p : List F8) : trim p = [] ∨ ∃ l a, trim p = l ++ [a] ∧ a ≠ 0 := by
 induction p with
 | nil => exact .inl rfl
 | cons a l ih =>
  by_cases h : trim l = []
  ·rw [trim_cons_of h]
   by_cases a0 : a = 0
   ·exact .inl (if_pos a0)
   ·exact .inr ⟨[], a, by rw [if_neg a0]; rfl, a0⟩
  ·rcases ih with ih | ⟨m, b, h1, h2⟩
   ·exact absurd ih h
   ·exact .inr ⟨a :: m, b, by rw [trim_cons_ne h, h1]; rfl, h2⟩
theorem lead {p : List F8} (h : 0 < len p) : coef p (len p - 1) ≠ 0 := by
 rcases trim_last p with h0 | ⟨l, a, h1, h2⟩
 ·unfold len at h; rw [h0] at h; simp at h
 ·rw [← trim_eqv p (len p - 1)]
  unfold len
  rw [h1, coef_of_lt (by simp)]
  simpa using h2
theorem len_le_of_bdd {p : List F8} {n : Nat} (h : Bdd p n) : len p ≤ n := by
 rcases Nat.lt_or_ge n (len p) with hlt | hge
 ·exact absurd (h (len p - 1) (by omega)) (lead (by omega))
 ·exact hge
theorem bdd_iff {p : List F8} {n : Nat} : Bdd p n ↔ len p ≤ n := ⟨len_le_of_bdd, fun h => (bdd_len p).mono h⟩
theorem len_zero {p : List F8} : len p = 0 ↔ Eqv p [] := by unfold len; rw [List.length_eq_zero_iff, trim_nil_iff]
theorem trim_snoc (l : List F8) (a : F8) (ha : a ≠ 0) : trim (l ++ [a]) = l ++ [a] := by
 induction l with
 | nil => show trim [a] = [a]; rw [trim_cons_of trim_nil, if_neg ha]
 | cons b l ih => rw [List.cons_append, trim_cons_ne (by rw [ih]; simp), ih]
theorem trim_take (p : List F8) (n : Nat) (hn : n ≤ p.length) (h0 : ∀ i, n ≤ i → i < p.length → coef p i = 0) (h1 : n = 0 ∨ coef p (n - 1) ≠ 0) : trim p = p.take n := by
 have he : Eqv p (p.take n) := fun i => by
  rcases Nat.lt_or_ge i n with hi | hi
  ·rw [coef_of_lt (by omega), coef_of_lt (by rw [List.length_take]; omega), List.getElem_take]
  ·rw [coef_of_le (p := p.take n) (by rw [List.length_take]; omega)]
   rcases Nat.lt_or_ge i p.length with h | h
   ·exact h0 i hi h
   ·exact coef_of_le h
 rw [trim_congr he]
 cases n with
 | zero => simp [trim]
 | succ n =>
  have hl : coef p n ≠ 0 := by rcases h1 with h | h; cases h; exact h
  rw [List.take_succ_eq_append_getElem (by omega)]
  exact trim_snoc _ _ (by rw [← coef_of_lt]; exact hl)
def padd : List F8 → List F8 → List F8
 | [], q => q
 | p, [] => p
 | a :: p, b :: q => (a + b) :: padd p q
theorem padd_nil (p : List F8) : padd p [] = p := by cases p <;> rfl
theorem nil_padd (p : List F8) : padd [] p = p := by cases p <;> rfl
theorem coef_padd (p q : List F8) (i : Nat) : coef (padd p q) i = coef p i + coef q i := by
 induction p generalizing q i with
 | nil => rw [nil_padd, coef_nil, zero_add]
 | cons a p ih =>
  cases q with
  | nil => rw [padd_nil, coef_nil, add_zero]
  | cons b q =>
   cases i with
   | zero => rfl
   | succ i => exact ih q i
theorem padd_congr {p p' q q' : List F8} (h : Eqv p p') (k : Eqv q q') : Eqv (padd p q) (padd p' q') := fun i => by rw [coef_padd, coef_padd, h i, k i]
def scale (c : F8) (p : List F8) : List F8 := p.map (c * ·)
theorem coef_scale (c : F8) (p : List F8) (i : Nat) : coef (scale c p) i = c * coef p i := by
 unfold coef scale
 rw [List.getD_eq_getElem?_getD, List.getD_eq_getElem?_getD, List.getElem?_map]
 cases p[i]? with
 | none => exact (mul_zero c).symm
 | some x => rfl
def pmul : List F8 → List F8 → List F8
 | [], _ => []
 | a :: p, q => padd (scale a q) (0 :: pmul p q)
theorem coef_shift (p : List F8) (i : Nat) : coef (0 :: p) i = if i = 0 then 0 else coef p (i - 1) := by
 cases i with
 | zero => rfl
 | succ i => rfl
theorem coef_pmul_nil (q : List F8) (i : Nat) : coef (pmul [] q) i = 0 := coef_nil i
theorem coef_pmul_cons (a : F8) (p q : List F8) (i : Nat) : coef (pmul (a :: p) q) i = a * coef q i + if i = 0 then 0 else coef (pmul p q) (i - 1) := by
 show coef (padd (scale a q) (0 :: pmul p q)) i = _
 rw [coef_padd, coef_scale, coef_shift]
theorem pmul_congr_right (p : List F8) {q q' : List F8} (h : Eqv q q') : Eqv (pmul p q) (pmul p q') := by
 induction p with
 | nil => exact Eqv.refl _
 | cons a p ih => intro i; rw [coef_pmul_cons, coef_pmul_cons, h i, ih (i - 1)]
theorem pmul_zero_left {p : List F8} (q : List F8) (h : Eqv p []) : Eqv (pmul p q) [] := by
 induction p with
 | nil => exact Eqv.refl _
 | cons a p ih =>
  obtain ⟨h1, h2⟩ := eqv_nil_cons.1 h
  intro i; rw [coef_pmul_cons, h1, zero_mul, zero_add, ih h2 (i - 1), coef_nil, coef_nil]; split <;> rfl
theorem pmul_congr_left {p p' : List F8} (q : List F8) (h : Eqv p p') : Eqv (pmul p q) (pmul p' q) := by
 induction p generalizing p' with
 | nil => exact (pmul_zero_left q h.symm).symm
 | cons a p ih =>
  cases p' with
  | nil => exact pmul_zero_left q h
  | cons b p' =>
   obtain ⟨rfl, h2⟩ := h.tail
   intro i; rw [coef_pmul_cons, coef_pmul_cons, ih h2 (i - 1)]
theorem pmul_congr {p p' q q' : List F8} (h : Eqv p p') (k : Eqv q q') : Eqv (pmul p q) (pmul p' q') := (pmul_congr_left q h).trans (pmul_congr_right p' k)
theorem pmul_nil (p : List F8) : Eqv (pmul p []) [] := by
 induction p with
 | nil => exact Eqv.refl _
 | cons a p ih => intro i; rw [coef_pmul_cons, coef_nil, mul_zero, zero_add, ih (i - 1), coef_nil]; split <;> rfl
theorem pmul_cons_right (p : List F8) (b : F8) (q : List F8) (i : Nat) : coef (pmul p (b :: q)) i = b * coef p i + if i = 0 then 0 else coef (pmul p q) (i - 1) := by
 induction p generalizing i with
 | nil => rw [coef_pmul_nil, coef_nil, mul_zero, zero_add]; split; rfl; exact (coef_pmul_nil q _).symm
 | cons a p ih =>
  rw [coef_pmul_cons, coef_pmul_cons]
  cases i with
  | zero => rw [if_pos rfl, if_pos rfl, coef_cons_zero, coef_cons_zero, F8.mul_comm]
  | succ i =>
   rw [if_neg (by omega), if_neg (by omega), coef_cons_succ, coef_cons_succ, Nat.add_sub_cancel, ih i, ← F8.add_assoc, F8.add_comm (a * _), F8.add_assoc]
theorem pmul_comm (p q : List F8) : Eqv (pmul p q) (pmul q p) := by
 induction p with
 | nil => intro i; rw [pmul_nil q i, coef_pmul_nil, coef_nil]
 | cons a p ih => intro i; rw [coef_pmul_cons, pmul_cons_right, ih (i - 1)]
theorem pmul_padd (p q r : List F8) : Eqv (pmul p (padd q r)) (padd (pmul p q) (pmul p r)) := by
 induction p with
 | nil => intro i; rw [coef_padd, coef_pmul_nil, coef_pmul_nil, coef_pmul_nil, add_zero]
 | cons a p ih =>
  intro i
  rw [coef_padd, coef_pmul_cons, coef_pmul_cons, coef_pmul_cons, coef_padd, mul_add, ih (i - 1), coef_padd]
  split
  ·rw [add_zero, add_zero, add_zero]
  ·ac_rfl
theorem padd_pmul (p q r : List F8) : Eqv (pmul (padd p q) r) (padd (pmul p r) (pmul q r)) :=
 (pmul_comm _ _).trans ((pmul_padd r p q).trans (padd_congr (pmul_comm _ _) (pmul_comm _ _)))
theorem pmul_scale (a : F8) (p q : List F8) : Eqv (pmul (scale a p) q) (scale a (pmul p q)) := by
 induction p with
 | nil => exact Eqv.refl _
 | cons b p ih =>
  intro i
  show coef (pmul (a * b :: scale a p) q) i = _
  rw [coef_pmul_cons, coef_scale, coef_pmul_cons, ih (i - 1), coef_scale, mul_add, F8.mul_assoc]
  split
  ·rw [mul_zero]
  ·rfl
theorem pmul_shift (p q : List F8) : Eqv (pmul (0 :: p) q) (0 :: pmul p q) := fun i => by rw [coef_pmul_cons, zero_mul, zero_add, coef_shift]
theorem pmul_assoc (p q r : List F8) : Eqv (pmul (pmul p q) r) (pmul p (pmul q r)) := by
 induction p with
 | nil => exact Eqv.refl _
 | cons a p ih =>
  refine (padd_pmul _ _ r).trans ?_
  exact padd_congr (pmul_scale a q r) ((pmul_shift _ r).trans (ih.cons 0))
theorem pmul_one (p : List F8) : Eqv (pmul p [1]) p := fun i => by
 rw [pmul_cons_right, one_mul, pmul_nil p (i - 1), coef_nil]; split <;> rw [add_zero]
theorem one_pmul (p : List F8) : Eqv (pmul [1] p) p := (pmul_comm _ _).trans (pmul_one p)
theorem bdd_pmul {p q : List F8} {m n : Nat} (h : Bdd p m) (k : Bdd q n) : ∀ i, m + n ≤ i + 1 → coef (pmul p q) i = 0 := by
 induction p generalizing m with
 | nil => intro i _; exact coef_pmul_nil q i
 | cons a p ih =>
  intro i hi
  cases m with
  | zero => rw [pmul_zero_left q (bdd_zero.1 h) i, coef_nil]
  | succ m =>
   have h2 : Bdd p m := fun j hj => h (j + 1) (by omega)
   rw [coef_pmul_cons, k i (by omega), mul_zero, zero_add]
   split
   ·rfl
   ·exact ih h2 (i - 1) (by omega)
theorem lead_pmul {p q : List F8} {m n : Nat} (h : Bdd p (m + 1)) (k : Bdd q (n + 1)) : coef (pmul p q) (m + n) = coef p m * coef q n := by
 induction p generalizing m with
 | nil => rw [coef_pmul_nil, coef_nil, zero_mul]
 | cons a p ih =>
  rw [coef_pmul_cons]
  cases m with
  | zero =>
   rw [coef_cons_zero, Nat.zero_add]
   have h2 : Bdd p 0 := fun j hj => h (j + 1) (by omega)
   split
   ·rw [add_zero]
   ·rw [pmul_zero_left q (bdd_zero.1 h2) (n - 1), coef_nil, add_zero]
  | succ m =>
   have h2 : Bdd p (m + 1) := fun j hj => h (j + 1) (by omega)
   rw [k (m + 1 + n) (by omega), mul_zero, zero_add, if_neg (by omega), coef_cons_succ, show m + 1 + n - 1 = m + n by omega, ih h2]
theorem len_pmul {p q : List F8} (hp : 0 < len p) (hq : 0 < len q) : len (pmul p q) = len p + len q - 1 := by
 have h1 := lead_pmul (m := len p - 1) (n := len q - 1) (p := p) (q := q) ((bdd_len p).mono (by omega)) ((bdd_len q).mono (by omega))
 have h2 : coef (pmul p q) (len p - 1 + (len q - 1)) ≠ 0 := by rw [h1]; exact mul_ne_zero (lead hp) (lead hq)
 have h3 : len (pmul p q) ≤ len p + len q - 1 := len_le_of_bdd (fun i hi => bdd_pmul (bdd_len p) (bdd_len q) i (by omega))
 rcases Nat.lt_or_ge (len p - 1 + (len q - 1)) (len (pmul p q)) with h | h
 ·omega
 ·exact absurd (bdd_len (pmul p q) _ h) h2
def xpow (x : F8) : Nat → F8
 | 0 => 1
 | n + 1 => x * xpow x n
def roots : List F8 → List F8
 | [] => [1]
 | x :: xs => pmul [x, 1] (roots xs)
theorem len_lin (x : F8) : len [x, 1] = 2 := by
 unfold len; rw [show [x, 1] = [x] ++ [1] from rfl, trim_snoc _ _ one_ne_zero]; rfl
theorem len_one : len [1] = 1 := by unfold len; rw [show ([1] : List F8) = [] ++ [1] from rfl, trim_snoc _ _ one_ne_zero]; rfl
theorem len_roots (xs : List F8) : len (roots xs) = xs.length + 1 := by
 induction xs with
 | nil => exact len_one
 | cons x xs ih =>
  show len (pmul [x, 1] (roots xs)) = _
  rw [len_pmul (by rw [len_lin]; omega) (by rw [ih]; omega), len_lin, ih, List.length_cons]; omega
theorem roots_snoc (xs : List F8) (x : F8) : Eqv (roots (xs ++ [x])) (pmul (roots xs) [x, 1]) := by
 induction xs with
 | nil => exact (pmul_one _).trans (one_pmul _).symm
 | cons y xs ih =>
  show Eqv (pmul [y, 1] (roots (xs ++ [x]))) (pmul (pmul [y, 1] (roots xs)) [x, 1])
  exact (pmul_congr_right _ ih).trans (pmul_assoc _ _ _).symm
def mono (n : Nat) (c : F8) : List F8 := List.replicate n 0 ++ [c]
theorem coef_mono (n : Nat) (c : F8) (i : Nat) : coef (mono n c) i = if i = n then c else 0 := by
 induction n generalizing i with
 | zero => cases i with
  | zero => rfl
  | succ i => rw [if_neg (by omega)]; exact coef_nil i
 | succ n ih =>
  show coef (0 :: mono n c) i = _
  rw [coef_shift]
  cases i with
  | zero => rfl
  | succ i => rw [if_neg (by omega), Nat.add_sub_cancel, ih]; by_cases h : i = n <;> simp [h]
theorem mono_succ (n : Nat) (c : F8) : mono (n + 1) c = 0 :: mono n c := rfl
theorem coef_mono_pmul (n : Nat) (c : F8) (p : List F8) (i : Nat) : coef (pmul (mono n c) p) i = if i < n then 0 else c * coef p (i - n) := by
 induction n generalizing i with
 | zero =>
  show coef (pmul [c] p) i = _
  rw [coef_pmul_cons, coef_pmul_nil, if_neg (Nat.not_lt_zero i), Nat.sub_zero]; split <;> rw [add_zero]
 | succ n ih =>
  rw [mono_succ, pmul_shift (mono n c) p i, coef_shift]
  cases i with
  | zero => rw [if_pos rfl, if_pos (by omega)]
  | succ i =>
   rw [if_neg (by omega), Nat.add_sub_cancel, ih]
   by_cases h : i < n
   ·rw [if_pos h, if_pos (by omega)]
   ·rw [if_neg h, if_neg (by omega), show i + 1 - (n + 1) = i - n by omega]
end Go.Proofs.Ytjoghbmedfmioab.Poly

namespace Go.Proofs.Ytjoghbmedfmioab.Rd
open F8 Poly
def newR (xs : List F8) (k : Int) : Int := if xs.Nodup ∧ 1 ≤ k ∧ k ≤ xs.length then 0 else 2
theorem tight_length (l : List F8) : (trim (roots l)).length = l.length + 1 := len_roots l
end Go.Proofs.Ytjoghbmedfmioab.Rd

namespace Go.Proofs.Ytjoghbmedfmioab.Mat
open F8 Poly
def ent (s : List F8) (c i j : Nat) : F8 := coef s (i * c + j)
def flat (r c : Nat) (f : Nat → Nat → F8) : List F8 := (List.range (r * c)).map fun k => f (k / c) (k % c)
theorem flat_length (r c : Nat) (f : Nat → Nat → F8) : (flat r c f).length = r * c := by simp [flat]
theorem idx_lt {r c i j : Nat} (hi : i < r) (hj : j < c) : i * c + j < r * c := by
 have := Nat.mul_le_mul_right c (show i + 1 ≤ r by omega)
 rw [Nat.succ_mul] at this
 omega
theorem idx_div {c i j : Nat} (hj : j < c) : (i * c + j) / c = i := by
 rw [Nat.mul_comm, Nat.mul_add_div (by omega), Nat.div_eq_of_lt hj, Nat.add_zero]
theorem idx_mod {c i j : Nat} (hj : j < c) : (i * c + j) % c = j := by
 rw [Nat.mul_comm, Nat.mul_add_mod, Nat.mod_eq_of_lt hj]
theorem idx_inj {c i j i' j' : Nat} (hj : j < c) (hj' : j' < c) : i * c + j = i' * c + j' ↔ i = i' ∧ j = j' := by
 constructor
 ·intro h
  exact ⟨by rw [← idx_div (i := i) hj, h, idx_div hj'], by rw [← idx_mod (i := i) hj, h, idx_mod hj']⟩
 ·rintro ⟨rfl, rfl⟩; rfl
theorem ent_flat {r c i j : Nat} {f : Nat → Nat → F8} (hi : i < r) (hj : j < c) : ent (flat r c f) c i j = f i j := by
 unfold ent
 rw [coef_of_lt (by rw [flat_length]; exact idx_lt hi hj)]
 simp only [flat, List.getElem_map, List.getElem_range]
 rw [idx_div hj, idx_mod hj]
structure IsM (r c : Nat) (s : List F8) (f : Nat → Nat → F8) : Prop where
 len : s.length = r * c
 ent : ∀ i j, i < r → j < c → ent s c i j = f i j
theorem isM_flat (r c : Nat) (f : Nat → Nat → F8) : IsM r c (flat r c f) f := ⟨flat_length r c f, fun _ _ hi hj => ent_flat hi hj⟩
theorem IsM.congr {r c : Nat} {s : List F8} {f g : Nat → Nat → F8} (h : IsM r c s f) (hg : ∀ i j, i < r → j < c → f i j = g i j) : IsM r c s g :=
 ⟨h.len, fun i j hi hj => (h.ent i j hi hj).trans (hg i j hi hj)⟩
theorem list_ext {s t : List F8} (hl : s.length = t.length) (h : ∀ k, k < s.length → coef s k = coef t k) : s = t := by
 refine List.ext_getElem hl fun k h1 h2 => ?_
 have := h k h1
 rwa [coef_of_lt h1, coef_of_lt h2] at this
theorem IsM.only {r c : Nat} {s t : List F8} {f g : Nat → Nat → F8} (h : IsM r c s f) (k : IsM r c t g) (hfg : ∀ i j, i < r → j < c → f i j = g i j) : s = t := by
 refine list_ext (by rw [h.len, k.len]) fun x hx => ?_
 rw [h.len] at hx
 have hc : 0 < c := by rcases Nat.eq_zero_or_pos c with rfl | hc; simp at hx; exact hc
 have h1 : x / c < r := Nat.div_lt_of_lt_mul (by rw [Nat.mul_comm]; exact hx)
 have h2 := Nat.mod_lt x hc
 have e : x = x / c * c + x % c := by rw [Nat.mul_comm]; exact (Nat.div_add_mod x c).symm
 have a := h.ent _ _ h1 h2
 have b := k.ent _ _ h1 h2
 unfold Mat.ent at a b
 rw [← e] at a b
 rw [a, b, hfg _ _ h1 h2]
theorem ent_replicate (n c i j : Nat) : ent (List.replicate n 0) c i j = 0 := by
 unfold ent
 by_cases h : i * c + j < n
 ·rw [coef_of_lt (by simpa using h)]; simp
 ·rw [coef_of_le (by simpa using h)]
theorem coef_set' (l : List F8) (k : Nat) (x : F8) (hk : k < l.length) (i : Nat) : coef (l.set k x) i = if i = k then x else coef l i := by
 unfold coef
 rw [List.getD_eq_getElem?_getD, List.getD_eq_getElem?_getD, List.getElem?_set]
 by_cases e : k = i
 ·subst e; rw [if_pos rfl, if_pos rfl, if_pos hk]; rfl
 ·rw [if_neg e, if_neg (fun h => e h.symm)]
theorem ent_set {r c i j : Nat} {s : List F8} (hs : s.length = r * c) (hi : i < r) (hj : j < c) (x : F8) (i' j' : Nat) (hj' : j' < c) : ent (s.set (i * c + j) x) c i' j' = if i' = i ∧ j' = j then x else ent s c i' j' := by
 unfold ent
 rw [coef_set' _ _ _ (by rw [hs]; exact idx_lt hi hj)]
 by_cases e : i' = i ∧ j' = j
 ·rw [if_pos e, if_pos ((idx_inj hj' hj).2 e)]
 ·rw [if_neg e, if_neg (fun h => e ((idx_inj hj' hj).1 h))]
end Go.Proofs.Ytjoghbmedfmioab.Mat

namespace Go.Proofs.Ytjoghbmedfmioab.Wl
open F8 Poly Rd
theorem xpow_succ (x : F8) (i : Nat) : xpow x (i + 1) = x * xpow x i := by
 first | rfl | (simp only [xpow]; rw [mul_comm])
end Go.Proofs.Ytjoghbmedfmioab.Wl

namespace Go.Proofs.Ytjoghbmedfmioab.Ms
open F8 Poly Rd Mat Wl
structure Pts (xs : List F8) (a : Nat) : Prop where
 nd : xs.Nodup
 nz : ∀ i, i < xs.length → coef xs i ≠ 0
 lam : ∀ i j, i < xs.length → j < xs.length → i ≠ j → xpow (coef xs i) a ≠ xpow (coef xs j) a
end Go.Proofs.Ytjoghbmedfmioab.Ms

namespace Go.Proofs.Ytjoghbmedfmioab.Ms
open F8 Poly Rd Mat Wl
structure Par (xs : List F8) (n k d a v : Nat) : Prop where
 P : Pts xs a
 len : xs.length = n + v
 vk : v + k = a + 1
 ak : a + k = d + 1
 k2 : 2 ≤ k
 dn : d < n
 n255 : n + v ≤ 255
end Go.Proofs.Ytjoghbmedfmioab.Ms

namespace Go.Proofs.Ytjoghbmedfmioab
open Go.RowKit
section
variable {w w' : World} {B : Nat} {e : TypeId} {v : Value} {xs : List Value} {g c n : Nat}
theorem Own.form1 (h : Own w B e v xs) (h0 : 0 < xs.length) : ∃ g c, v = .slice (some ⟨g, 0, none⟩) xs.length c ∧ B ≤ g ∧ g < w.heap.size ∧ xs.length ≤ c := by
 have hh := h.lt
 rcases h.2 with ⟨rfl, hn⟩ | ⟨g, cap, cur, rfl, h1, h2, h3, _⟩
 ·omega
 ·exact ⟨g, cap, rfl, h1, (hh g rfl).2, h3⟩
theorem Own.cellAt (h : Own w B e (.slice (some ⟨g, 0, none⟩) n c) xs) (hn : xs.length = n) (k : Nat) (hk : k < xs.length) : w.cell? ⟨g, k, none⟩ = some xs[k] := by
 subst hn
 rw [World.ownsRow.cellAt h k (by omega)]; exact List.getElem?_eq_getElem hk
theorem Own.frozenAt (h : Own w B e (.slice (some ⟨g, 0, none⟩) n c) xs) (hn : xs.length = n) (k : Nat) : w.frozen? ⟨g, k, none⟩ = false := by
 subst hn
 exact World.ownsRow.frozenAt h k
theorem Own.set_ (h : Own w B e (.slice (some ⟨g, 0, none⟩) n c) xs) (hn : xs.length = n) (k : Nat) (u : Value) : Own (w.setCell ⟨g, k, none⟩ u) B e (.slice (some ⟨g, 0, none⟩) n c) (xs.set k u) := by
 subst hn
 have := (World.ownsRow.stored h k u).1
 unfold Own
 rw [List.length_set]
 exact this
theorem Own.blk (h : Own w B e (.slice (some ⟨g, 0, none⟩) n c) xs) : B ≤ g ∧ g < w.heap.size := h.lt g rfl
theorem Own.far (h : Own w B e v xs) {p : Addr} (hp : v.ownBlock ≠ some p.block) (u : Value) : Own (w.setCell p u) B e v xs :=
 h.grown (row := some p.block) ⟨rfl, rfl, rfl, by simp [World.setCell], fun k _ hk => Below.heap_setCell _ _ _ _ (fun e => hk (by rw [e]))⟩ (.inr hp)
end
theorem bv_get (l : List Nat) (k : Nat) (hk : k < (bv l).length) : (bv l)[k] = .int .u8 ((l[k]'(by rwa [bv_length] at hk) : Nat) : Int) := by simp [bv]
end Go.Proofs.Ytjoghbmedfmioab

namespace Go.Proofs.Ytjoghbmedfmioab
open Go.RowKit
structure Past (B g : Nat) (w w' : World) : Prop where
 os : w'.os = w.os
 tape : w'.tape = w.tape
 output : w'.output = w.output
 size : w.heap.size ≤ w'.heap.size
 block : ∀ k, k < B → k ≠ g → w'.heap[k]? = w.heap[k]?
section
variable {B g : Nat} {a w w' : World}
theorem Past.refl (B g : Nat) (w : World) : Past B g w w := ⟨rfl, rfl, rfl, Nat.le_refl _, fun _ _ _ => rfl⟩
theorem Past.trans (h : Past B g a w) (k : Past B g w w') : Past B g a w' :=
 ⟨k.os.trans h.os, k.tape.trans h.tape, k.output.trans h.output, Nat.le_trans h.size k.size, fun i hi hn => (k.block i hi hn).trans (h.block i hi hn)⟩
theorem Past.of_below (h : Below B a w) (g : Nat) : Past B g a w := ⟨h.os, h.tape, h.output, h.size, fun i hi _ => h.block i hi⟩
theorem Past.mono {B' : Nat} (h : Past B g a w) (hB : B' ≤ B) : Past B' g a w := ⟨h.os, h.tape, h.output, h.size, fun i hi hn => h.block i (by omega) hn⟩
theorem Past.drew (h : Past B g a w) : Past B g a w.drew := ⟨h.os, h.tape, h.output, h.size, h.block⟩
theorem Past.drewN (h : Past B g a w) (n : Nat) : Past B g a (w.drewN n) := ⟨h.os, h.tape, h.output, h.size, h.block⟩
theorem Past.alloc (h : Past B g a w) (hB : B ≤ w.heap.size) (o : Obj) : Past B g a (w.alloc o) := h.trans (Past.of_below ((Below.refl B w).alloc hB o) g)
theorem Past.setCell (h : Past B g a w) {p : Addr} (hp : p.block = g ∨ B ≤ p.block) (u : Value) : Past B g a (w.setCell p u) :=
 h.trans ⟨rfl, rfl, rfl, by simp [World.setCell], fun k hk hn => Below.heap_setCell _ _ _ _ (by intro e; subst e; rcases hp with rfl | hp <;> omega)⟩
theorem Past.below (h : Past B g a w) (hB : B ≤ g) : Below B a w := ⟨h.os, h.tape, h.output, h.size, fun i hi => h.block i hi (by omega)⟩
theorem Past.grown {row : Option Nat} (h : Past B g a w) (hw : w.grownBy w' row) (hB : B ≤ w.heap.size) (hr : ∀ k, row = some k → B ≤ k) : Past B g a w' :=
 h.trans (Past.of_below ((Below.refl B w).grown hw hB hr) g)
theorem Block.past {t : TypeId} {cs : Array Value} {b : Nat} (h : Block w b t cs) (hp : Past B g w w') (hb : b < B) (hn : b ≠ g) : Block w' b t cs := (hp.block b hb hn).trans h
end
end Go.Proofs.Ytjoghbmedfmioab

namespace Go.Proofs.Ytjoghbmedfmioab.Once
open Go.RowKit
theorem disable (w : World) : (callFunc 85 #[]).run Try.prog w = .ok (.value (.tuple #[])) w := run_call_mark0 Try.func85 (by kernel_rfl) (by kernel_rfl) (by kernel_rfl) .disable (by kernel_rfl) w
theorem enable (w : World) : (callFunc 87 #[]).run Try.prog w = .ok (.value (.tuple #[])) w := run_call_mark0 Try.func87 (by kernel_rfl) (by kernel_rfl) (by kernel_rfl) .enable (by kernel_rfl) w
theorem acquire (a : Addr) (w : World) : (callFunc 88 #[.pointer (some a)]).run Try.prog w = .ok (.value (.tuple #[])) w := run_call_marked Try.func88 (by kernel_rfl) (by kernel_rfl) (by kernel_rfl) .acquire (by kernel_rfl) a w
theorem releaseMerge (a : Addr) (w : World) : (callFunc 90 #[.pointer (some a)]).run Try.prog w = .ok (.value (.tuple #[])) w := run_call_marked Try.func90 (by kernel_rfl) (by kernel_rfl) (by kernel_rfl) .releaseMerge (by kernel_rfl) a w
theorem store_deferred (a : Addr) (x : Value) (u : FrameMode) (w : World) (hc : w.cell? a = some x) (hz : w.frozen? a = false) :
  CallsD Try.prog 80 #[.pointer (some a), .bool true] u w fun e u' w' => u' = u ∧ (e = .returned (.tuple #[]) ∧ w' = w.drew.setCell a (.int .u32 1)) := by
 have hc' : w.drew.cell? a = some x := by go_simp
 have hz' : w.drew.frozen? a = false := by go_simp
 have hst := run_call_store (P := Try.prog) Try.func83 (by kernel_rfl) (by kernel_rfl) (by kernel_rfl) (by kernel_rfl) (k := .u32) (y := 1) hc' hz'
 go_enter_d Try.func80, Try.ntmps80
 go_wp2
 go_region_calls
 all_goals (go_end0; exact ⟨rfl, rfl⟩)
set_option maxRecDepth 100000 in
theorem unlock_deferred (a : Addr) (u : FrameMode) (w : World) (hc : w.cell? a = some (.int .i32 1)) (hz : w.frozen? a = false) :
  CallsD Try.prog 79 #[.pointer (some a)] u w fun e u' w' => u' = u ∧ (e = .returned (.tuple #[]) ∧ w' = w.setCell a (.int .i32 0)) := by
 have hd := disable
 have he := enable
 have hr := releaseMerge
 have hadd := run_call_add (P := Try.prog) Try.func91 (by kernel_rfl) (by kernel_rfl) (by kernel_rfl) .i32 (by kernel_rfl) (y := -1) (s := 0) hc hz (by simp [go_sem]; rfl)
 have hcv := run_convert_to_unsafe (P := Try.prog) (src := 138) (dst := 142) Try.underlying138 Try.underlying142 (by kernel_rfl) hc
 go_enter_d Try.func79, Try.ntmps79
 go_wp2
 go_end0
 go_wp2
 go_end0
 exact ⟨rfl, rfl⟩
set_option maxRecDepth 100000 in
theorem lock_free (a : Addr) (w : World) (hc : w.cell? a = some (.int .i32 0)) (hz : w.frozen? a = false) :
  Calls Try.prog 78 #[.pointer (some a)] w fun e w' => e = .returned (.tuple #[]) ∧ w' = w.setCell a (.int .i32 1) := by
 have hd := disable
 have he := enable
 have ha := acquire
 have hcas := run_call_cas_hit (P := Try.prog) Try.func86 (by kernel_rfl) (by kernel_rfl) (by kernel_rfl) .i32 (by kernel_rfl) (y := 1) hc hz
 have hc' : (w.setCell a (.int .i32 1)).cell? a = some (.int .i32 1) := World.cell?_setCell_same w a _ hc
 have hcv := run_convert_to_unsafe (P := Try.prog) (src := 138) (dst := 142) Try.underlying138 Try.underlying142 (by kernel_rfl) hc'
 go_enter Try.func78, Try.ntmps78
 go_wp2
 first | go_end0 | (simp only [Exit.inBlock, Exit.then]; refine bodyPost_ret (results_none rfl _ _ _) rfl ?_) | refine bodyPost_ret (results_none rfl _ _ _) rfl ?_
 go_wp2
 go_end0
 exact ⟨rfl, rfl⟩
theorem do_done (a : Addr) (d : Int) (hd : ¬ d = 0) (fv : Value) (w : World) (h0 : w.cell? a = some (.int .u32 d)) :
  Calls Try.prog 57 #[.pointer (some a), fv] w fun e w' => e = .returned (.tuple #[]) ∧ w' = w := by
 have hl := run_call_load (P := Try.prog) Try.func77 (by kernel_rfl) (by kernel_rfl) (by kernel_rfl) .u32 (by kernel_rfl) h0
 have hnot : ∀ (x : Bool) (w : World), (Op.unary .not (.bool x)).run Try.prog w = .ok (.bool (!x)) w := fun _ _ => rfl
 have hd' : (d != 0) = true := by simp [hd]
 go_enter Try.func57, Try.ntmps57
 go_wp2
 go_end0
 exact ⟨rfl, rfl⟩
end Go.Proofs.Ytjoghbmedfmioab.Once

namespace Go.Proofs.Ytjoghbmedfmioab.GF
open Go.RowKit
theorem i64_xor (a b : Nat) (ha : a < 9223372036854775808) (hb : b < 9223372036854775808) : bits .xor .i64 (a : Int) (b : Int) = ((a ^^^ b : Nat) : Int) := by
 have hx : a ^^^ b < 2 ^ 63 := Nat.xor_lt_two_pow (by omega) (by omega)
 have h1 : (BitVec.ofInt 64 (a : Int)).toNat = a := by
  rw [BitVec.ofInt_natCast, BitVec.toNat_ofNat]; exact Nat.mod_eq_of_lt (by omega)
 have h2 : (BitVec.ofInt 64 (b : Int)).toNat = b := by
  rw [BitVec.ofInt_natCast, BitVec.toNat_ofNat]; exact Nat.mod_eq_of_lt (by omega)
 show IntKind.i64.wrap ((BitVec.ofInt 64 (a : Int) ^^^ BitVec.ofInt 64 (b : Int)).toNat : Int) = _
 rw [BitVec.toNat_xor, h1, h2]
 exact IntWalk.i64_in _ (by omega)
theorem u8_xor' (a b : Nat) (ha : a < 256) (hb : b < 256) : bits .xor .u8 (a : Int) (b : Int) = ((a ^^^ b : Nat) : Int) := u8_xor_nat a b ha hb
theorem ret_int {k : IntKind} {a b : Int} (h : a = b) : Ending.returned (.int k a) = .returned (.int k b) := by rw [h]
theorem ret_nat {k : IntKind} {a b : Nat} (h : a = b) : Ending.returned (.int k (a : Int)) = .returned (.int k (b : Int)) := by rw [h]
theorem tmod255 (n : Int) : n.tmod 255 = if 0 ≤ n then n % 255 else -((-n) % 255) := by
 split
 ·exact Int.tmod_eq_emod_of_nonneg (by assumption)
 ·have h := Int.neg_tmod (-n) 255
  rw [Int.neg_neg] at h
  rw [h, Int.tmod_eq_emod_of_nonneg (by omega)]
end Go.Proofs.Ytjoghbmedfmioab.GF

namespace Go.Proofs.Ytjoghbmedfmioab.GF
open Go.RowKit
def fc (d s : Int) (k i : Nat) : Value :=
 if i = 0 then .int .u32 d else if i = 1 then .int .i32 s else if i = 2 then .int .u32 0
 else if i < 258 then .int .u8 ((if i - 3 < k then gp (i - 3) else 0 : Nat) : Int)
 else .int .u8 ((if gl (i - 258) < k ∧ i ≠ 258 then gl (i - 258) else 0 : Nat) : Int)
def fcells (d s : Int) (k : Nat) : Array Value := Array.ofFn (n := 514) fun i => fc d s k i
theorem zero_field (w : World) : (zeroValue 64).run Try.prog w = .ok (.agg (fcells 0 0 0)) w := by kernel_rfl
theorem new_calls (w : World) : Calls Try.prog 6 #[] w fun e w' => e = .returned (.pointer (some ⟨w.heap.size, 0, none⟩)) ∧ w' = w.alloc (.cells (fcells 0 0 0) 64) := by
 have hz := zero_field w
 go_enter Try.func6, Try.ntmps6
 go_wp2
 go_ret
 exact ⟨rfl, rfl⟩
set_option maxRecDepth 100000 in
set_option maxHeartbeats 400000 in
theorem timesG_calls (n : Nat) (hn : n < 256) (w : World) :
  Calls Try.prog 59 #[.int .i64 n] w fun e w' => e = .returned (.int .i64 (gx n)) ∧ w' = w := by
 have HX := Lib.hid (i64_xor (2 * n) 285 (by omega) (by omega))
 go_enter Try.func59, Try.ntmps59
 go_wp2
 all_goals
  go_ret
  refine ⟨ret_int ?_, rfl⟩
  unfold gx
 ·rw [if_pos (by omega), ← HX.out, show ((2 * n : Nat) : Int) = (n : Int) * 2 by omega]; rfl
 ·rw [if_neg (by omega)]; omega
theorem fcells_get (d s : Int) (k i : Nat) (hi : i < 514) : (fcells d s k)[i]? = some (fc d s k i) := by
 unfold fcells; rw [Array.getElem?_ofFn, dif_pos hi]
theorem fcells_set (d s d' s' : Int) (k k' j : Nat) (v : Value) (hv : ∀ i, i < 514 → fc d' s' k' i = if i = j then v else fc d s k i) : (fcells d s k).setIfInBounds j v = fcells d' s' k' := by
 apply Array.ext
 ·simp [fcells]
 ·intro i h1 h2
  have hi : i < 514 := by simpa [fcells] using h2
  rw [Array.getElem_setIfInBounds (by simpa [fcells] using hi)]
  simp only [fcells, Array.getElem_ofFn]
  rw [hv i hi]
  by_cases h : j = i
  ·rw [if_pos h, if_pos h.symm]
  ·rw [if_neg h, if_neg (fun e => h e.symm)]
theorem fcells_round (d s : Int) (k : Nat) (hk : k < 255) : ((fcells d s k).setIfInBounds (3 + k) (.int .u8 (gp k : Nat))).setIfInBounds (258 + gp k) (.int .u8 (k : Nat)) = fcells d s (k + 1) := by
 apply Array.ext
 ·simp [fcells]
 ·intro i h1 h2
  have hi : i < 514 := by simpa [fcells] using h2
  rw [Array.getElem_setIfInBounds (by simpa [fcells] using hi), Array.getElem_setIfInBounds (by simpa [fcells] using hi)]
  simp only [fcells, Array.getElem_ofFn]
  have hg := gp_lt k
  have h0 := gp_ne k
  unfold fc
  by_cases i0 : i = 0
  ·subst i0; rw [if_neg (by omega), if_neg (by omega)]; rfl
  by_cases i1 : i = 1
  ·subst i1; rw [if_neg (by omega), if_neg (by omega)]; rfl
  by_cases i2 : i = 2
  ·subst i2; rw [if_neg (by omega), if_neg (by omega)]; rfl
  simp only [if_neg i0, if_neg i1, if_neg i2]
  by_cases i3 : i < 258
  ·simp only [if_pos i3]
   rw [if_neg (by omega)]
   by_cases e : 3 + k = i
   ·rw [if_pos e, show i - 3 = k by omega, if_pos (by omega)]
   ·rw [if_neg e]
    by_cases h : i - 3 < k
    ·rw [if_pos h, if_pos (by omega)]
    ·rw [if_neg h, if_neg (by omega)]
  ·simp only [if_neg i3]
   by_cases e : 258 + gp k = i
   ·rw [if_pos e, show i - 258 = gp k by omega, gl_gp' k hk, if_pos ⟨by omega, by omega⟩]
   ·rw [if_neg e, if_neg (by omega)]
    have hne : i ≠ 258 → gl (i - 258) ≠ k := fun h e2 => e (by rw [← e2, gp_gl (by omega) (by omega)]; omega)
    by_cases h : i = 258
    ·rw [if_neg (by omega), if_neg (by omega)]
    ·have := hne h
     by_cases h2 : gl (i - 258) < k
     ·rw [if_pos ⟨h2, h⟩, if_pos ⟨by omega, h⟩]
     ·rw [if_neg (by omega), if_neg (by omega)]
set_option maxRecDepth 100000 in
set_option maxHeartbeats 1000000 in
theorem fill_calls (g : Nat) (pl : Addr) (hpb : pl.block ≠ g) (w : World) (hp : w.cell? pl = some (.pointer (some ⟨g, 0, none⟩))) (hB : Block w g 64 (fcells 0 1 0)) :
  Calls Try.prog 58 #[.pointer (some pl)] w fun e w' => e = .returned (.tuple #[]) ∧ Block w' g 64 (fcells 0 1 255) ∧ Past w.heap.size g w w' ∧ w'.heap.size = w.heap.size := by
 have HB := Lib.hid hB
 clear hB
 go_enter Try.func58, Try.ntmps58
 go_wp2
 go_loopw [1, 3] (fun el i wr => ∃ k : Nat, k ≤ 255 ∧ i = .int .i64 k ∧ el = .int .i64 (gp k : Nat) ∧ Past w.heap.size g w wr ∧ Hid (wr.heap.size = w.heap.size) ∧ Hid (Block wr g 64 (fcells 0 1 k))) (fun _ i _ => 255 - (intOf i).toNat)
 case atStart => exact ⟨0, by omega, rfl, rfl, Past.refl _ _ _, Lib.hid rfl, HB⟩
 case round =>
  clear HB
  obtain ⟨k, hk, rfl, rfl, HP, HS, HB⟩ := hrel
  have hpl : wr.cell? pl = some (.pointer (some ⟨g, 0, none⟩)) := (World.cell?_of_block (HP.block pl.block (cell_lt hp) hpb)).trans hp
  by_cases hlt : k < 255
  ·have hc1 := (HB.out.cell (3 + k)).trans (fcells_get _ _ _ (3 + k) (by omega))
   have hf1 := HB.out.frozen (3 + k)
   have hf2 := HB.out.frozen (258 + gp k)
   have hg := gp_lt k
   have HB2 := Lib.hid (HB.out.set_ (3 + k) (.int .u8 (gp k : Nat)))
   have hpl2 : (wr.setCell ⟨g, 3 + k, none⟩ (.int .u8 (gp k : Nat))).cell? pl = some (.pointer (some ⟨g, 0, none⟩)) := (World.cell?_setCell_other _ _ _ _ (fun h => hpb (by rw [← h]))).trans hpl
   have hc2 : (wr.setCell ⟨g, 3 + k, none⟩ (.int .u8 (gp k : Nat))).cell? ⟨g, 258 + gp k, none⟩ = some (fc 0 1 k (258 + gp k)) := by
    rw [HB2.out.cell, Array.getElem?_setIfInBounds_ne (by omega)]; exact fcells_get _ _ _ _ (by omega)
   go_wp2_with (go_at_call 59; refine (timesG_calls _ (by assumption) _).mono ?_; rintro e w' ⟨rfl, rfl⟩)
   go_roundw
   case rel => exact ⟨k + 1, by omega, by go_num, rfl, (HP.setCell (.inl rfl) _).setCell (.inl rfl) _, Lib.hid (by simp [World.setCell]; exact HS.out), by rw [← fcells_round 0 1 k hlt]; exact HB2.out.set_ _ _⟩
   case measure => simp [intOf]; omega
  ·obtain rfl : k = 255 := by omega
   go_wp2
   go_end0
   exact ⟨rfl, HB.out, HP, HS.out⟩
theorem setState (d s s' : Int) (k : Nat) : (fcells d s k).setIfInBounds 1 (.int .i32 s') = fcells d s' k :=
 fcells_set d s d s' k k 1 _ (fun i _ => by unfold fc; by_cases h : i = 1 <;> simp [h])
theorem setDone (d s d' : Int) (k : Nat) : (fcells d s k).setIfInBounds 0 (.int .u32 d') = fcells d' s k :=
 fcells_set d s d' s k k 0 _ (fun i _ => by unfold fc; by_cases h : i = 0 <;> simp [h])
set_option maxRecDepth 100000 in
set_option maxHeartbeats 1600000 in
theorem slow_calls (g : Nat) (pl : Addr) (hpb : pl.block ≠ g) (w : World) (hp : w.cell? pl = some (.pointer (some ⟨g, 0, none⟩))) (hB : Block w g 64 (fcells 0 0 0)) :
  Calls Try.prog 71 #[.pointer (some ⟨g, 0, none⟩), .func (.func 58) #[] #[.pointer (some pl)]] w fun e w' => e = .returned (.tuple #[]) ∧ Block w' g 64 (fcells 1 0 255) ∧ Past w.heap.size g w w' ∧ w'.heap.size = w.heap.size := by
 have c1 : w.cell? ⟨g, 1, none⟩ = some (.int .i32 0) := (hB.cell 1).trans (fcells_get _ _ _ 1 (by decide))
 have f1 : w.frozen? ⟨g, 1, none⟩ = false := hB.frozen 1
 have hB1 : Block (w.setCell ⟨g, 1, none⟩ (.int .i32 1)) g 64 (fcells 0 1 0) := by have := hB.set_ 1 (.int .i32 1); rw [setState] at this; exact this
 have hl := run_call_load (P := Try.prog) Try.func77 (by kernel_rfl) (by kernel_rfl) (by kernel_rfl) .u32 (by kernel_rfl) (w := w.setCell ⟨g, 1, none⟩ (.int .i32 1)) (a := ⟨g, 0, none⟩) (x := 0) ((hB1.cell 0).trans (fcells_get _ _ _ 0 (by decide)))
 have hp1 : (w.setCell ⟨g, 1, none⟩ (.int .i32 1)).cell? pl = some (.pointer (some ⟨g, 0, none⟩)) := (World.cell?_setCell_other _ _ _ _ (fun h => hpb (by rw [← h]))).trans hp
 have hnot : ∀ (x : Bool) (w : World), (Op.unary .not (.bool x)).run Try.prog w = .ok (.bool (!x)) w := fun _ _ => rfl
 have HB := Lib.hid hB
 have HB1 := Lib.hid hB1
 clear hB hB1
 go_enter_defers Try.func71, Try.ntmps71
 go_wp2_with (first | (go_at_call 78; refine (Once.lock_free ⟨g, 1, none⟩ _ (by assumption) (by assumption)).mono ?_; rintro e w' ⟨rfl, rfl⟩) | (go_at_call 70; go_in) | (go_at_call 58; refine (fill_calls g pl hpb _ hp1 HB1.out).mono ?_; rintro e w2 ⟨rfl, HB2, HP2, HS2⟩))
 have hs1 : (w.setCell ⟨g, 1, none⟩ (.int .i32 1)).heap.size = w.heap.size := by simp [World.setCell]
 refine leaves_cons (f := 80) (args := #[.pointer (some ⟨g, 0, none⟩), .bool true]) (by simp) (by simp [go_sem]) ?_
 refine (Once.store_deferred ⟨g, 0, none⟩ (.int .u32 0) .returning _ ((HB2.cell 0).trans (fcells_get _ _ _ 0 (by decide))) (HB2.frozen 0)).mono ?_
 rintro e u' w'' ⟨rfl, rfl, rfl⟩
 have HB3 : Block (w2.drew.setCell ⟨g, 0, none⟩ (.int .u32 1)) g 64 (fcells 1 1 255) := by have := HB2.drew.set_ 0 (.int .u32 1); rw [setDone] at this; exact this
 refine leaves_cons (f := 79) (args := #[.pointer (some ⟨g, 1, none⟩)]) (by simp [settle]) (by simp [go_sem]) ?_
 refine (Once.unlock_deferred ⟨g, 1, none⟩ _ _ ((HB3.cell 1).trans (fcells_get _ _ _ 1 (by decide))) (HB3.frozen 1)).mono ?_
 rintro e u' w'' ⟨rfl, rfl, rfl⟩
 have HB4 : Block ((w2.drew.setCell ⟨g, 0, none⟩ (.int .u32 1)).setCell ⟨g, 1, none⟩ (.int .i32 0)) g 64 (fcells 1 0 255) := by have := HB3.set_ 1 (.int .i32 0); rw [setState] at this; exact this
 have HP4 : Past w.heap.size g w ((w2.drew.setCell ⟨g, 0, none⟩ (.int .u32 1)).setCell ⟨g, 1, none⟩ (.int .i32 0)) := by
  rw [hs1] at HP2
  exact (((((Past.refl _ g w).setCell (.inl rfl) _).trans HP2).drew).setCell (.inl rfl) _).setCell (.inl rfl) _
 simp [Leaves, settle, results, Try.results71]
 exact ⟨HB4, HP4, by rw [hs1] at HS2; exact HS2⟩
set_option maxRecDepth 100000 in
set_option maxHeartbeats 1600000 in
theorem do_first (g : Nat) (pl : Addr) (hpb : pl.block ≠ g) (w : World) (hp : w.cell? pl = some (.pointer (some ⟨g, 0, none⟩))) (hB : Block w g 64 (fcells 0 0 0)) :
  Calls Try.prog 57 #[.pointer (some ⟨g, 0, none⟩), .func (.func 58) #[] #[.pointer (some pl)]] w fun e w' => e = .returned (.tuple #[]) ∧ Block w' g 64 (fcells 1 0 255) ∧ Past w.heap.size g w w' ∧ w'.heap.size = w.heap.size := by
 have hl := run_call_load (P := Try.prog) Try.func77 (by kernel_rfl) (by kernel_rfl) (by kernel_rfl) .u32 (by kernel_rfl) (w := w) (a := ⟨g, 0, none⟩) (x := 0) ((hB.cell 0).trans (fcells_get _ _ _ 0 (by decide)))
 have hnot : ∀ (x : Bool) (w : World), (Op.unary .not (.bool x)).run Try.prog w = .ok (.bool (!x)) w := fun _ _ => rfl
 have HB := Lib.hid hB
 clear hB
 go_enter Try.func57, Try.ntmps57
 go_wp2_with (first | (go_at_call 71; refine (slow_calls g pl hpb _ hp HB.out).mono ?_; rintro e w' ⟨rfl, h1, h2, h3⟩) | (go_at_call 70; go_in))
 go_end0
 exact ⟨rfl, h1, h2, h3⟩
def Fld (w : World) (g : Nat) : Prop := Block w g 64 (fcells 0 0 0) ∨ Block w g 64 (fcells 1 0 255)
def Made (w : World) (g : Nat) : Prop := Block w g 64 (fcells 1 0 255)
theorem Made.fld {w : World} {g : Nat} (h : Made w g) : Fld w g := .inr h
theorem Fld.lt {w : World} {g : Nat} (h : Fld w g) : g < w.heap.size := by rcases h with h | h <;> exact h.lt
theorem Fld.new (w : World) : Fld (w.alloc (.cells (fcells 0 0 0) 64)) w.heap.size := .inl (Block.new _ _ _)
theorem Fld.below {w w' : World} {g B : Nat} (h : Fld w g) (hb : Below B w w') (hg : g < B) : Fld w' g := h.imp (fun h => h.below hb hg) (fun h => h.below hb hg)
theorem Fld.alloc {w : World} {g : Nat} (h : Fld w g) (o : Obj) : Fld (w.alloc o) g := h.below ((Below.refl _ _).alloc (Nat.le_refl _) o) h.lt
theorem Made.pow {w : World} {g : Nat} (h : Made w g) (k : Nat) (hk : k < 255) : w.cell? ⟨g, 3 + k, none⟩ = some (.int .u8 (gp k : Nat)) := by
 rw [h.cell, fcells_get _ _ _ _ (by omega)]
 unfold fc
 rw [if_neg (by omega), if_neg (by omega), if_neg (by omega), if_pos (by omega), show 3 + k - 3 = k by omega, if_pos hk]
theorem Made.log {w : World} {g : Nat} (h : Made w g) (a : Nat) (ha : a < 256) : w.cell? ⟨g, 258 + a, none⟩ = some (.int .u8 (gl a : Nat)) := by
 rw [h.cell, fcells_get _ _ _ _ (by omega)]
 unfold fc
 rw [if_neg (by omega), if_neg (by omega), if_neg (by omega), if_neg (by omega), show 258 + a - 258 = a by omega]
 by_cases h0 : a = 0
 ·subst h0; rfl
 ·rw [if_pos ⟨gl_lt ha, by omega⟩]
set_option maxHeartbeats 1600000 in
theorem ready_calls (g : Nat) (w : World) (hF : Fld w g) :
  Calls Try.prog 33 #[.pointer (some ⟨g, 0, none⟩)] w fun e w' => e = .returned (.pointer (some ⟨g, 0, none⟩)) ∧ Made w' g ∧ Past w.heap.size g w w' := by
 have hmf : ∀ (fn : Fn) (first cap : Array Value) (w : World), (Instr.makeFunc fn first cap).run Try.prog w = .ok (.func fn first cap) w := fun _ _ _ _ => rfl
 have hne : w.heap.size ≠ g := by have := hF.lt; omega
 have p0 : (w.alloc (.cells #[.pointer (some ⟨g, 0, none⟩)] 30)).cell? ⟨w.heap.size, 0, none⟩ = some (.pointer (some ⟨g, 0, none⟩)) := by simp
 have HA := Lib.hid (hF.alloc (.cells #[.pointer (some ⟨g, 0, none⟩)] 30))
 rcases HA.out with h | h
 ·have H := Lib.hid h
  clear h hF HA
  go_enter Try.func33, Try.ntmps33
  go_wp2_with (go_at_call 57; refine (do_first g ⟨w.heap.size, 0, none⟩ hne _ p0 H.out).mono ?_; rintro e w' ⟨rfl, h1, h2, h3⟩; have p1 := (World.cell?_of_block (h2.block w.heap.size (by simp) hne)).trans p0; replace h3 := Lib.hid h3)
  go_ret
  exact ⟨rfl, h1, (Past.of_below ((Below.refl _ _).alloc (Nat.le_refl _) _) _).trans (h2.mono (by simp))⟩
 ·have H := Lib.hid h
  clear h hF HA
  go_enter Try.func33, Try.ntmps33
  go_wp2_with (go_at_call 57; refine (Once.do_done ⟨g, 0, none⟩ 1 (by decide) _ _ ((H.out.cell 0).trans (fcells_get _ _ _ 0 (by decide)))).mono ?_; rintro e w' ⟨rfl, rfl⟩)
  go_ret
  exact ⟨rfl, H.out, Past.of_below ((Below.refl _ _).alloc (Nat.le_refl _) _) _⟩
set_option maxHeartbeats 1600000 in
theorem ready_nil (w : World) :
  Calls Try.prog 33 #[.pointer none] w fun e w' => ∃ g, e = .returned (.pointer (some ⟨g, 0, none⟩)) ∧ Made w' g ∧ Below w.heap.size w w' ∧ w.heap.size ≤ g := by
 have hmf : ∀ (fn : Fn) (first cap : Array Value) (w : World), (Instr.makeFunc fn first cap).run Try.prog w = .ok (.func fn first cap) w := fun _ _ _ _ => rfl
 go_enter Try.func33, Try.ntmps33
 go_wp2_with (go_at_call 6; refine (new_calls _).mono ?_; rintro e w' ⟨rfl, rfl⟩)
 have HB : Hid (Block ((w.alloc (.cells #[.pointer (some ⟨w.heap.size + 1, 0, none⟩)] 30)).alloc (.cells (fcells 0 0 0) 64)) (w.heap.size + 1) 64 (fcells 0 0 0)) := by
  have := Block.new (w.alloc (.cells #[.pointer (some ⟨w.heap.size + 1, 0, none⟩)] 30)) 64 (fcells 0 0 0)
  exact Lib.hid (by simpa using this)
 have p0 : ((w.alloc (.cells #[.pointer (some ⟨w.heap.size + 1, 0, none⟩)] 30)).alloc (.cells (fcells 0 0 0) 64)).cell? ⟨w.heap.size, 0, none⟩ = some (.pointer (some ⟨w.heap.size + 1, 0, none⟩)) := by simp
 refine (do_first (w.heap.size + 1) ⟨w.heap.size, 0, none⟩ (by simp) _ p0 HB.out).mono ?_
 rintro e w' ⟨rfl, h1, h2, h3⟩
 have p1 := (World.cell?_of_block (h2.block w.heap.size (by simp; omega) (by omega))).trans p0
 replace h3 := Lib.hid h3
 go_wp2
 go_ret
 exact ⟨_, rfl, h1, ((Past.of_below (((Below.refl _ _).alloc (Nat.le_refl _) _).alloc (by simp) _) _).trans (h2.mono (by simp; omega))).below (by omega), by omega⟩
def FldP (w : World) (p : Option Addr) : Prop := p = none ∨ ∃ g, p = some ⟨g, 0, none⟩ ∧ Fld w g
def rb (w : World) (p : Option Addr) : Nat := match p with
 | some a => a.block
 | none => w.heap.size
theorem FldP.of {w : World} {g : Nat} (h : Fld w g) : FldP w (some ⟨g, 0, none⟩) := .inr ⟨g, rfl, h⟩
theorem FldP.fld {w : World} {g : Nat} (h : FldP w (some ⟨g, 0, none⟩)) : Fld w g := by
 rcases h with h | ⟨g', h, hf⟩
 ·cases h
 ·simp only [Option.some.injEq, Addr.mk.injEq] at h; obtain ⟨rfl, _⟩ := h; exact hf
theorem FldP.drewN {w : World} {p : Option Addr} (h : FldP w p) (n : Nat) : FldP (w.drewN n) p := h
theorem FldP.below {w w' : World} {p : Option Addr} (h : FldP w p) (hb : Below w.heap.size w w') : FldP w' p := by
 rcases h with h | ⟨g, h, hf⟩
 ·exact .inl h
 ·exact .inr ⟨g, h, hf.below hb hf.lt⟩
theorem ready_any (p : Option Addr) (w : World) (hp : FldP w p) :
  Calls Try.prog 33 #[.pointer p] w fun e w' => ∃ g, e = .returned (.pointer (some ⟨g, 0, none⟩)) ∧ Made w' g ∧ FldP w' p ∧ Past w.heap.size (rb w p) w w' ∧ (p = none ∧ w.heap.size ≤ g ∨ p = some ⟨g, 0, none⟩) := by
 rcases hp with rfl | ⟨g, rfl, hf⟩
 ·exact (ready_nil w).mono fun e w' ⟨g, h1, h2, h3, h4⟩ => ⟨g, h1, h2, .inl rfl, Past.of_below h3 _, .inl ⟨rfl, h4⟩⟩
 ·exact (ready_calls g w hf).mono fun e w' ⟨h1, h2, h3⟩ => ⟨g, h1, h2, FldP.of h2.fld, h3, .inr rfl⟩
end Go.Proofs.Ytjoghbmedfmioab.GF

namespace Go.Proofs.Ytjoghbmedfmioab.Poly
open Go.RowKit F8
theorem info_u8 : (Try.prog.info? 5).map (fun i => (i.zero, i.size, i.bytes)) = some (some (.int .u8 0), 1, 1) := by kernel_rfl
theorem bvs_length (p : List F8) : (bv (bs p)).length = p.length := by rw [bv_length, bs_length]
def Res (w w' : World) (e : Ending) (p : List F8) : Prop :=
 ∃ A c, e = .returned (.slice A p.length c) ∧ p.length ≤ c ∧ Own w' w.heap.size 5 (.slice A p.length c) (bv (bs p)) ∧ Below w.heap.size w w'
theorem Own.shape {w : World} {B : Nat} {e : TypeId} {v : Value} {p : List F8} (h : Own w B e v (bv (bs p))) : ∃ A c, v = .slice A p.length c ∧ p.length ≤ c := by
 have hl := bvs_length p
 rcases h.2 with ⟨rfl, hn⟩ | ⟨g, cap, cur, rfl, _, _, h3, _⟩
 ·exact ⟨none, 0, by rw [← hl, hn], by omega⟩
 ·exact ⟨some ⟨g, 0, none⟩, cap, by rw [hl], by omega⟩
theorem Own.bytes {w : World} {B : Nat} {e : TypeId} {A : Option Addr} {n c : Nat} {p : List F8} (h : Own w B e (.slice A n c) (bv (bs p))) : Bytes w A (bs p) := by
 obtain ⟨A', c', e1, hc⟩ := Own.shape h
 injection e1 with e2 e3 e4
 subst e2 e3 e4
 unfold Own at h
 rw [bvs_length] at h
 exact ⟨Row.of_own h, bs_lt p⟩
theorem Res.mk {w w' : World} {v : Value} {p : List F8} (h : Own w' w.heap.size 5 v (bv (bs p))) (hb : Below w.heap.size w w') : Res w w' (.returned v) p := by
 obtain ⟨A, c, rfl, hc⟩ := Own.shape h
 exact ⟨A, c, rfl, hc, h, hb⟩
theorem cellF {w : World} {A : Option Addr} {p : List F8} (h : Bytes w A (bs p)) (k : Nat) (hk : k < p.length) : ∃ b off, A = some ⟨b, off, none⟩ ∧ w.cell? ⟨b, off + k, none⟩ = some (.int .u8 ((coef p k).n : Int)) := by
 obtain ⟨b, off, h1, h2, _⟩ := h.at_ (k := k) (by rw [bs_length]; exact hk)
 refine ⟨b, off, h1, ?_⟩
 rw [h2, coef_of_lt hk]
 simp [bs]
theorem where_ {w : World} {A : Option Addr} {p : List F8} (h : Bytes w A (bs p)) (h0 : 0 < p.length) : ∃ b off, A = some ⟨b, off, none⟩ := by
 obtain ⟨b, off, h1, _⟩ := cellF h 0 h0; exact ⟨b, off, h1⟩
theorem cellAt {w : World} {b off : Nat} {p : List F8} (h : Bytes w (some ⟨b, off, none⟩) (bs p)) (k : Nat) (hk : k < p.length) : w.cell? ⟨b, off + k, none⟩ = some (.int .u8 ((coef p k).n : Int)) := by
 obtain ⟨b', off', h1, h2⟩ := cellF h k hk
 simp only [Option.some.injEq, Addr.mk.injEq] at h1
 obtain ⟨rfl, rfl, _⟩ := h1
 exact h2
theorem bytes_take {w : World} {A : Option Addr} {p : List F8} (h : Bytes w A (bs p)) (n : Nat) : Bytes w A (bs (p.take n)) := by
 refine ⟨fun k u hu => h.row k u ?_, bs_lt _⟩
 simp only [bv, bs, List.map_take, List.getElem?_take] at hu ⊢
 split at hu
 ·exact hu
 ·cases hu
theorem bytes_drop {w : World} {b off : Nat} {p : List F8} (h : Bytes w (some ⟨b, off, none⟩) (bs p)) (n : Nat) : Bytes w (some ⟨b, off + n, none⟩) (bs (p.drop n)) := by
 refine ⟨fun k u hu => ?_, bs_lt _⟩
 simp only [bv, bs, List.map_drop, List.getElem?_drop] at hu
 obtain ⟨b', off', e, hc⟩ := h.row (n + k) u hu
 simp only [Option.some.injEq, Addr.mk.injEq] at e
 obtain ⟨rfl, rfl, _⟩ := e
 exact ⟨_, _, rfl, by rw [← hc, Nat.add_assoc]⟩
theorem n_beq (a b : F8) : (((a.n : Int) == (b.n : Int)) = true) ↔ a = b := by
 rw [← F8.n_inj, beq_iff_eq]; omega
theorem n_beq_false {a b : F8} (h : a ≠ b) : ((a.n : Int) == (b.n : Int)) = false := by
 rw [Bool.eq_false_iff]; exact fun e => h ((n_beq a b).1 e)
theorem n_beq0 {a : F8} (h : a ≠ 0) : ((a.n : Int) == 0) = false := n_beq_false h
theorem f8_bounds (a : F8) : (0 : Int) ≤ a.n ∧ (a.n : Int) < 256 := by have := a.h; omega
theorem addr_add (b off k : Nat) : (⟨b, off, none⟩ : Addr).add k = ⟨b, off + k, none⟩ := by unfold Addr.add; split <;> simp_all
theorem made_bytes (n : Nat) : (madeCells (Value.int .u8 0).cells (n * 1)).toList = bv (bs (List.replicate n 0)) := by
 apply List.ext_getElem
 ·simp [madeCells, bv, bs]
 ·intro i h1 h2
  simp [madeCells, bv, bs, Value.cells, Nat.mod_one]; rfl
theorem make_run (w : World) (n : Nat) (hn : n ≤ 1000000000) :
  ∃ w', (Instr.makeSlice 65 (.int .i64 (n : Int)) (.int .i64 (n : Int))).run Try.prog w = .ok (.slice (some ⟨w.heap.size, 0, none⟩) n n) w' ∧ Own w' w.heap.size 5 (.slice (some ⟨w.heap.size, 0, none⟩) n n) (bv (bs (List.replicate n 0))) ∧ Below w.heap.size w w' := by
 obtain ⟨i0, hi, hi1, hi2, hi3⟩ := info_parts info_u8
 obtain ⟨w1, hmk, ho, hg⟩ := run_make_full (P := Try.prog) w w.heap.size 65 5 i0 _ 1 Try.underlying65 hi hi1 hi2 .i64 .i64 n (by rw [hi3]; omega) (by simp only [maxLen]; omega) (Nat.le_refl _)
 rw [made_bytes] at ho
 refine ⟨w1, hmk, ?_, (Below.refl w.heap.size w).grown hg (Nat.le_refl _) (fun _ h => by cases h)⟩
 unfold Own; rw [bvs_length, List.length_replicate]; exact ho
end Go.Proofs.Ytjoghbmedfmioab.Poly

namespace Go.Proofs.Ytjoghbmedfmioab.Poly
open Go.RowKit Go.Shelf
attribute [local go_sem] Oper.semAt_some
structure Turn (B : Nat) (W W' : World) : Prop where
 below : Below B W W'
 cells : ∀ (k : Nat) (cs : Array Value) (t : TypeId) (fr : Nat × Nat), W.heap[k]? = some (Obj.cells cs t fr) → W'.heap[k]? = some (Obj.cells cs t fr)
section
variable {B g : Nat} {W W' W'' : World}
theorem Turn.refl (B : Nat) (W : World) : Turn B W W := ⟨Below.refl _ _, fun _ _ _ _ h => h⟩
theorem Turn.trans (h : Turn B W W') (k : Turn B W' W'') : Turn B W W'' := ⟨h.below.trans k.below, fun i cs t fr hi => k.cells i cs t fr (h.cells i cs t fr hi)⟩
theorem Turn.alloc (hB : B ≤ W.heap.size) (o : Obj) : Turn B W (W.alloc o) :=
 ⟨(Below.refl _ _).alloc hB o, fun k _ _ _ h => (Below.heap_alloc W o k (Array.getElem?_eq_some_iff.1 h).1).trans h⟩
theorem Turn.put {l : Nat} {o : Obj} (h : W.heap[l]? = some o) (ho : o.isCells = false) (hB : B ≤ l) (o' : Obj) : Turn B W (W.putObj l o') := by
 have hl := (Array.getElem?_eq_some_iff.1 h).1
 refine ⟨(Below.refl B W).grown (grownBy_putObj' W l o') (by omega) (fun k e => by cases e; exact hB), fun k cs t fr hk => ?_⟩
 by_cases e : k = l
 ·subst e; rw [h] at hk; cases hk; cases ho
 ·exact (World.putObj_heap_other e).trans hk
theorem Turn.cell (h : Turn B W W') {p : Addr} {v : Value} (hc : W.cell? p = some v) : W'.cell? p = some v := by
 unfold World.cell? at hc ⊢
 cases ho : W.heap[p.block]? with
 | none => rw [ho] at hc; cases hc
 | some o =>
  rw [ho] at hc
  cases o with
  | cells cs t fr => rw [h.cells _ _ _ _ ho]; exact hc
  | _ => cases hc
theorem Turn.block {t : TypeId} {cs : Array Value} (h : Turn B W W') (hb : Block W g t cs) : Block W' g t cs := h.cells _ _ _ _ hb
theorem Turn.row {A : Option Addr} {xs : List Value} (h : Turn B W W') (hr : Row W A xs) : Row W' A xs := fun k u hu => by
 obtain ⟨b, off, e, hc⟩ := hr k u hu
 exact ⟨b, off, e, h.cell hc⟩
theorem Turn.bytes {A : Option Addr} {l : List Nat} (h : Turn B W W') (hr : Bytes W A l) : Bytes W' A l := ⟨h.row hr.row, hr.lt⟩
theorem Turn.own {B0 : Nat} {e : TypeId} {v : Value} {xs : List Value} (h : Turn B W W') (ho : Own W B0 e v xs) : Own W' B0 e v xs := by
 refine ⟨ho.1, ?_⟩
 rcases ho.2 with hn | ⟨g, cap, cur, h1, h2, h3, h4⟩
 ·exact .inl hn
 ·exact .inr ⟨g, cap, cur, h1, h2, h.cells _ _ _ _ h3, h4⟩
theorem Turn.past {B0 g : Nat} {w : World} (h : Turn B W W') (hp : Past B0 g w W) (hB : B0 ≤ B) : Past B0 g w W' := hp.trans ((Past.of_below h.below g).mono hB)
theorem Turn.size (h : Turn B W W') : W.heap.size ≤ W'.heap.size := h.below.size
theorem keeps_past {l : Nat} (h : Past W.heap.size g W W') (hg : W.heap.size ≤ g ∨ ∃ cs t fr, W.heap[g]? = some (.cells cs t fr)) : KeepsFrom l W W' :=
 ⟨h.size, fun k o _ hk ho => by
  have hlt := (Array.getElem?_eq_some_iff.1 hk).1
  refine (h.block k hlt ?_).trans hk
  rintro rfl
  rcases hg with hg | ⟨cs, t, fr, hg⟩
  ·omega
  ·rw [hg] at hk; cases hk; cases ho⟩
theorem keeps_below {l : Nat} (h : Below W.heap.size W W') : KeepsFrom l W W' := keeps_past (g := W.heap.size) (Past.of_below h _) (.inl (Nat.le_refl _))
end
theorem zip2 (s1 s2 : Tmp) (u v : Value) (t : Array Value) :
  Array.foldl (fun (tmps : Array Value) (x : Tmp × Value) => match x with | (t, a) => tmps.setIfInBounds t a) t ((#[s1, s2] : Array Tmp).zip #[u, v]) = (t.setIfInBounds s1 u).setIfInBounds s2 v := by simp
end Go.Proofs.Ytjoghbmedfmioab.Poly
