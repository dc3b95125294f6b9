/- What follows of division, roots and values. -/
import Derived.Test.YtjpbdbgihakpmaaPolyMath
namespace Go.Proofs.Ytjpbdbgihakpmaa.Poly
open F8

theorem len_padd_le (p q : List F8) : len (padd p q) ≤ max (len p) (len q) :=
  len_le_of_bdd (bdd_padd ((bdd_len p).mono (by omega)) ((bdd_len q).mono (by omega)))
theorem DivBy.len_q {a b q r : List F8} (h : DivBy a b q r) : q.length ≤ a.length := by
  have e : Eqv (pmul q b) (padd a r) := fun i => by
    have h1 := h.eqv i
    rw [coef_padd] at h1 ⊢
    rw [h1, add_add_self]
  have hq : q.length = len q := by unfold len; rw [h.tq]
  by_cases h0 : len q = 0
  · omega
  · have h1 := len_pmul (p := q) (q := b) (by omega) (by have := h.lt; omega)
    rw [len_congr e] at h1
    have h2 := len_padd_le a r
    have h3 := len_le a
    have h4 := h.lt
    omega
theorem DivBy.len_r {a b q r : List F8} (h : DivBy a b q r) : r.length < len b := by
  have : r.length = len r := by unfold len; rw [h.tr]
  rw [this]; exact h.lt
theorem DivBy.back {a b q r : List F8} (h : DivBy a b q r) : trim (padd (trim (pmul q b)) r) = trim a :=
  trim_congr ((padd_congr (trim_eqv _) (Eqv.refl _)).trans h.eqv.symm)
theorem DivBy.at_root {a q r : List F8} {x : F8} (h : DivBy a [x, 1] q r) : eval a x = eval r x := by
  rw [eval_congr x h.eqv, eval_padd, eval_pmul, eval_root, add_self, mul_zero, zero_add]
theorem DivBy.rest {a q r : List F8} {x : F8} (h : DivBy a [x, 1] q r) : r = [] ∧ eval a x = 0 ∨ ∃ y, r = [y] ∧ y ≠ 0 ∧ eval a x = y := by
  have h1 := h.len_r
  rw [len_lin] at h1
  have h2 := h.at_root
  cases r with
  | nil => exact .inl ⟨rfl, h2⟩
  | cons y r =>
    cases r with
    | nil =>
      refine .inr ⟨y, rfl, fun e => ?_, ?_⟩
      · have := h.tr
        rw [e, trim_cons_of trim_nil, if_pos rfl] at this
        cases this
      · rw [h2]; show y + x * 0 = y; rw [mul_zero, add_zero]
    | cons z r => simp only [List.length_cons] at h1; omega
theorem roots_one (x : F8) : trim (roots [x]) = [x, 1] := by
  have : trim (roots [x]) = trim [x, 1] := trim_congr (pmul_one [x, 1])
  rw [this]; exact trim_snoc [x] 1 one_ne_zero
theorem roots_more (x : F8) (p : List F8) : trim (roots (x :: p)) = trim (pmul (trim (roots p)) [x, 1]) :=
  trim_congr ((pmul_comm _ _).trans (pmul_congr_left _ (trim_eqv _).symm))
theorem trim_len (p : List F8) : (trim p).length ≤ p.length := len_le p
theorem padd_len (p q : List F8) : (trim (padd p q)).length ≤ max p.length q.length := by have := trim_len (padd p q); rw [padd_length] at this; exact this
theorem pmul_len (p q : List F8) : (trim (pmul p q)).length ≤ p.length + q.length := Nat.le_trans (trim_len _) (pmul_length_le p q)
end Go.Proofs.Ytjpbdbgihakpmaa.Poly
