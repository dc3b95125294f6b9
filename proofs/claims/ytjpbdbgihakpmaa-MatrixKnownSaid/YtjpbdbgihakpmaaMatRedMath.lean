/- One step of the program's elimination on a list, as plain mathematics. -/
import Derived.Test.YtjpbdbgihakpmaaMatMul2
import Derived.Test.YtjpbdbgihakpmaaMatFind
namespace Go.Proofs.Ytjpbdbgihakpmaa.Mat
open F8 Poly

/-- Behind some rows (those of D) multiples of the row l have been added to them, from column col on. -/
def redT (t : List F8) (C l col : Nat) (D : Nat → Prop) [DecidablePred D] (i x : Nat) : F8 := if i ≠ l ∧ D i ∧ col ≤ x then ent t C i x + ent t C i col * ent t C l x else ent t C i x
/-- The rows visited ahead of the j-th. -/
def Seen (ord : List Nat) (j i : Nat) : Prop := i ∈ ord.take j
instance (ord : List Nat) (j : Nat) : DecidablePred (Seen ord j) := fun i => inferInstanceAs (Decidable (i ∈ ord.take j))
theorem seen_zero (ord : List Nat) (i : Nat) : ¬ Seen ord 0 i := by unfold Seen; simp
theorem seen_succ {ord : List Nat} {j l : Nat} (h : ord[j]? = some l) (i : Nat) : Seen ord (j + 1) i ↔ Seen ord j i ∨ i = l := by
  unfold Seen
  rw [List.take_add_one, h]
  simp
theorem seen_all {ord : List Nat} {r i : Nat} (hl : ord.length = r) (hs : ∃ t, t < r ∧ ord.getD t 0 = i) : Seen ord r i := by
  obtain ⟨t, ht, rfl⟩ := hs
  unfold Seen
  rw [List.take_of_length_le (by omega), List.getD_eq_getElem?_getD, List.getElem?_eq_getElem (by omega)]
  exact List.getElem_mem _
theorem not_seen {ord : List Nat} {j l : Nat} (hl : ord[j]? = some l) (hinj : ∀ a b, a < ord.length → b < ord.length → ord.getD a 0 = ord.getD b 0 → a = b) : ¬ Seen ord j l := by
  unfold Seen
  intro hm
  obtain ⟨a, ha, e⟩ := List.getElem_of_mem hm
  rw [List.length_take] at ha
  rw [List.getElem_take] at e
  have hj : j < ord.length := (List.getElem?_eq_some_iff.1 hl).1
  have := hinj a j (by omega) hj (by
    rw [List.getD_eq_getElem?_getD, List.getD_eq_getElem?_getD, hl, List.getElem?_eq_getElem (by omega), e])
  omega
theorem redT_start {r C l col : Nat} {t : List F8} {ord : List Nat} (h : t.length = r * C) : IsM r C t (redT t C l col (Seen ord 0)) :=
  ⟨h, fun i x _ _ => by unfold redT; rw [if_neg (fun h => seen_zero ord i h.2.1)]⟩
theorem redT_same {r C l col j : Nat} {t u : List F8} {ord : List Nat} (h : IsM r C u (redT t C l col (Seen ord j))) (hl : ord[j]? = some l) : IsM r C u (redT t C l col (Seen ord (j + 1))) :=
  h.congr fun i x _ _ => by
    unfold redT
    by_cases e : i = l
    · rw [if_neg (fun h => h.1 e), if_neg (fun h => h.1 e)]
    · have hs := seen_succ hl i
      by_cases e2 : Seen ord j i ∧ col ≤ x
      · rw [if_pos ⟨e, e2⟩, if_pos ⟨e, hs.2 (.inl e2.1), e2.2⟩]
      · rw [if_neg (fun h => e2 h.2), if_neg (fun h => e2 ⟨(hs.1 h.2.1).resolve_right e, h.2.2⟩)]
/-- The part of a row from a column on. -/
def leadL (t : List F8) (C l col : Nat) : List F8 := (rowL t C l).drop col
theorem leadL_length {t : List F8} {C l col : Nat} (h : (l + 1) * C ≤ t.length) : (leadL t C l col).length = C - col := by unfold leadL; rw [List.length_drop, rowL_length h]
theorem coef_leadL {t : List F8} {C l col x : Nat} (hx : col + x < C) : coef (leadL t C l col) x = ent t C l (col + x) := by
  rw [← coef_rowL hx]
  unfold leadL coef
  rw [List.getD_eq_getElem?_getD, List.getD_eq_getElem?_getD, List.getElem?_drop]
theorem redT_step {r C l i col j : Nat} {t u u' : List F8} {ord : List Nat} (h : IsM r C u (redT t C l col (Seen ord j))) (hi : ord[j]? = some i) (hil : i ≠ l) (hns : ¬ Seen ord j i) (hcol : col < C)
    (h2 : SoFar u u' (leadL t C l col) (i * C + col) (C - col) (ent t C i col)) : IsM r C u' (redT t C l col (Seen ord (j + 1))) := by
  refine ⟨by rw [h2.1, h.len], fun a x ha hx => ?_⟩
  have e : ent u' C a x = ent u C a x + if i * C + col ≤ a * C + x ∧ a * C + x < i * C + col + (C - col) then ent t C i col * coef (leadL t C l col) (a * C + x - (i * C + col)) else 0 := h2.2 _
  rw [e, h.ent a x ha hx]
  have hs := seen_succ hi a
  by_cases e1 : a = i
  · subst e1
    have L1 : redT t C l col (Seen ord j) a x = ent t C a x := by unfold redT; rw [if_neg (fun h => hns h.2.1)]
    rw [L1]
    by_cases e2 : col ≤ x
    · have L2 : redT t C l col (Seen ord (j + 1)) a x = ent t C a x + ent t C a col * ent t C l x := by unfold redT; rw [if_pos ⟨hil, hs.2 (.inr rfl), e2⟩]
      rw [L2, if_pos ⟨by omega, by omega⟩, show a * C + x - (a * C + col) = x - col by omega, coef_leadL (by omega), show col + (x - col) = x by omega]
    · have L2 : redT t C l col (Seen ord (j + 1)) a x = ent t C a x := by unfold redT; rw [if_neg (fun h => e2 h.2.2)]
      rw [L2, if_neg (fun h => by omega), add_zero]
  · have hne : ¬ (i * C + col ≤ a * C + x ∧ a * C + x < i * C + col + (C - col)) := fun h => e1 ((idx_row hx).1 ⟨by omega, by omega⟩)
    rw [if_neg hne, add_zero]
    unfold redT
    by_cases e2 : a ≠ l ∧ Seen ord j a ∧ col ≤ x
    · rw [if_pos e2, if_pos ⟨e2.1, hs.2 (.inl e2.2.1), e2.2.2⟩]
    · rw [if_neg e2, if_neg (fun h => e2 ⟨h.1, (hs.1 h.2.1).resolve_right e1, h.2.2⟩)]
/-- The row that is divided. -/
theorem div_ent {C l col : Nat} {t t1 : List F8} {v : F8} (hcol : col < C) (hd : DivTo t t1 (l * C + col) (C - col) v) (i x : Nat) (hx : x < C) : ent t1 C i x = if i = l ∧ col ≤ x then ent t C i x / v else ent t C i x := by
  have e : ent t1 C i x = if l * C + col ≤ i * C + x ∧ i * C + x < l * C + col + (C - col) then ent t C i x / v else ent t C i x := hd.2 _
  rw [e]
  by_cases e1 : i = l
  · subst e1
    by_cases e2 : col ≤ x
    · rw [if_pos ⟨by omega, by omega⟩, if_pos ⟨rfl, e2⟩]
    · rw [if_neg (by omega), if_neg (fun h => e2 h.2)]
  · rw [if_neg (fun h => e1 ((idx_row hx).1 ⟨by omega, by omega⟩)), if_neg (fun h => e1 h.1)]
/-- The whole step. -/
theorem red_step {r C col p : Nat} {M0 : Nat → Nat → F8} {t t1 u : List F8} {ord ord' bg : List Nat} {v : F8} (h : Red r C M0 (ent t C) (fun i => ord.getD i 0) bg col) (hcC : col < C) (hp1 : bg.length ≤ p) (hp : p < r) (hv : ent t C (ord.getD p 0) col = v) (hv0 : v ≠ 0)
    (hord : ord'.length = r) (ho : ∀ i, i < r → ord'.getD i 0 = swp (fun i => ord.getD i 0) bg.length p i) (hd : DivTo t t1 (ord.getD p 0 * C + col) (C - col) v) (hu : IsM r C u (redT t1 C (ord.getD p 0) col (Seen ord' r))) :
    Red r C M0 (ent u C) (fun i => ord'.getD i 0) (bg ++ [col]) (col + 1) := by
  have hk : bg.length < r := by omega
  have hlt : ord.getD p 0 < r := h.lt p hp
  have hsur : ∀ i, i < r → Seen ord' r i := fun i hi => by
    obtain ⟨q, hq, e⟩ := swp_sur h.sur hk hp i hi
    exact seen_all hord ⟨q, hq, by rw [ho q hq]; exact e⟩
  have hlz : ∀ x, x < col → ent t C (ord.getD p 0) x = 0 := fun x hx => h.rest p x hp1 hp hx
  have hl1 : ∀ x, x < C → ent t1 C (ord.getD p 0) x = ent t C (ord.getD p 0) x / v := fun x hx => by
    rw [div_ent hcC hd _ x hx]
    by_cases e : col ≤ x
    · rw [if_pos ⟨rfl, e⟩]
    · rw [if_neg (fun h => e h.2), hlz x (by omega), zero_div]
  have hu1 : ∀ x, x < C → ent u C (ord.getD p 0) x = ent t1 C (ord.getD p 0) x := fun x hx => by
    rw [hu.ent _ x hlt hx]; unfold redT; rw [if_neg (fun h => h.1 rfl)]
  have hR := h.pivot (M' := ent u C) hcC hp1 hp hv hv0 (fun x hx => by rw [hu1 x hx]; exact hl1 x hx) (fun i x hi hx hn => by
    have hn' : i ≠ ord.getD p 0 := hn
    have e1 : ∀ x, x < C → ent t1 C i x = ent t C i x := fun x hx => by rw [div_ent hcC hd i x hx, if_neg (fun h => hn' h.1)]
    show ent u C i x = ent t C i x + ent t C i col * ent u C (ord.getD p 0) x
    rw [hu.ent i x hi hx, hu1 x hx]
    unfold redT
    by_cases e : col ≤ x
    · rw [if_pos ⟨hn', hsur i hi, e⟩, e1 x hx, e1 col hcC]
    · rw [if_neg (fun h => e h.2.2), e1 x hx, hl1 x hx, hlz x (by omega), zero_div, mul_zero, add_zero])
  refine ⟨hR.ker, fun q hq => by rw [ho q hq]; exact hR.lt q hq, fun a b ha hb e => hR.inj a b ha hb (by rw [ho a ha, ho b hb] at e; exact e), fun i hi => ?_, hR.le, hR.up, hR.in_, fun q w hw hq => by rw [ho q hq]; exact hR.one q w hw hq, fun q x h1 h2 h3 => by rw [ho q h2]; exact hR.rest q x h1 h2 h3, fun q hq x hx => by rw [ho q (by have := hR.le; omega)]; exact hR.left q hq x hx⟩
  obtain ⟨q, hq, e⟩ := hR.sur i hi
  exact ⟨q, hq, by rw [ho q hq]; exact e⟩
/-- The exchange of two places of a list. -/
theorem swp_list {ord : List Nat} {k p r : Nat} (hl : ord.length = r) (hk : k < r) (hp : p < r) (i : Nat) : ((ord.set k (ord.getD p 0)).set p (ord.getD k 0)).getD i 0 = swp (fun i => ord.getD i 0) k p i := by
  unfold swp
  simp only [List.getD_eq_getElem?_getD, List.getElem?_set, List.length_set]
  by_cases e : i = p
  · subst e
    rw [if_pos rfl, if_pos (by omega)]
    by_cases e2 : i = k
    · subst e2; rw [if_pos rfl]; rfl
    · rw [if_neg e2, if_pos rfl]; rfl
  · rw [if_neg (fun h => e h.symm)]
    by_cases e2 : i = k
    · subst e2; rw [if_pos rfl, if_pos (by omega), if_pos rfl]; rfl
    · rw [if_neg (fun h => e2 h.symm), if_neg e2, if_neg e]
end Go.Proofs.Ytjpbdbgihakpmaa.Mat
