/- Of the program and its document, joined: WlLaw. -/
import Derived.Test.YtiapokojlkdddaaGreatPk22
import Derived.Test.YtiapokojlkdddaaGreatPk21
/- What laws with symbols made others need: the places of the others, one by one; a copied row, written. -/
namespace Go.Proofs.YtiapokojlkdddaaGreat.Wl
open Go.RowKit Go.Shelf F8 Poly GF Rd

theorem coef_l {a : List F8} (x : F8) {i : Nat} (h : i < a.length) : coef (a ++ [x]) i = coef a i := by
  simp [coef, List.getD_eq_getElem?_getD, List.getElem?_append_left h]
theorem coef_r (a : List F8) (x : F8) : coef (a ++ [x]) a.length = x := by
  simp [coef, List.getD_eq_getElem?_getD]
theorem others_snoc {pl : List Int} {a b : List F8} (z : Int) (x y : F8) (ha : a.length = pl.length) (hb : b.length = pl.length) : others (pl ++ [z]) (a ++ [x]) (b ++ [y]) = others pl a b ++ (if x = y then [] else [z]) := by
  unfold others
  rw [List.length_append, List.length_singleton, List.range_succ, List.filter_append, List.map_append]
  congr 1
  · have h1 : (List.range pl.length).filter (fun i => decide (coef (a ++ [x]) i ≠ coef (b ++ [y]) i)) = (List.range pl.length).filter (fun i => decide (coef a i ≠ coef b i)) := List.filter_congr fun i hi => by
      have hi := List.mem_range.1 hi
      rw [coef_l _ (by omega), coef_l _ (by omega)]
    rw [h1]
    refine List.map_congr_left fun i hi => ?_
    have hi := List.mem_range.1 (List.mem_filter.1 hi).1
    simp [List.getD_eq_getElem?_getD, List.getElem?_append_left hi]
  · have e1 : coef (a ++ [x]) pl.length = x := by rw [← ha]; exact coef_r a x
    have e2 : coef (b ++ [y]) pl.length = y := by rw [← hb]; exact coef_r b y
    simp only [List.filter_cons, List.filter_nil, e1, e2]
    by_cases h : x = y <;> simp [h]
theorem others_le (pl : List Int) (a b : List F8) : (others pl a b).length ≤ pl.length := by
  unfold others
  rw [List.length_map]
  exact Nat.le_trans (List.length_filter_le _ _) (by simp)
/-- Two rows of one's own that share no block. -/
def Apt (v v' : Value) : Prop := v.ownBlock = none ∨ v'.ownBlock = none ∨ v.ownBlock ≠ v'.ownBlock
theorem Apt.symm {v v' : Value} (h : Apt v v') : Apt v' v := by
  rcases h with h | h | h
  · exact .inr (.inl h)
  · exact .inl h
  · exact .inr (.inr fun e => h e.symm)
theorem Apt.ne {v v' : Value} (h : Apt v v') : v.ownBlock = none ∨ v.ownBlock ≠ v'.ownBlock := by
  rcases h with h | h | h
  · exact .inl h
  · rw [h]
    cases v.ownBlock with
    | none => exact .inl rfl
    | some x => exact .inr (by simp)
  · exact .inr h
theorem Apt.app {w : World} {B : Nat} {e : TypeId} {v v' v2 : Value} {xs : List Value} (h : Apt v v') (h' : Own w B e v' xs) (hb : v2.ownBlock = v.ownBlock ∨ v2.ownBlock = some w.heap.size) : Apt v2 v' := by
  rcases hb with hb | hb
  · unfold Apt
    rw [hb]
    exact h
  · obtain ⟨A, c, -, -, hlt⟩ := h'.form
    cases hv : v'.ownBlock with
    | none => exact .inr (.inl hv)
    | some x => exact .inr (.inr (by
        rw [hb, hv]
        intro e
        have h1 := (hlt _ hv).2
        have h2 := Option.some.inj e
        omega))
theorem bytes_set {w : World} {a n : Nat} {Y : List F8} (h : Bytes w (some ⟨a, 0, none⟩) (bs Y)) (hc : Conv w a n) (hn : Y.length = n) {i : Nat} (hi : i < n) (v : F8) : Bytes (w.setCell ⟨a, i, none⟩ (.int .u8 (v.n : Nat))) (some ⟨a, 0, none⟩) (bs (Y.set i v)) := by
  refine ⟨fun k u hk => ⟨a, 0, rfl, ?_⟩, bs_lt _⟩
  rw [Nat.zero_add]
  rw [← bvs_put] at hk
  by_cases hik : k = i
  · subst hik
    rw [List.getElem?_set_self (by rw [bvs_length]; omega)] at hk
    obtain rfl := Option.some.inj hk
    obtain ⟨⟨x, hx⟩, _⟩ := hc.cell hi
    exact World.cell?_setCell_same w _ _ hx
  · rw [List.getElem?_set_ne (fun e => hik e.symm)] at hk
    obtain ⟨b, off, e1, e2⟩ := h.row k u hk
    cases e1
    rw [Nat.zero_add] at e2
    exact (World.cell?_setCell_other _ _ _ _ (by intro e; have := congrArg Addr.off e; simp at this; omega)).trans e2
end Go.Proofs.YtiapokojlkdddaaGreat.Wl
