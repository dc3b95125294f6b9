/- Of the program, joined: TrMath, Kit, ElMap, Kit2, Past, GfOnce, GfBits. -/
import Derived.Test.YtjoghbmedfmioabGreatPt01
import Derived.Below
import Derived.Laws.OwnMore
import Derived.Deep.Draws
import Derived.Lib.Hide
import Derived.Laws.NewBlocks
import Derived.Maps.AppendAt
import Derived.OwnWalk
import Derived.RegionTactic
import Derived.Test.YtjoghbmedfmioabGreatRows
import Derived.Maps.OwnSet
import Derived.WideKeyPair
import Derived.DeepKeys4
import Derived.WalkArith
import Derived.Tactics
import Derived.Tactics2
import Derived.Defers
import Derived.WalkKit
import Derived.Laws.Pointers
import Derived.Laws.LoneSync
import Derived.RegionCalls
import Derived.ChangeAlike
import Derived.Laws.BitsAllLaws
import Derived.IntWalk
namespace Go.Proofs.YtjoghbmedfmioabGreat.Tr
open F8 Poly Rd
theorem snoc_ind {α : Type} {P : List α → Prop} (nil : P []) (more : ∀ l x, P l → P (l ++ [x])) (l : List α) : P l := by
 have h : ∀ r : List α, P r.reverse := fun r => by
  induction r with
  | nil => exact nil
  | cons x r ih => rw [List.reverse_cons]; exact more _ _ ih
 have := h l.reverse
 rwa [List.reverse_reverse] at this
def rs (n : Nat) : Nat → Nat
 | 0 => 0
 | a + 1 => rs n a + (n - 1 - a)
def pl (n a b : Nat) : Nat := rs n a + (b - a - 1)
def plc (n i j : Nat) : Nat := pl n (min i j) (max i j)
theorem rs_succ (n a : Nat) : rs n (a + 1) = rs n a + (n - 1 - a) := rfl
theorem rs_mono (n : Nat) {a b : Nat} (h : a ≤ b) : rs n a ≤ rs n b := by
 induction b with
 | zero =>
  have : a = 0 := by omega
  subst this; exact Nat.le_refl _
 | succ b ih =>
  rw [rs_succ]
  rcases Nat.lt_or_ge b a with h1 | h1
  ·have : a = b + 1 := by omega
   subst this; rw [rs_succ]; exact Nat.le_refl _
  ·have := ih h1; omega
theorem pl_lt {n a b c : Nat} (h1 : a < b) (h2 : b < n) (h3 : a < c) : pl n a b < rs n c := by
 have h := rs_mono n (show a + 1 ≤ c from h3)
 rw [rs_succ] at h
 unfold pl
 omega
theorem pl_ge (n a b : Nat) : rs n a ≤ pl n a b := by unfold pl; omega
theorem pl_inj {n a b c d : Nat} (h1 : a < b) (h2 : b < n) (h3 : c < d) (h4 : d < n) (h : pl n a b = pl n c d) : a = c ∧ b = d := by
 have h5 : a = c := by
  rcases Nat.lt_trichotomy a c with h6 | h6 | h6
  ·have := pl_lt h1 h2 h6; have := pl_ge n c d; omega
  ·exact h6
  ·have := pl_lt h3 h4 h6; have := pl_ge n a b; omega
 subst h5
 unfold pl at h
 exact ⟨rfl, by omega⟩
theorem plc_lt {n i j : Nat} (hi : i < n) (hj : j < n) (h : i ≠ j) : plc n i j < rs n n := by
 unfold plc
 rcases Nat.lt_or_ge i j with h1 | h1
 ·rw [Nat.min_eq_left (by omega), Nat.max_eq_right (by omega)]
  exact pl_lt h1 hj hi
 ·rw [Nat.min_eq_right (by omega), Nat.max_eq_left (by omega)]
  exact pl_lt (by omega) hi hj
theorem plc_comm (n i j : Nat) : plc n i j = plc n j i := by unfold plc; rw [Nat.min_comm, Nat.max_comm]
theorem plc_inj {n i j u v : Nat} (hi : i < n) (hj : j < n) (h : i ≠ j) (hu : u < n) (hv : v < n) (h' : u ≠ v) (he : plc n i j = plc n u v) : (i = u ∧ j = v) ∨ (i = v ∧ j = u) := by
 unfold plc at he
 have := pl_inj (a := min i j) (b := max i j) (c := min u v) (d := max u v) (by omega) (by omega) (by omega) (by omega) he
 omega
theorem edges_n : ∀ n : Nat, n < 24 → rs n n = n * (n - 1) / 2 ∧ rs n n ≤ 255 := by decide +kernel
theorem bytes_k : ∀ n : Nat, n < 24 → ∀ k : Nat, k < 24 → k < n → ((k : Int) * ((n : Int) - 1) - ((k : Int) * ((k : Int) - 1)) / 2 = (rs n k : Nat)) := by decide +kernel
theorem rs_pos {n k : Nat} (h1 : 1 ≤ k) (h2 : k < n) : 1 ≤ rs n k := by
 have := rs_mono n h1
 have h3 : rs n 1 = n - 1 := by show 0 + (n - 1 - 0) = _; omega
 omega
def oth (n i : Nat) : List Nat := (List.range n).filter fun j => decide (j ≠ i)
theorem mem_oth {n i j : Nat} : j ∈ oth n i ↔ j < n ∧ j ≠ i := by simp [oth]
theorem oth_nodup (n i : Nat) : (oth n i).Nodup := List.nodup_range.sublist List.filter_sublist
theorem oth_eq {n i : Nat} (h : i < n) : oth n i = List.range i ++ (List.range (n - 1 - i)).map (· + (i + 1)) := by
 have e : List.range n = List.range i ++ (i :: (List.range (n - 1 - i)).map (· + (i + 1))) := by
  have h1 : n = i + ((n - 1 - i) + 1) := by omega
  conv => lhs; rw [h1, List.range_add, List.range_succ_eq_map]
  simp [List.map_map, Function.comp_def, Nat.add_left_comm]
 unfold oth
 rw [e, List.filter_append, List.filter_cons_of_neg (by simp)]
 congr 1
 ·rw [List.filter_eq_self]; intro j hj; have := List.mem_range.1 hj; simp; omega
 ·rw [List.filter_eq_self]; intro j hj; obtain ⟨u, _, rfl⟩ := List.mem_map.1 hj; simp; omega
theorem oth_length {n i : Nat} (h : i < n) : (oth n i).length = n - 1 := by rw [oth_eq h]; simp; omega
def idx (i j : Nat) : Nat := if j > i then j - 1 else j
theorem oth_idx {n i j : Nat} (hi : i < n) (hj : j < n) (h : j ≠ i) : (oth n i)[idx i j]? = some j := by
 rw [oth_eq hi]
 unfold idx
 split
 ·rw [List.getElem?_append_right (by simp; omega), List.length_range, List.getElem?_map, List.getElem?_range (by omega)]
  simp; omega
 ·rw [List.getElem?_append_left (by simp; omega), List.getElem?_range (by omega)]
theorem idx_lt {n i j : Nat} (hi : i < n) (hj : j < n) (h : j ≠ i) : idx i j < n - 1 := by unfold idx; split <;> omega
def plcs (n i : Nat) : List Nat := (oth n i).map (plc n i)
def shr (n : Nat) (w : List F8) (i : Nat) : List F8 := (plcs n i).map (coef w)
theorem plcs_length {n i : Nat} (h : i < n) : (plcs n i).length = n - 1 := by rw [plcs, List.length_map, oth_length h]
theorem shr_length {n i : Nat} (w : List F8) (h : i < n) : (shr n w i).length = n - 1 := by rw [shr, List.length_map, plcs_length h]
theorem plcs_lt {n i p : Nat} (hi : i < n) (h : p ∈ plcs n i) : p < rs n n := by
 obtain ⟨j, hj, rfl⟩ := List.mem_map.1 h
 have := mem_oth.1 hj
 exact plc_lt hi this.1 (fun e => this.2 e.symm)
theorem plcs_nodup {n i : Nat} (hi : i < n) : (plcs n i).Nodup := by
 unfold plcs
 refine List.nodup_iff_pairwise_ne.2 (List.pairwise_map.2 ((oth_nodup n i).imp_of_mem fun {a b} ha hb hne e => hne ?_))
 have h1 := mem_oth.1 ha
 have h2 := mem_oth.1 hb
 rcases plc_inj hi h1.1 (fun e => h1.2 e.symm) hi h2.1 (fun e => h2.2 e.symm) e with h | h
 ·exact h.2
 ·exact absurd h.2 h1.2
def add (D : List (Nat × F8)) (x : Nat × F8) : List (Nat × F8) := if x.1 ∈ D.map Prod.fst then D else D ++ [x]
def seen (L : List (Nat × F8)) : List (Nat × F8) := L.foldl add []
theorem seen_snoc (L : List (Nat × F8)) (x : Nat × F8) : seen (L ++ [x]) = add (seen L) x := by unfold seen; rw [List.foldl_append]; rfl
theorem seen_places (L : List (Nat × F8)) (p : Nat) : p ∈ (seen L).map Prod.fst ↔ p ∈ L.map Prod.fst := by
 induction L using snoc_ind with
 | nil => rfl
 | more L x ih =>
  rw [seen_snoc]
  unfold add
  split
  ·rename_i h
   rw [ih, List.map_append, List.mem_append]
   constructor
   ·exact .inl
   ·rintro (h1 | h1)
    ·exact h1
    ·have : p = x.1 := by simpa using h1
     subst this; exact ih.1 h
  ·rw [List.map_append, List.mem_append, List.map_append, List.mem_append, ih]
theorem seen_sub (L : List (Nat × F8)) : ∀ d ∈ seen L, d ∈ L := by
 induction L using snoc_ind with
 | nil => intro d h; exact h
 | more L x ih =>
  intro d hd
  rw [seen_snoc] at hd
  unfold add at hd
  split at hd
  ·exact List.mem_append_left _ (ih d hd)
  ·rcases List.mem_append.1 hd with h | h
   ·exact List.mem_append_left _ (ih d h)
   ·exact List.mem_append_right _ h
theorem seen_nodup (L : List (Nat × F8)) : ((seen L).map Prod.fst).Nodup := by
 induction L using snoc_ind with
 | nil => exact List.nodup_nil
 | more L x ih =>
  rw [seen_snoc]
  unfold add
  split
  ·exact ih
  ·rename_i h
   rw [List.map_append, List.nodup_append]
   refine ⟨ih, by simp, fun a ha b hb e => h ?_⟩
   have e1 : b = x.1 := by simpa using hb
   rw [← e1, ← e]; exact ha
theorem seen_count (L M : List (Nat × F8)) (hM : (M.map Prod.fst).Nodup) : (seen (L ++ M)).length = (seen L).length + (M.filter fun x => decide (x.1 ∉ L.map Prod.fst)).length := by
 induction M using snoc_ind with
 | nil => simp
 | more M x ih =>
  rw [List.map_append, List.nodup_append] at hM
  rw [← List.append_assoc, seen_snoc, List.filter_append, List.length_append]
  have ih' := ih hM.1
  have hx : x.1 ∉ M.map Prod.fst := fun h => hM.2.2 _ h x.1 (by simp) rfl
  have hm : x.1 ∈ (seen (L ++ M)).map Prod.fst ↔ x.1 ∈ L.map Prod.fst := by
   rw [seen_places, List.map_append, List.mem_append]
   exact ⟨fun h => h.resolve_right hx, .inl⟩
  unfold add
  by_cases h : x.1 ∈ L.map Prod.fst
  ·rw [if_pos (hm.2 h), List.filter_cons_of_neg (by simpa using h), ih']; simp
  ·rw [if_neg (fun e => h (hm.1 e)), List.filter_cons_of_pos (by simpa using h), List.length_append, ih']
   simp [Nat.add_assoc]
def items (n : Nat) (sh : List (Nat × List F8)) : List (Nat × F8) := sh.flatMap fun o => (plcs n o.1).zip o.2
theorem zip_fst {n i : Nat} {s : List F8} (hi : i < n) (hs : s.length = n - 1) : ((plcs n i).zip s).map Prod.fst = plcs n i := by
 rw [List.map_fst_zip]
 rw [plcs_length hi, hs]; exact Nat.le_refl _
theorem mem_items {n : Nat} {sh : List (Nat × List F8)} (h : ∀ o ∈ sh, o.1 < n ∧ o.2.length = n - 1) {p : Nat} : p ∈ (items n sh).map Prod.fst ↔ ∃ o ∈ sh, p ∈ plcs n o.1 := by
 unfold items
 rw [List.map_flatMap]
 simp only [List.mem_flatMap]
 constructor
 ·rintro ⟨o, ho, hp⟩
  rw [zip_fst (h o ho).1 (h o ho).2] at hp
  exact ⟨o, ho, hp⟩
 ·rintro ⟨o, ho, hp⟩
  exact ⟨o, ho, by rw [zip_fst (h o ho).1 (h o ho).2]; exact hp⟩
theorem plcs_share {n i o j : Nat} (hi : i < n) (ho : o < n) (hio : o ≠ i) (hj : j < n) (hji : j ≠ i) : plc n i j ∈ plcs n o ↔ j = o := by
 unfold plcs
 rw [List.mem_map]
 constructor
 ·rintro ⟨u, hu, e⟩
  have h1 := mem_oth.1 hu
  rcases plc_inj ho h1.1 (fun e => h1.2 e.symm) hi hj (fun e => hji e.symm) e with h | h
  ·exact absurd h.1 hio
  ·exact h.1.symm
 ·rintro rfl
  exact ⟨i, mem_oth.2 ⟨hi, fun e => hji e.symm⟩, plc_comm _ _ _⟩
theorem strike_le : ∀ (ns l : List Nat), l.Nodup → l.length ≤ (l.filter fun j => decide (j ∉ ns)).length + ns.length
 | [], l, _ => by rw [List.filter_eq_self.2 (by simp)]; simp
 | a :: ns, l, h => by
  have ih := strike_le ns l h
  have h2 : (l.filter fun j => decide (j ∉ ns)).length ≤ (l.filter fun j => decide (j ∉ a :: ns)).length + 1 := by
   have hn : (l.filter fun j => decide (j ∉ ns)).Nodup := h.sublist List.filter_sublist
   have e : (l.filter fun j => decide (j ∉ a :: ns)) = (l.filter fun j => decide (j ∉ ns)).filter fun j => decide (j ≠ a) := by
    rw [List.filter_filter]
    exact List.filter_congr fun j _ => by simp
   rw [e]
   generalize (l.filter fun j => decide (j ∉ ns)) = m at hn ⊢
   induction m with
   | nil => simp
   | cons x m ih2 =>
    have hnm := List.nodup_cons.1 hn
    by_cases hx : x = a
    ·subst hx
     rw [List.filter_cons_of_neg (by simp), List.filter_eq_self.2 (fun j hj => by
      have : j ≠ x := fun e => hnm.1 (e ▸ hj)
      simpa using this)]
     simp
    ·rw [List.filter_cons_of_pos (by simpa using hx)]
     have := ih2 hnm.2
     simp only [List.length_cons]; omega
  rw [List.length_cons]; omega
theorem seen_items {n : Nat} : ∀ sh : List (Nat × List F8), (∀ o ∈ sh, o.1 < n ∧ o.2.length = n - 1) → (sh.map Prod.fst).Nodup → rs n sh.length ≤ (seen (items n sh)).length := by
 intro sh
 induction sh using snoc_ind with
 | nil => intro _ _; exact Nat.le_refl _
 | more sh o ih =>
  intro h hn
  rw [List.map_append, List.nodup_append] at hn
  have ih' := ih (fun u hu => h u (List.mem_append_left _ hu)) hn.1
  have ho := h o (by simp)
  have e : items n (sh ++ [o]) = items n sh ++ (plcs n o.1).zip o.2 := by unfold items; rw [List.flatMap_append]; simp
  rw [e, seen_count _ _ (by rw [zip_fst ho.1 ho.2]; exact plcs_nodup ho.1), List.length_append]
  show rs n (sh.length + 1) ≤ _
  rw [rs_succ]
  have h1 : ((((plcs n o.1).zip o.2).filter fun x => decide (x.1 ∉ (items n sh).map Prod.fst)).map Prod.fst) = (plcs n o.1).filter fun p => decide (p ∉ (items n sh).map Prod.fst) := by
   conv => rhs; rw [← zip_fst ho.1 ho.2]
   rw [List.filter_map]; rfl
  have h2 : (((plcs n o.1).zip o.2).filter fun x => decide (x.1 ∉ (items n sh).map Prod.fst)).length = ((oth n o.1).filter fun j => decide (j ∉ sh.map Prod.fst)).length := by
   rw [← List.length_map (f := Prod.fst), h1]
   unfold plcs
   rw [List.filter_map, List.length_map]
   congr 1
   refine List.filter_congr fun j hj => ?_
   have hj' := mem_oth.1 hj
   show decide (plc n o.1 j ∉ (items n sh).map Prod.fst) = decide (j ∉ sh.map Prod.fst)
   rw [decide_eq_decide]
   refine not_congr ?_
   rw [mem_items (fun u hu => h u (List.mem_append_left _ hu))]
   constructor
   ·rintro ⟨u, hu, hp⟩
    have hne : u.1 ≠ o.1 := fun e => hn.2.2 u.1 (List.mem_map_of_mem hu) o.1 (by simp) e
    rw [plcs_share ho.1 (h u (List.mem_append_left _ hu)).1 hne hj'.1 hj'.2] at hp
    subst hp
    exact List.mem_map_of_mem hu
   ·intro hm
    obtain ⟨u, hu, rfl⟩ := List.mem_map.1 hm
    exact ⟨u, hu, (plcs_share ho.1 hj'.1 hj'.2 hj'.1 hj'.2).2 rfl⟩
  rw [h2]
  have h3 := strike_le (sh.map Prod.fst) (oth n o.1) (oth_nodup n o.1)
  rw [oth_length ho.1, List.length_map] at h3
  omega
def Tells (n k : Nat) (xs : List F8) (sh : List (Nat × List F8)) (m : List F8) : Prop := m.length = rs n k ∧ ∀ o ∈ sh, o.2 = shr n (word m xs) o.1
def Cons (L : List (Nat × F8)) : Prop := ∀ x ∈ L, ∀ y ∈ L, x.1 = y.1 → x.2 = y.2
theorem share_items {n : Nat} {w : List F8} {sh : List (Nat × List F8)} (h : ∀ o ∈ sh, o.1 < n ∧ o.2.length = n - 1) : (∀ o ∈ sh, o.2 = shr n w o.1) ↔ ∀ x ∈ items n sh, x.2 = coef w x.1 := by
 have one : ∀ o : Nat × List F8, o.2.length = (plcs n o.1).length → (o.2 = (plcs n o.1).map (coef w) ↔ ∀ x ∈ (plcs n o.1).zip o.2, x.2 = coef w x.1) := by
  rintro ⟨i, s⟩ hl
  show s = _ ↔ _
  simp only at hl
  generalize plcs n i = P at hl
  induction P generalizing s with
  | nil => cases s with | nil => simp | cons a s => simp at hl
  | cons p P ih => cases s with
   | nil => simp at hl
   | cons a s =>
    have := ih s (by simpa using hl)
    simp only [List.map_cons, List.zip_cons_cons, List.mem_cons, forall_eq_or_imp, List.cons.injEq]
    rw [this]
 unfold items
 simp only [List.mem_flatMap, forall_exists_index, and_imp]
 constructor
 ·intro hs x o ho hx
  exact (one o (by rw [plcs_length (h o ho).1, (h o ho).2])).1 (hs o ho) x hx
 ·intro hs o ho
  exact (one o (by rw [plcs_length (h o ho).1, (h o ho).2])).2 fun x hx => hs x o ho hx
def plI (D : List (Nat × F8)) : List Int := D.map fun d => (d.1 : Int)
def ysD (D : List (Nat × F8)) : List F8 := D.map Prod.snd
theorem plI_ok {n N : Nat} {sh : List (Nat × List F8)} (hN : rs n n = N) (h : ∀ o ∈ sh, o.1 < n ∧ o.2.length = n - 1) : OkP N (plI (seen (items n sh))) := by
 constructor
 ·intro i hi
  obtain ⟨d, hd, rfl⟩ := List.mem_map.1 hi
  have h1 := seen_sub _ d hd
  obtain ⟨o, ho, hp⟩ := (mem_items h).1 (List.mem_map_of_mem h1)
  have := plcs_lt (h o ho).1 hp
  omega
 ·have h2 := seen_nodup (items n sh)
  unfold plI
  have e : (seen (items n sh)).map (fun d => (d.1 : Int)) = ((seen (items n sh)).map Prod.fst).map fun p : Nat => (p : Int) := by rw [List.map_map]; rfl
  rw [e]
  refine List.nodup_iff_pairwise_ne.2 (List.pairwise_map.2 ((List.nodup_iff_pairwise_ne.1 h2).imp fun hne e => hne (by omega)))
theorem tells_word {n k : Nat} {xs : List F8} {sh : List (Nat × List F8)} {m : List F8} (hx : xs.length = rs n n) (h : ∀ o ∈ sh, o.1 < n ∧ o.2.length = n - 1) (hm : m.length = rs n k) :
  Tells n k xs sh m ↔ Cons (items n sh) ∧ word m (ptsAt xs (plI (seen (items n sh)))) = ysD (seen (items n sh)) := by
 have hok := plI_ok (hx.symm) h
 have key : word m (ptsAt xs (plI (seen (items n sh)))) = (seen (items n sh)).map fun d => coef (word m xs) d.1 := by
  unfold word ptsAt plI
  rw [List.map_map, List.map_map]
  refine List.map_congr_left fun d hd => ?_
  have h1 := hok.1 (d.1 : Int) (List.mem_map_of_mem hd)
  have : d.1 < xs.length := by omega
  show eval m (coef xs ((d.1 : Int)).toNat) = coef (word m xs) d.1
  rw [word_get this]; rfl
 rw [key]
 unfold Tells
 rw [share_items h]
 constructor
 ·rintro ⟨-, hs⟩
  refine ⟨fun x hx y hy e => by rw [hs x hx, hs y hy, e], ?_⟩
  exact List.map_congr_left fun d hd => (hs d (seen_sub _ d hd)).symm
 ·rintro ⟨hc, hs⟩
  refine ⟨hm, fun x hx => ?_⟩
  obtain ⟨d, hd, e⟩ := List.mem_map.1 ((seen_places _ _).2 (List.mem_map_of_mem (f := Prod.fst) hx))
  have h1 := List.map_inj_left.1 hs d hd
  rw [← e, h1]
  exact hc x hx d (seen_sub _ d hd) e.symm
theorem tells_only {n k : Nat} {xs : List F8} {sh : List (Nat × List F8)} {m m' : List F8} (hx : xs.length = rs n n) (hd : xs.Nodup) (h : ∀ o ∈ sh, o.1 < n ∧ o.2.length = n - 1) (hn : (sh.map Prod.fst).Nodup) (hk : k ≤ sh.length)
  (h1 : Tells n k xs sh m) (h2 : Tells n k xs sh m') : m = m' := by
 have e1 := ((tells_word hx h h1.1).1 h1).2
 have e2 := ((tells_word hx h h2.1).1 h2).2
 have hok := plI_ok (hx.symm) h
 refine msg_only h1.1 h2.1 ?_ (ptsAt_nodup hd hok) (e1.trans e2.symm)
 rw [ptsAt_length]
 have := seen_items sh h hn
 have := rs_mono n hk
 simp [plI]; omega
def ShOk (n s : Nat) (sh : List (Int × List F8)) : Prop := (∀ o ∈ sh, (0 ≤ o.1 ∧ o.1 < (n : Int)) ∧ o.2.length = s) ∧ (sh.map Prod.fst).Nodup
def nat (sh : List (Int × List F8)) : List (Nat × List F8) := sh.map fun o => (o.1.toNat, o.2)
theorem nat_ok {n s : Nat} {sh : List (Int × List F8)} (h : ShOk n s sh) : (∀ o ∈ nat sh, o.1 < n ∧ o.2.length = s) ∧ ((nat sh).map Prod.fst).Nodup := by
 constructor
 ·intro o ho
  obtain ⟨u, hu, rfl⟩ := List.mem_map.1 ho
  have := h.1 u hu
  exact ⟨by show u.1.toNat < n; omega, this.2⟩
 ·have e : (nat sh).map Prod.fst = (sh.map Prod.fst).map Int.toNat := by unfold nat; rw [List.map_map, List.map_map]; rfl
  rw [e]
  refine List.nodup_iff_pairwise_ne.2 (List.pairwise_map.2 ((List.nodup_iff_pairwise_ne.1 h.2).imp_of_mem fun {a b} ha hb hne e => hne ?_))
  obtain ⟨u, hu, rfl⟩ := List.mem_map.1 ha
  obtain ⟨v, hv, rfl⟩ := List.mem_map.1 hb
  have h1 := h.1 u hu
  have h2 := h.1 v hv
  omega
def TIs (n k : Nat) (xs : List F8) (sh : List (Int × List F8)) (m : List F8) (z : Int) : Prop :=
 (¬ ShOk n (n - 1) sh ∧ m = [] ∧ z = 2) ∨
 (ShOk n (n - 1) sh ∧ sh.length < k ∧ m = [] ∧ z = 70) ∨
 (ShOk n (n - 1) sh ∧ k ≤ sh.length ∧ z = 0 ∧ Tells n k xs (nat sh) m) ∨
 (ShOk n (n - 1) sh ∧ k ≤ sh.length ∧ z = 80 ∧ m = [] ∧ ∀ m', ¬ Tells n k xs (nat sh) m')
theorem nat_length (sh : List (Int × List F8)) : (nat sh).length = sh.length := by simp [nat]
theorem TIs.only {n k : Nat} {xs : List F8} {sh : List (Int × List F8)} {m m' : List F8} {z z' : Int} (hx : xs.length = rs n n) (hd : xs.Nodup) (h : TIs n k xs sh m z) (h' : TIs n k xs sh m' z') : m = m' ∧ z = z' := by
 rcases h with ⟨a, h1, h2⟩ | ⟨a, b, h1, h2⟩ | ⟨a, b, h1, h2⟩ | ⟨a, b, h1, h2, h3⟩ <;>
 rcases h' with ⟨a', h1', h2'⟩ | ⟨a', b', h1', h2'⟩ | ⟨a', b', h1', h2'⟩ | ⟨a', b', h1', h2', h3'⟩ <;>
 first
  | exact absurd a' a
  | exact absurd a a'
  | exact absurd b (by omega)
  | exact ⟨h1.trans h1'.symm, h2.trans h2'.symm⟩
  | exact ⟨h2.trans h2'.symm, h1.trans h1'.symm⟩
  | exact absurd h2 (h3' m)
  | exact absurd h2' (h3 m')
  | exact ⟨tells_only hx hd (nat_ok a).1 (nat_ok a).2 (by rw [nat_length]; exact b) h2 h2', h1.trans h1'.symm⟩
theorem tis_of {n k : Nat} {xs : List F8} {sh : List (Int × List F8)} {l : List F8} {z : Int} (hx : xs.length = rs n n) (hok : ShOk n (n - 1) sh) (hk : k ≤ sh.length) (hc : Cons (items n (nat sh)))
  (h : DecIs xs (rs n k) (plI (seen (items n (nat sh)))) (ysD (seen (items n (nat sh)))) l z) : TIs n k xs sh (if z = 0 then l else []) (if z = 0 then 0 else 80) := by
 obtain ⟨h1, h2⟩ := nat_ok hok
 have hpl := plI_ok (hx.symm) h1
 have hlen : (plI (seen (items n (nat sh)))).length = (ysD (seen (items n (nat sh)))).length := by simp [plI, ysD]
 rcases h with ⟨a, -⟩ | ⟨-, b, -⟩ | ⟨-, b, rfl, hl, hw⟩ | ⟨-, b, rfl, rfl, hno⟩
 ·exact absurd ⟨hlen, hx ▸ hpl⟩ a
 ·have h3 := seen_items (nat sh) h1 h2
  rw [nat_length] at h3
  have := rs_mono n hk
  have : (plI (seen (items n (nat sh)))).length = (seen (items n (nat sh))).length := by simp [plI]
  omega
 ·exact .inr (.inr (.inl ⟨hok, hk, rfl, (tells_word hx h1 hl).2 ⟨hc, hw⟩⟩))
 ·exact .inr (.inr (.inr ⟨hok, hk, rfl, rfl, fun m' hm' => hno m' hm'.1 ((tells_word hx h1 hm'.1).1 hm').2⟩))
theorem tis_lost {n k : Nat} {xs : List F8} {sh : List (Int × List F8)} (hx : xs.length = rs n n) (hok : ShOk n (n - 1) sh) (hk : k ≤ sh.length) (hc : ¬ Cons (items n (nat sh))) : TIs n k xs sh [] 80 :=
 .inr (.inr (.inr ⟨hok, hk, rfl, rfl, fun _ hm' => hc ((tells_word hx (nat_ok hok).1 hm'.1).1 hm').1⟩))
end Go.Proofs.YtjoghbmedfmioabGreat.Tr

namespace Go.Proofs.YtjoghbmedfmioabGreat
open Go.RowKit
def Row (w : World) (A : Option Addr) (xs : List Value) : Prop :=
 ∀ k u, xs[k]? = some u → ∃ b off, A = some ⟨b, off, none⟩ ∧ w.cell? ⟨b, off + k, none⟩ = some u
theorem cell_lt {w : World} {a : Addr} {u : Value} (h : w.cell? a = some u) : a.block < w.heap.size := by
 rcases Nat.lt_or_ge a.block w.heap.size with hlt | hge
 ·exact hlt
 ·unfold World.cell? at h; rw [Array.getElem?_eq_none hge] at h; cases h
section
variable {w w' : World} {A : Option Addr} {xs : List Value}
theorem Row.nil (w : World) (A : Option Addr) : Row w A [] := fun _ _ h => by simp at h
theorem Row.keep (h : Row w A xs) (hk : ∀ p : Addr, p.block < w.heap.size → w'.cell? p = w.cell? p) : Row w' A xs := fun k u hu => by
 obtain ⟨b, off, rfl, hc⟩ := h k u hu
 exact ⟨b, off, rfl, by rw [hk _ (cell_lt hc)]; exact hc⟩
theorem Row.below (h : Row w A xs) (hb : Below w.heap.size w w') : Row w' A xs := h.keep fun _ hp => hb.cell hp
theorem Row.drewN (h : Row w A xs) (n : Nat) : Row (w.drewN n) A xs := h
theorem Row.drew (h : Row w A xs) : Row w.drew A xs := h
theorem Row.alloc (h : Row w A xs) (o : Obj) : Row (w.alloc o) A xs := h.keep fun p hp => World.cell?_alloc_lt w o p hp
theorem Row.of_own {base : Nat} {e : TypeId} {n c : Nat} (h : w.ownsRow base e 1 (.slice A n c) n xs) : Row w A xs := by
 intro k u hu
 rcases h.2 with ⟨he, hn⟩ | ⟨g, cap, cur, hv, _, hh, _, _, _, ht⟩
 ·have := h.1; subst hn; have : xs = [] := List.eq_nil_of_length_eq_zero (by simpa using this); subst this; simp at hu
 ·injection hv with hA
  subst hA
  refine ⟨g, 0, rfl, ?_⟩
  have hk : k < n * 1 := by have := h.1; have := (List.getElem?_eq_some_iff.1 hu).1; omega
  rw [← ht, List.getElem?_take, if_pos hk, Array.getElem?_toList] at hu
  simp [World.cell?, hh, hu]
theorem Row.at_ (h : Row w A xs) {k : Nat} (hk : k < xs.length) : ∃ b off, A = some ⟨b, off, none⟩ ∧ w.cell? ⟨b, off + k, none⟩ = some xs[k] :=
 h k _ (List.getElem?_eq_getElem hk)
end
def bv (l : List Nat) : List Value := l.map fun n : Nat => Value.int .u8 (n : Int)
theorem bv_length (l : List Nat) : (bv l).length = l.length := by simp [bv]
theorem bv_append (a b : List Nat) : bv (a ++ b) = bv a ++ bv b := by simp [bv]
structure Bytes (w : World) (A : Option Addr) (l : List Nat) : Prop where
 row : Row w A (bv l)
 lt : ∀ c ∈ l, c < 256
section
variable {w w' : World} {A : Option Addr} {l : List Nat}
theorem Bytes.nil (w : World) (A : Option Addr) : Bytes w A [] := ⟨Row.nil w A, by simp⟩
theorem Bytes.below (h : Bytes w A l) (hb : Below w.heap.size w w') : Bytes w' A l := ⟨h.row.below hb, h.lt⟩
theorem Bytes.drewN (h : Bytes w A l) (n : Nat) : Bytes (w.drewN n) A l := ⟨h.row, h.lt⟩
theorem Bytes.drew (h : Bytes w A l) : Bytes w.drew A l := ⟨h.row, h.lt⟩
theorem Bytes.alloc (h : Bytes w A l) (o : Obj) : Bytes (w.alloc o) A l := ⟨h.row.alloc o, h.lt⟩
theorem Bytes.at_ (h : Bytes w A l) {k : Nat} (hk : k < l.length) : ∃ b off, A = some ⟨b, off, none⟩ ∧ w.cell? ⟨b, off + k, none⟩ = some (.int .u8 (l[k] : Int)) ∧ l[k] < 256 := by
 obtain ⟨b, off, e, hc⟩ := h.row.at_ (k := k) (by simpa [bv] using hk)
 exact ⟨b, off, e, by simpa [bv] using hc, h.lt _ (List.getElem_mem _)⟩
end
def Block (w : World) (g : Nat) (t : TypeId) (cs : Array Value) : Prop := w.heap[g]? = some (.cells cs t (0, 0))
section
variable {w w' : World} {g : Nat} {t : TypeId} {cs : Array Value}
theorem Block.lt (h : Block w g t cs) : g < w.heap.size := by
 rcases Nat.lt_or_ge g w.heap.size with hlt | hge
 ·exact hlt
 ·unfold Block at h; rw [Array.getElem?_eq_none hge] at h; cases h
theorem Block.cell (h : Block w g t cs) (i : Nat) : w.cell? ⟨g, i, none⟩ = cs[i]? := by
 unfold Block at h; simp [World.cell?, h]
theorem Block.frozen (h : Block w g t cs) (i : Nat) : w.frozen? ⟨g, i, none⟩ = false := by
 unfold Block at h; simp [World.frozen?, h]
theorem Block.new (w : World) (t : TypeId) (cs : Array Value) : Block (w.alloc (.cells cs t)) w.heap.size t cs := heap_alloc_new w _
theorem Block.drew (h : Block w g t cs) : Block w.drew g t cs := h
theorem Block.alloc (h : Block w g t cs) (o : Obj) : Block (w.alloc o) g t cs := (Below.heap_alloc w o g h.lt).trans h
theorem Block.set_ (h : Block w g t cs) (i : Nat) (u : Value) : Block (w.setCell ⟨g, i, none⟩ u) g t (cs.setIfInBounds i u) := by
 unfold Block at h ⊢
 simp [World.setCell, Array.getElem?_modify, h]
theorem Block.far (h : Block w g t cs) {p : Addr} (hp : g ≠ p.block) (u : Value) : Block (w.setCell p u) g t cs := (Below.heap_setCell w p u g hp).trans h
theorem Block.below {B : Nat} (h : Block w g t cs) (hb : Below B w w') (hg : g < B) : Block w' g t cs := (hb.block g hg).trans h
end
def Own (w : World) (B : Nat) (e : TypeId) (v : Value) (xs : List Value) : Prop := w.ownsRow B e 1 v xs.length xs
section
variable {w w' : World} {B : Nat} {e : TypeId} {v : Value} {xs : List Value}
theorem Own.nil (w : World) (B : Nat) (e : TypeId) : Own w B e (.slice none 0 0) [] := ⟨by simp, .inl ⟨rfl, rfl⟩⟩
theorem Own.lit (w : World) (B : Nat) (e : TypeId) (cs : Array Value) (n : Nat) (hB : B ≤ w.heap.size) (hn : cs.size = n) (hm : n ≤ maxLen) : Own (w.alloc (.cells cs e)) B e (.slice (some ⟨w.heap.size, 0, none⟩) n n) cs.toList := by
 have h := World.ownsRow_lit (base := B) (e := e) (size := 1) w cs n hB hm (by omega)
 unfold Own
 rw [Array.length_toList, hn]
 exact h
theorem Own.form (h : Own w B e v xs) : ∃ A c, v = .slice A xs.length c ∧ Row w A xs ∧ (∀ b, v.ownBlock = some b → B ≤ b ∧ b < w.heap.size) := by
 have hh := h
 refine (show ∃ A c, v = .slice A xs.length c ∧ Row w A xs by
  rcases h.2 with ⟨rfl, hn⟩ | ⟨g, cap, cur, rfl, _⟩
  ·have : xs = [] := List.eq_nil_of_length_eq_zero (by omega)
   subst this
   exact ⟨none, 0, rfl, Row.nil _ _⟩
  ·exact ⟨_, cap, rfl, Row.of_own hh⟩).imp fun A ⟨c, h1, h2⟩ => ⟨c, h1, h2, hh.lt⟩
theorem Own.drewN (h : Own w B e v xs) (n : Nat) : Own (w.drewN n) B e v xs := h
theorem Own.drew (h : Own w B e v xs) : Own w.drew B e v xs := h
theorem Own.alloc (h : Own w B e v xs) (o : Obj) : Own (w.alloc o) B e v xs := World.ownsRow.alloc h o
theorem Own.grown {row : Option Nat} (h : Own w B e v xs) (hg : w.grownBy w' row) (hne : v.ownBlock = none ∨ v.ownBlock ≠ row) : Own w' B e v xs := World.ownsRow.kept h hg hne
theorem Own.below (h : Own w B e v xs) (hb : Below w.heap.size w w') : Own w' B e v xs :=
 h.grown (row := none) ⟨hb.os, hb.tape, hb.output, hb.size, fun k hk _ => hb.block k hk⟩ (by cases v.ownBlock <;> simp)
theorem Own.more {B' : Nat} (h : Own w B e v xs) (hB : B' ≤ B) : Own w B' e v xs := by
 refine ⟨h.1, ?_⟩
 rcases h.2 with h2 | ⟨g, cap, cur, h1, h2, h3⟩
 ·exact .inl h2
 ·exact .inr ⟨g, cap, cur, h1, by omega, h3⟩
end
section
variable {P : Program} (w : World)
theorem run_append_nothing (t ty e : TypeId) (i : TypeInfo) (B : Nat) (ht : P.underlying t = some (.slice e)) (hi : P.info? e = some i)
  (v : Value) (xs : List Value) (hown : Own w B e v xs) (c : Nat) : (Builtin.append_ #[t, t] ty #[v, .slice none 0 c]).run P w = .ok v w := by
 rcases hown.2 with ⟨rfl, _⟩ | ⟨g, cap, cur, rfl, _, _, hnc, _⟩
 ·simp [Builtin.append_, run_underlying ht, sizeOf, typeInfo, hi, Builtin.lenOf, Builtin.firstCells]
 ·simp [Builtin.append_, run_underlying ht, sizeOf, typeInfo, hi, Builtin.lenOf, Builtin.firstCells, hnc, storeCells]
theorem run_app (B : Nat) (t ty e : TypeId) (z : Value) (bytes : Nat) (ht : P.underlying t = some (.slice e)) (hinfo : (P.info? e).map (fun i => (i.zero, i.size, i.bytes)) = some (some z, 1, bytes)) (hz : z.cells.size = 1)
  (v : Value) (xs : List Value) (hown : Own w B e v xs) (A : Option Addr) (m c : Nat) (ys : List Value) (hm : ys.length = m) (hr : Row w A ys) (h1 : ∀ u ∈ ys, u.oneCell' = true)
  (hb : 0 < bytes) (hlen : (xs.length + m) * bytes ≤ 140737488355328) (hB : B ≤ w.heap.size) :
  ∃ v' w', (Builtin.append_ #[t, t] ty #[v, .slice A m c]).run P w = .ok v' w' ∧ Own w' B e v' (xs ++ ys) ∧ w.grownBy w' v.ownBlock ∧ (v'.ownBlock = v.ownBlock ∨ v'.ownBlock = some w.heap.size) := by
 obtain ⟨i, hi, hi1, hi2, hi3⟩ := info_parts hinfo
 subst hm
 have h63 : xs.length + ys.length ≤ maxLen := by
  have := Nat.le_mul_of_pos_right (xs.length + ys.length) hb
  simp only [maxLen]; omega
 cases A with
 | none =>
  have hy : ys = [] := by
   cases ys with
   | nil => rfl
   | cons y ys => obtain ⟨b, off, h, _⟩ := hr 0 y rfl; cases h
  subst hy
  refine ⟨v, w, run_append_nothing w t ty e i B ht hi v xs hown c, ?_, World.grownBy.refl w _, .inl rfl⟩
  rw [List.append_nil]; exact hown
 | some ad =>
  have hcells : ∀ j u, ys[j]? = some u → w.cell? (ad.add j) = some u := by
   intro j u hu
   obtain ⟨b, off, h, hc⟩ := hr j u hu
   obtain rfl : ad = ⟨b, off, none⟩ := by injection h
   rw [show (⟨b, off, none⟩ : Addr).add j = ⟨b, off + j, none⟩ by unfold Addr.add; split <;> simp_all]
   exact hc
  obtain ⟨v', w', hrun, h2, h3, _, h5⟩ := run_append_own_at (P := P) w B t ty e i z 1 bytes ht hi hi1 hi2 hi3 hz (by omega) v xs.length xs hown ad ys.length c ys (by omega) hcells h1 h63 hlen hB
  refine ⟨v', w', hrun, ?_, h3, h5⟩
  unfold Own
  rw [List.length_append]
  exact h2
theorem wp_app {o : Oper} {a : Act} {K : Act → World → Prop} {Q : Exit → Act → World → Prop} (s x : Operand) (t : TypeId)
  (ho : o.op = .call { callee := .builtin .append, args := #[s, x], argTypes := #[t, t] })
  (B : Nat) (e : TypeId) (z : Value) (bytes : Nat) (ht : P.underlying t = some (.slice e)) (hinfo : (P.info? e).map (fun i => (i.zero, i.size, i.bytes)) = some (some z, 1, bytes)) (hz : z.cells.size = 1) (hb : 0 < bytes)
  (v : Value) (xs : List Value) (hs : a.eval s = v) (hown : Own w B e v xs) (A : Option Addr) (m c : Nat) (ys : List Value) (hx : a.eval x = .slice A m c) (hm : ys.length = m) (hr : Row w A ys) (h1 : ∀ u ∈ ys, u.oneCell' = true)
  (hlen : (xs.length + m) * bytes ≤ 140737488355328) (hB : B ≤ w.heap.size)
  (h : ∀ v' w', Own w' B e v' (xs ++ ys) → w.grownBy w' v.ownBlock → (v'.ownBlock = v.ownBlock ∨ v'.ownBlock = some w.heap.size) → K (a.put o.dst v') w') : o.wp P a w K Q := by
 obtain ⟨v', w', hrun, h2, h3, h4⟩ := run_app (P := P) w B t o.type e z bytes ht hinfo hz v xs hown A m c ys hm hr h1 hb hlen hB
 unfold Oper.wp execOp
 simp only [ho, resolve, invoke, builtin, Sem.run_bind, Sem.run_pure, Result.andThen_ok, List.map_toArray, List.map_cons, List.map_nil, hs, hx, hrun]
 exact h v' w' h2 h3 h4
theorem wpList_app {ops : Array Oper} {rest : List Oper} {o : Oper} {a : Act} {Q : Exit → Act → World → Prop} (hgd : o.guard = none) (s x : Operand) (t : TypeId)
  (ho : o.op = .call { callee := .builtin .append, args := #[s, x], argTypes := #[t, t] })
  (B : Nat) (e : TypeId) (z : Value) (bytes : Nat) (ht : P.underlying t = some (.slice e)) (hinfo : (P.info? e).map (fun i => (i.zero, i.size, i.bytes)) = some (some z, 1, bytes)) (hz : z.cells.size = 1) (hb : 0 < bytes)
  (v : Value) (xs : List Value) (hs : a.eval s = v) (hown : Own w B e v xs) (A : Option Addr) (m c : Nat) (ys : List Value) (hx : a.eval x = .slice A m c) (hm : ys.length = m) (hr : Row w A ys) (h1 : ∀ u ∈ ys, u.oneCell' = true)
  (hlen : (xs.length + m) * bytes ≤ 140737488355328) (hB : B ≤ w.heap.size)
  (h : ∀ v' w', Own w' B e v' (xs ++ ys) → w.grownBy w' v.ownBlock → (v'.ownBlock = v.ownBlock ∨ v'.ownBlock = some w.heap.size) → wpList P ops Q rest (a.put o.dst v') w') : wpList P ops Q (o :: rest) a w :=
 wpList_plain hgd fun _ hK => wp_app w s x t ho B e z bytes ht hinfo hz hb v xs hs hown A m c ys hx hm hr h1 hlen hB fun v' w' h2 h3 h4 => hK _ _ (h v' w' h2 h3 h4)
end
theorem Own.grew {w w' : World} {B : Nat} {e : TypeId} {v : Value} {xs : List Value} (h : Own w B e v xs) (hB : B ≤ w.heap.size) (hg : w.grownBy w' v.ownBlock) : Below B w w' :=
 (Below.refl B w).grown hg hB (fun _ hk => (h.lt _ hk).1)
theorem bv_one (l : List Nat) : ∀ u ∈ bv l, u.oneCell' = true := by
 intro u hu; obtain ⟨n, _, rfl⟩ := List.mem_map.1 hu; rfl
theorem Row.one {w : World} {b off : Nat} {u : Value} (h : w.cell? ⟨b, off, none⟩ = some u) : Row w (some ⟨b, off, none⟩) [u] := by
 intro k v hv
 have hk : k = 0 := by have := (List.getElem?_eq_some_iff.1 hv).1; simp at this; omega
 subst hk
 simp at hv
 subst hv
 exact ⟨b, off, rfl, h⟩
theorem Row.byte {w : World} {b off x : Nat} (h : w.cell? ⟨b, off, none⟩ = some (.int .u8 (x : Int))) : Row w (some ⟨b, off, none⟩) (bv [x]) := Row.one h
theorem cell_new (w : World) (cs : Array Value) (t : TypeId) (i : Nat) : (w.alloc (.cells cs t)).cell? ⟨w.heap.size, i, none⟩ = cs[i]? := (Block.new w t cs).cell i
theorem Row.new (w : World) (cs : Array Value) (t : TypeId) (fr : Nat × Nat) : Row (w.alloc (.cells cs t fr)) (some ⟨w.heap.size, 0, none⟩) cs.toList := by
 intro k v hv
 refine ⟨w.heap.size, 0, rfl, ?_⟩
 have h : (w.alloc (.cells cs t fr)).heap[w.heap.size]? = some (.cells cs t fr) := heap_alloc_new w _
 rw [Nat.zero_add]
 simp only [World.cell?, h]
 simpa using hv
theorem Below.drewN' {B : Nat} {a w : World} (h : Below B a w) (n : Nat) : Below B a (w.drewN n) := ⟨h.os, h.tape, h.output, h.size, h.block⟩
theorem take_succ' {α : Type} (l : List α) {k : Nat} (hk : k < l.length) : l.take (k + 1) = l.take k ++ [l[k]] := by
 rw [List.take_succ_eq_append_getElem hk]
end Go.Proofs.YtjoghbmedfmioabGreat

namespace Go.Proofs.YtjoghbmedfmioabGreat
open Go.RowKit Go.Maps Go.WideMaps
def MapF (w : World) (k e : TypeId) (q : IntKind) (b n : Nat) (f : Value → Option Int) : Prop :=
 ∃ D : DataW Unit, w.ownsMap Tryz.prog k (plainElem Tryz.prog e) b n D ∧ ∀ key kl, keyOf Tryz.prog k key = some kl → Maps.has D kl = (f key).isSome ∧ D.atKey kl (.lit (.int q 0)) = .lit (.int q ((f key).getD 0))
section
variable {w w' : World} {k e t : TypeId} {q : IntKind} {b n : Nat} {f : Value → Option Int}
theorem MapF.made (w : World) (k e : TypeId) (q : IntKind) : MapF (w.alloc (.map #[] 0)) k e q w.heap.size 0 fun _ => none :=
 ⟨_, World.ownsMap_made w _ k _, fun _ _ _ => ⟨rfl, rfl⟩⟩
theorem MapF.lt (h : MapF w k e q b n f) : b < w.heap.size := by obtain ⟨D, h, -⟩ := h; exact h.lt
theorem MapF.grown {row : Option Nat} (h : MapF w k e q b n f) (hg : w.grownBy w' row) (hne : some b ≠ row) : MapF w' k e q b n f := by
 obtain ⟨D, h1, h2⟩ := h
 exact ⟨D, h1.kept hg hne, h2⟩
theorem MapF.below (h : MapF w k e q b n f) (hb : Below w.heap.size w w') : MapF w' k e q b n f :=
 h.grown (row := none) ⟨hb.os, hb.tape, hb.output, hb.size, fun i hi _ => hb.block i hi⟩ (by simp)
theorem MapF.look (h : MapF w k e q b n f) (K : Keyed Tryz.prog k) (ht : Tryz.prog.underlying t = some (.map k e)) (he : Tryz.prog.underlying e = some (.int q)) (hz : (zeroValue e).run Tryz.prog w = .ok (.int q 0) w) {key : Value} {kl : Lit} (hkey : keyOf Tryz.prog k key = some kl) :
  (Instr.lookup t (.map (some b)) key false).run Tryz.prog w = .ok (.int q ((f key).getD 0)) w := by
 obtain ⟨D, h1, h2⟩ := h
 obtain ⟨c, hrun, hat, -⟩ := h1.lookup_int K ht he hz hkey
 have h3 := (h2 key kl hkey).2
 rw [hat] at h3
 rw [hrun, (Lit.int.inj (DataW.lit.inj h3)).2]
theorem MapF.look2 (h : MapF w k e q b n f) (K : Keyed Tryz.prog k) (ht : Tryz.prog.underlying t = some (.map k e)) (he : Tryz.prog.underlying e = some (.int q)) (hz : (zeroValue e).run Tryz.prog w = .ok (.int q 0) w) {key : Value} {kl : Lit} (hkey : keyOf Tryz.prog k key = some kl) :
  (Instr.lookup t (.map (some b)) key true).run Tryz.prog w = .ok (.tuple #[.int q ((f key).getD 0), .bool (f key).isSome]) w := by
 obtain ⟨D, h1, h2⟩ := h
 obtain ⟨v, ps, hrun, hv⟩ := h1.look_ok K ht hz (plainElem_int he (by cases q <;> decide)) hkey
 obtain ⟨c, rfl, hc, -⟩ := plainElem_int_inv he hv
 have h3 := (h2 key kl hkey).2
 simp only [Prod.mk.injEq] at hc
 rw [hc.1] at h3
 rw [hrun, (h2 key kl hkey).1, (Lit.int.inj (DataW.lit.inj h3)).2]
theorem MapF.put (h : MapF w k e q b n f) (K : Keyed Tryz.prog k) (ht : Tryz.prog.underlying t = some (.map k e)) (he : Tryz.prog.underlying e = some (.int q)) (hn : n < maxLen) {key : Value} {kl : Lit} (hkey : keyOf Tryz.prog k key = some kl) (c : Int) (hw : (Lit.int q c).wf = true) :
  ∃ w', (Instr.mapUpdate t (.map (some b)) key (.int q c)).run Tryz.prog w = .ok () w' ∧ w.grownBy w' (some b) ∧ ∀ f' : Value → Option Int, f' key = some c → (∀ x, x ≠ key → f' x = f x) → MapF w' k e q b (n + 1) f' := by
 obtain ⟨D, h1, h2⟩ := h
 obtain ⟨w', hrun, ho, hg⟩ := h1.update K ht hn hkey (plainElem_int he hw)
 refine ⟨w', hrun, hg, fun f' hf1 hf2 => ⟨_, ho, fun x xl hx => ?_⟩⟩
 by_cases hxk : x = key
 ·subst hxk
  rw [hkey] at hx
  injection hx with hx
  subst hx
  rw [hf1, has_put_same h1.isMap (K.key hkey), atKey_put_same h1.isMap (K.key hkey)]
  exact ⟨rfl, rfl⟩
 ·have hne : xl ≠ kl := fun e => hxk (K.inj hx (e ▸ hkey))
  rw [hf2 x hxk, has_put_other hne, atKey_put_other hne]
  exact h2 x xl hx
end
def prV (a b : Int) : Value := .agg #[.int .i64 a, .int .i64 b]
theorem prV_inj {a b c d : Int} (h : prV a b = prV c d) : a = c ∧ b = d := by
 unfold prV at h
 injection h with h
 injection h with h
 injection h with h1 h
 injection h with h2 _
 injection h1 with _ h1
 injection h2 with _ h2
 exact ⟨h1, h2⟩
theorem pr_cells : Tryz.prog.cellsOf 61 = 2 := by kernel_rfl
theorem pr_arr : ArrKey Tryz.prog 61 3 2 := ⟨Tryz.underlying61, by kernel_rfl, by kernel_rfl, pr_cells⟩
theorem pr_row : (61 : TypeId) < Tryz.prog.types.size := of_decide_eq_true (by kernel_rfl)
theorem pos_succ {a n : Nat} (h : a < n) : ∃ m, n = m + 1 := ⟨n - 1, by omega⟩
theorem pr_types : ∃ m, Tryz.prog.types.size = m + 1 := pos_succ pr_row
theorem pr_laid : laidOutB Tryz.prog = true := by kernel_rfl
theorem pr_wide : (match Tryz.prog.underlying 61 with | some (.array _ _) | some (.struct _) => true | _ => false) = true := by rw [Tryz.underlying61]
set_option maxRecDepth 100000 in
theorem pr_keyed : Keyed Tryz.prog 61 := Keyed.of_law (deep_law_laid pr_laid (m := 2) (by omega) pr_row (by kernel_rfl) pr_wide)
theorem pr_key {a b : Int} (ha : -9223372036854775808 ≤ a ∧ a ≤ 9223372036854775807) (hb : -9223372036854775808 ≤ b ∧ b ≤ 9223372036854775807) : ∃ kl, keyOf Tryz.prog 61 (prV a b) = some kl :=
 ⟨_, keyOf_pair pr_arr Tryz.underlying3 pr_types (WalkArith.wf_i64 ha) (WalkArith.wf_i64 hb)⟩
theorem int_keyedI : Keyed Tryz.prog 3 := int_keyed Tryz.underlying3
theorem int_key {a : Int} (ha : -9223372036854775808 ≤ a ∧ a ≤ 9223372036854775807) : keyOf Tryz.prog 3 (.int .i64 a) = some (.int .i64 a) := keyOf_int_mk Tryz.underlying3 (WalkArith.wf_i64 ha)
theorem zero_int (w : World) : (zeroValue 3).run Tryz.prog w = .ok (.int .i64 0) w := by kernel_rfl
theorem zero_u8 (w : World) : (zeroValue 5).run Tryz.prog w = .ok (.int .u8 0) w := by kernel_rfl
end Go.Proofs.YtjoghbmedfmioabGreat

namespace Go.Proofs.YtjoghbmedfmioabGreat
open Go.RowKit
section
variable {w w' : World} {B : Nat} {e : TypeId} {v : Value} {xs : List Value} {g c n : Nat}
theorem Own.form1 (h : Own w B e v xs) (h0 : 0 < xs.length) : ∃ g c, v = .slice (some ⟨g, 0, none⟩) xs.length c ∧ B ≤ g ∧ g < w.heap.size ∧ xs.length ≤ c := by
 have hh := h.lt
 rcases h.2 with ⟨rfl, hn⟩ | ⟨g, cap, cur, rfl, h1, h2, h3, _⟩
 ·omega
 ·exact ⟨g, cap, rfl, h1, (hh g rfl).2, h3⟩
theorem Own.cellAt (h : Own w B e (.slice (some ⟨g, 0, none⟩) n c) xs) (hn : xs.length = n) (k : Nat) (hk : k < xs.length) : w.cell? ⟨g, k, none⟩ = some xs[k] := by
 subst hn
 rw [World.ownsRow.cellAt h k (by omega)]; exact List.getElem?_eq_getElem hk
theorem Own.frozenAt (h : Own w B e (.slice (some ⟨g, 0, none⟩) n c) xs) (hn : xs.length = n) (k : Nat) : w.frozen? ⟨g, k, none⟩ = false := by
 subst hn
 exact World.ownsRow.frozenAt h k
theorem Own.set_ (h : Own w B e (.slice (some ⟨g, 0, none⟩) n c) xs) (hn : xs.length = n) (k : Nat) (u : Value) : Own (w.setCell ⟨g, k, none⟩ u) B e (.slice (some ⟨g, 0, none⟩) n c) (xs.set k u) := by
 subst hn
 have := (World.ownsRow.stored h k u).1
 unfold Own
 rw [List.length_set]
 exact this
theorem Own.blk (h : Own w B e (.slice (some ⟨g, 0, none⟩) n c) xs) : B ≤ g ∧ g < w.heap.size := h.lt g rfl
theorem Own.far (h : Own w B e v xs) {p : Addr} (hp : v.ownBlock ≠ some p.block) (u : Value) : Own (w.setCell p u) B e v xs :=
 h.grown (row := some p.block) ⟨rfl, rfl, rfl, by simp [World.setCell], fun k _ hk => Below.heap_setCell _ _ _ _ (fun e => hk (by rw [e]))⟩ (.inr hp)
end
end Go.Proofs.YtjoghbmedfmioabGreat

namespace Go.Proofs.YtjoghbmedfmioabGreat
open Go.RowKit
structure Past (B g : Nat) (w w' : World) : Prop where
 os : w'.os = w.os
 tape : w'.tape = w.tape
 output : w'.output = w.output
 size : w.heap.size ≤ w'.heap.size
 block : ∀ k, k < B → k ≠ g → w'.heap[k]? = w.heap[k]?
section
variable {B g : Nat} {a w w' : World}
theorem Past.refl (B g : Nat) (w : World) : Past B g w w := ⟨rfl, rfl, rfl, Nat.le_refl _, fun _ _ _ => rfl⟩
theorem Past.trans (h : Past B g a w) (k : Past B g w w') : Past B g a w' :=
 ⟨k.os.trans h.os, k.tape.trans h.tape, k.output.trans h.output, Nat.le_trans h.size k.size, fun i hi hn => (k.block i hi hn).trans (h.block i hi hn)⟩
theorem Past.of_below (h : Below B a w) (g : Nat) : Past B g a w := ⟨h.os, h.tape, h.output, h.size, fun i hi _ => h.block i hi⟩
theorem Past.mono {B' : Nat} (h : Past B g a w) (hB : B' ≤ B) : Past B' g a w := ⟨h.os, h.tape, h.output, h.size, fun i hi hn => h.block i (by omega) hn⟩
theorem Past.drew (h : Past B g a w) : Past B g a w.drew := ⟨h.os, h.tape, h.output, h.size, h.block⟩
theorem Past.alloc (h : Past B g a w) (hB : B ≤ w.heap.size) (o : Obj) : Past B g a (w.alloc o) := h.trans (Past.of_below ((Below.refl B w).alloc hB o) g)
theorem Past.setCell (h : Past B g a w) {p : Addr} (hp : p.block = g ∨ B ≤ p.block) (u : Value) : Past B g a (w.setCell p u) :=
 h.trans ⟨rfl, rfl, rfl, by simp [World.setCell], fun k hk hn => Below.heap_setCell _ _ _ _ (by intro e; subst e; rcases hp with rfl | hp <;> omega)⟩
theorem Past.below (h : Past B g a w) (hB : B ≤ g) : Below B a w := ⟨h.os, h.tape, h.output, h.size, fun i hi => h.block i hi (by omega)⟩
theorem Past.grown {row : Option Nat} (h : Past B g a w) (hw : w.grownBy w' row) (hB : B ≤ w.heap.size) (hr : ∀ k, row = some k → B ≤ k) : Past B g a w' :=
 h.trans (Past.of_below ((Below.refl B w).grown hw hB hr) g)
theorem Block.past {t : TypeId} {cs : Array Value} {b : Nat} (h : Block w b t cs) (hp : Past B g w w') (hb : b < B) (hn : b ≠ g) : Block w' b t cs := (hp.block b hb hn).trans h
end
end Go.Proofs.YtjoghbmedfmioabGreat

namespace Go.Proofs.YtjoghbmedfmioabGreat.Once
open Go.RowKit
theorem disable (w : World) : (callFunc 105 #[]).run Tryz.prog w = .ok (.value (.tuple #[])) w := run_call_mark0 Tryz.func105 (by kernel_rfl) (by kernel_rfl) (by kernel_rfl) .disable (by kernel_rfl) w
theorem enable (w : World) : (callFunc 107 #[]).run Tryz.prog w = .ok (.value (.tuple #[])) w := run_call_mark0 Tryz.func107 (by kernel_rfl) (by kernel_rfl) (by kernel_rfl) .enable (by kernel_rfl) w
theorem acquire (a : Addr) (w : World) : (callFunc 108 #[.pointer (some a)]).run Tryz.prog w = .ok (.value (.tuple #[])) w := run_call_marked Tryz.func108 (by kernel_rfl) (by kernel_rfl) (by kernel_rfl) .acquire (by kernel_rfl) a w
theorem releaseMerge (a : Addr) (w : World) : (callFunc 110 #[.pointer (some a)]).run Tryz.prog w = .ok (.value (.tuple #[])) w := run_call_marked Tryz.func110 (by kernel_rfl) (by kernel_rfl) (by kernel_rfl) .releaseMerge (by kernel_rfl) a w
theorem store_deferred (a : Addr) (x : Value) (u : FrameMode) (w : World) (hc : w.cell? a = some x) (hz : w.frozen? a = false) :
  CallsD Tryz.prog 96 #[.pointer (some a), .bool true] u w fun e u' w' => u' = u ∧ (e = .returned (.tuple #[]) ∧ w' = w.drew.setCell a (.int .u32 1)) := by
 have hc' : w.drew.cell? a = some x := by go_simp
 have hz' : w.drew.frozen? a = false := by go_simp
 have hst := run_call_store (P := Tryz.prog) Tryz.func103 (by kernel_rfl) (by kernel_rfl) (by kernel_rfl) (by kernel_rfl) (k := .u32) (y := 1) hc' hz'
 go_enter_d Tryz.func96, Tryz.ntmps96
 go_wp2
 go_region_calls
 all_goals (go_end0; exact ⟨rfl, rfl⟩)
set_option maxRecDepth 100000 in
theorem unlock_deferred (a : Addr) (u : FrameMode) (w : World) (hc : w.cell? a = some (.int .i32 1)) (hz : w.frozen? a = false) :
  CallsD Tryz.prog 95 #[.pointer (some a)] u w fun e u' w' => u' = u ∧ (e = .returned (.tuple #[]) ∧ w' = w.setCell a (.int .i32 0)) := by
 have hd := disable
 have he := enable
 have hr := releaseMerge
 have hadd := run_call_add (P := Tryz.prog) Tryz.func111 (by kernel_rfl) (by kernel_rfl) (by kernel_rfl) .i32 (by kernel_rfl) (y := -1) (s := 0) hc hz (by simp [go_sem]; rfl)
 have hcv := run_convert_to_unsafe (P := Tryz.prog) (src := 148) (dst := 152) Tryz.underlying148 Tryz.underlying152 (by kernel_rfl) hc
 go_enter_d Tryz.func95, Tryz.ntmps95
 go_wp2
 go_end0
 go_wp2
 go_end0
 exact ⟨rfl, rfl⟩
set_option maxRecDepth 100000 in
theorem lock_free (a : Addr) (w : World) (hc : w.cell? a = some (.int .i32 0)) (hz : w.frozen? a = false) :
  Calls Tryz.prog 94 #[.pointer (some a)] w fun e w' => e = .returned (.tuple #[]) ∧ w' = w.setCell a (.int .i32 1) := by
 have hd := disable
 have he := enable
 have ha := acquire
 have hcas := run_call_cas_hit (P := Tryz.prog) Tryz.func106 (by kernel_rfl) (by kernel_rfl) (by kernel_rfl) .i32 (by kernel_rfl) (y := 1) hc hz
 have hc' : (w.setCell a (.int .i32 1)).cell? a = some (.int .i32 1) := World.cell?_setCell_same w a _ hc
 have hcv := run_convert_to_unsafe (P := Tryz.prog) (src := 148) (dst := 152) Tryz.underlying148 Tryz.underlying152 (by kernel_rfl) hc'
 go_enter Tryz.func94, Tryz.ntmps94
 go_wp2
 first | go_end0 | (simp only [Exit.inBlock, Exit.then]; refine bodyPost_ret (results_none rfl _ _ _) rfl ?_) | refine bodyPost_ret (results_none rfl _ _ _) rfl ?_
 go_wp2
 go_end0
 exact ⟨rfl, rfl⟩
theorem do_done (a : Addr) (d : Int) (hd : ¬ d = 0) (fv : Value) (w : World) (h0 : w.cell? a = some (.int .u32 d)) :
  Calls Tryz.prog 67 #[.pointer (some a), fv] w fun e w' => e = .returned (.tuple #[]) ∧ w' = w := by
 have hl := run_call_load (P := Tryz.prog) Tryz.func93 (by kernel_rfl) (by kernel_rfl) (by kernel_rfl) .u32 (by kernel_rfl) h0
 have hnot : ∀ (x : Bool) (w : World), (Op.unary .not (.bool x)).run Tryz.prog w = .ok (.bool (!x)) w := fun _ _ => rfl
 have hd' : (d != 0) = true := by simp [hd]
 go_enter Tryz.func67, Tryz.ntmps67
 go_wp2
 go_end0
 exact ⟨rfl, rfl⟩
end Go.Proofs.YtjoghbmedfmioabGreat.Once

namespace Go.Proofs.YtjoghbmedfmioabGreat.GF
open Go.RowKit
theorem i64_xor (a b : Nat) (ha : a < 9223372036854775808) (hb : b < 9223372036854775808) : bits .xor .i64 (a : Int) (b : Int) = ((a ^^^ b : Nat) : Int) := by
 have hx : a ^^^ b < 2 ^ 63 := Nat.xor_lt_two_pow (by omega) (by omega)
 have h1 : (BitVec.ofInt 64 (a : Int)).toNat = a := by
  rw [BitVec.ofInt_natCast, BitVec.toNat_ofNat]; exact Nat.mod_eq_of_lt (by omega)
 have h2 : (BitVec.ofInt 64 (b : Int)).toNat = b := by
  rw [BitVec.ofInt_natCast, BitVec.toNat_ofNat]; exact Nat.mod_eq_of_lt (by omega)
 show IntKind.i64.wrap ((BitVec.ofInt 64 (a : Int) ^^^ BitVec.ofInt 64 (b : Int)).toNat : Int) = _
 rw [BitVec.toNat_xor, h1, h2]
 exact IntWalk.i64_in _ (by omega)
theorem u8_xor' (a b : Nat) (ha : a < 256) (hb : b < 256) : bits .xor .u8 (a : Int) (b : Int) = ((a ^^^ b : Nat) : Int) := u8_xor_nat a b ha hb
theorem and1 (k : IntKind) (j : Nat) (hj : j ≤ k.bits) (hk : ∀ n : Int, 0 ≤ n → n < 2 ^ j → k.wrap n = n) (h1 : 1 ≤ j) (a : Nat) (ha : a < 2 ^ j) : bits .and k (a : Int) 1 = ((a % 2 : Nat) : Int) := by
 have h := bits_mask k j hj hk 1 h1 (a : Int) (by omega) (by exact_mod_cast ha)
 simpa using h
theorem bit_eq (k : IntKind) (j : Nat) (hj : j ≤ k.bits) (hk : ∀ n : Int, 0 ≤ n → n < 2 ^ j → k.wrap n = n) (h1 : 1 ≤ j) (a i : Nat) (ha : a < 2 ^ j) :
  (bits .and k ((a : Int) / 2 ^ i) 1 == 1) = a.testBit i := by
 have h2 : ((a : Int) / 2 ^ i) = ((a / 2 ^ i : Nat) : Int) := by simp
 rw [h2, and1 k j hj hk h1 _ (Nat.lt_of_le_of_lt (Nat.div_le_self _ _) ha), Nat.testBit_eq_decide_div_mod_eq]
 rw [Bool.eq_iff_iff]; simp; omega
theorem bit_u8 (a i : Nat) (ha : a < 256) : (bits .and .u8 ((a : Int) / 2 ^ i) 1 == 1) = a.testBit i :=
 bit_eq .u8 8 (by decide) (fun n h0 h1 => by rw [IntKind.wrap_u8']; omega) (by decide) a i ha
theorem bit_i64 (a i : Nat) (ha : a < 4294967296) : (bits .and .i64 ((a : Int) / 2 ^ i) 1 == 1) = a.testBit i :=
 bit_eq .i64 32 (by decide) (fun n h0 h1 => by rw [IntKind.wrap_i64]; omega) (by decide) a i ha
theorem ret_bool {a b : Bool} (h : a = b) : Ending.returned (.bool a) = .returned (.bool b) := by rw [h]
theorem ret_int {k : IntKind} {a b : Int} (h : a = b) : Ending.returned (.int k a) = .returned (.int k b) := by rw [h]
theorem val_int {k : IntKind} {a b : Int} (h : a = b) : Value.int k a = Value.int k b := by rw [h]
theorem ret_nat {k : IntKind} {a b : Nat} (h : a = b) : Ending.returned (.int k (a : Int)) = .returned (.int k (b : Int)) := by rw [h]
theorem ret_pair {k : IntKind} {a b : Nat} {c : Bool} (h : a = b) : Ending.returned (.tuple #[.int k (a : Int), .bool c]) = .returned (.tuple #[.int k (b : Int), .bool c]) := by rw [h]
theorem tmod255 (n : Int) : n.tmod 255 = if 0 ≤ n then n % 255 else -((-n) % 255) := by
 split
 ·exact Int.tmod_eq_emod_of_nonneg (by assumption)
 ·have h := Int.neg_tmod (-n) 255
  rw [Int.neg_neg] at h
  rw [h, Int.tmod_eq_emod_of_nonneg (by omega)]
end Go.Proofs.YtjoghbmedfmioabGreat.GF
