/- Plain mathematics of evaluation codes: words, messages, what symbols tell. -/
import Derived.Test.YtjpbdbgihakpmaaPolyMath2
namespace Go.Proofs.Ytjpbdbgihakpmaa.Rd
open F8 Poly

/-- A message's word. -/
def word (m xs : List F8) : List F8 := xs.map (eval m)
theorem word_length (m xs : List F8) : (word m xs).length = xs.length := by simp [word]
theorem word_append (m xs ys : List F8) : word m (xs ++ ys) = word m xs ++ word m ys := by simp [word]
theorem word_congr {m m' : List F8} (h : Eqv m m') (xs : List F8) : word m xs = word m' xs := List.map_congr_left fun x _ => eval_congr x h
theorem word_get {m xs : List F8} {i : Nat} (h : i < xs.length) : coef (word m xs) i = eval m (coef xs i) := by
  rw [coef_of_lt (by rw [word_length]; exact h), coef_of_lt h]; simp [word]
/-- Cut to k, or with noughts behind. -/
def full (p : List F8) (k : Nat) : List F8 := p.take k ++ List.replicate (k - p.length) 0
theorem full_length (p : List F8) (k : Nat) : (full p k).length = k := by simp [full]; omega
theorem eqv_app (p : List F8) (n : Nat) : Eqv (p ++ List.replicate n 0) p := by
  intro i
  rcases Nat.lt_or_ge i p.length with h | h
  · rw [coef_of_lt h, coef_of_lt (by rw [List.length_append]; omega), List.getElem_append_left h]
  · rw [coef_of_le h]
    rcases Nat.lt_or_ge i (p ++ List.replicate n (0 : F8)).length with h2 | h2
    · rw [coef_of_lt h2, List.getElem_append_right h, List.getElem_replicate]
    · exact coef_of_le h2
theorem full_eqv {p : List F8} {k : Nat} (h : p.length ≤ k) : Eqv (full p k) p := by
  unfold full; rw [List.take_of_length_le h]; exact eqv_app p _
theorem full_same {p : List F8} {k : Nat} (h : p.length = k) : full p k = p := by
  unfold full; rw [List.take_of_length_le (by omega), h, Nat.sub_self]; simp
theorem eq_of_eqv {p q : List F8} (hl : p.length = q.length) (h : Eqv p q) : p = q :=
  List.ext_getElem hl fun i h1 h2 => by have := h i; rwa [coef_of_lt h1, coef_of_lt h2] at this
theorem msg_only {m m' xs : List F8} {k : Nat} (h1 : m.length = k) (h2 : m'.length = k) (hk : k ≤ xs.length) (hn : xs.Nodup) (h : word m xs = word m' xs) : m = m' := by
  refine eq_of_eqv (h1.trans h2.symm) (Poly.only (n := k) (h1 ▸ bdd_length m) (h2 ▸ bdd_length m') hk hn fun x hx => ?_)
  exact List.map_inj_left.1 h x hx
theorem msg_of : ∀ (xs ys : List F8), xs.Nodup → xs.length = ys.length → ∃ m, m.length = xs.length ∧ word m xs = ys := by
  intro xs
  induction xs with
  | nil => intro ys _ hl; refine ⟨[], rfl, ?_⟩; cases ys with | nil => rfl | cons y ys => simp at hl
  | cons x xs ih =>
    intro ys hn hl
    cases ys with
    | nil => simp at hl
    | cons y ys =>
      obtain ⟨r, hr, hw⟩ := ih ys (List.nodup_cons.1 hn).2 (by simpa using hl)
      have hx : x ∉ xs := (List.nodup_cons.1 hn).1
      have hz : eval (roots xs) x ≠ 0 := fun h => hx ((eval_roots xs x).1 h)
      obtain ⟨c, hc⟩ : ∃ c, (y + eval r x) / eval (roots xs) x = c := ⟨_, rfl⟩
      have hcm : c * eval (roots xs) x = y + eval r x := by rw [← hc, div_mul _ hz]
      have hb : Bdd (padd r (scale c (roots xs))) (xs.length + 1) := by
        refine bdd_padd ((hr ▸ bdd_length r).mono (Nat.le_succ _)) (fun i hi => ?_)
        rw [coef_scale, bdd_len (roots xs) i (by rw [len_roots]; exact hi), mul_zero]
      have ht : (trim (padd r (scale c (roots xs)))).length ≤ xs.length + 1 := len_le_of_bdd hb
      have he : ∀ z, eval (full (trim (padd r (scale c (roots xs)))) (xs.length + 1)) z = eval r z + c * eval (roots xs) z := fun z => by
        rw [eval_congr z (full_eqv ht), eval_trim, eval_padd, eval_scale]
      refine ⟨full (trim (padd r (scale c (roots xs)))) (xs.length + 1), by rw [full_length]; rfl, ?_⟩
      show eval _ x :: word _ xs = y :: ys
      congr 1
      · rw [he, hcm, F8.add_comm y, ← F8.add_assoc, add_self, zero_add]
      · rw [← hw]
        refine List.map_congr_left fun z hzm => ?_
        rw [he, (eval_roots xs z).2 hzm, mul_zero, add_zero]
theorem split_ok {l pts ys : List F8} {k : Nat} (h1 : word l (pts.take k) = ys.take k) (h2 : word l (pts.drop k) = ys.drop k) : word l pts = ys := by
  rw [← List.take_append_drop k pts, word_append, h1, h2, List.take_append_drop]
theorem word_take {m pts ys : List F8} (k : Nat) (h : word m pts = ys) : word m (pts.take k) = ys.take k := by subst h; simp [word]
theorem word_drop {m pts ys : List F8} (k : Nat) (h : word m pts = ys) : word m (pts.drop k) = ys.drop k := by subst h; simp [word]
theorem split_no {l pts ys : List F8} {k : Nat} (hl : l.length = k) (hk : k ≤ pts.length) (hn : pts.Nodup) (h1 : word l (pts.take k) = ys.take k) (h2 : word l (pts.drop k) ≠ ys.drop k) :
    ∀ m : List F8, m.length = k → word m pts ≠ ys := fun m hm h => by
  have := msg_only hm hl (by rw [List.length_take]; omega) (hn.sublist (List.take_sublist k _)) ((word_take k h).trans h1.symm)
  subst this
  exact h2 (word_drop k h)
theorem thru_word {xs ys r : List F8} (hl : xs.length = ys.length) (h : Thru xs ys r) : word r xs = ys :=
  List.ext_getElem (by rw [word_length, hl]) fun i h1 h2 => by
    simp only [word, List.getElem_map]
    exact h.val i (by rwa [word_length] at h1) h2
theorem thru_of {m xs ys : List F8} (h : m.length ≤ xs.length) (hw : word m xs = ys) : Thru xs ys (trim m) :=
  ⟨trim_trim m, ((bdd_length m).mono h).congr (trim_eqv m).symm, fun i h1 h2 => by subst hw; rw [eval_trim]; simp [word]⟩
theorem thru_length {xs ys r : List F8} (h : Thru xs ys r) : r.length ≤ xs.length := by
  have := len_le_of_bdd h.bdd
  unfold Poly.len at this
  rwa [h.tr] at this
theorem thru_no {xs ys r : List F8} {k : Nat} (hn : xs.Nodup) (hl : xs.length = ys.length) (hk : k ≤ xs.length) (h : Thru xs ys r) (hr : k < r.length) : ∀ m : List F8, m.length = k → word m xs ≠ ys := fun m hm hw => by
  have := h.only hn hl (thru_of (by omega) hw)
  have h2 := trim_le m
  rw [this] at hr
  omega
/-- The points of places. -/
def ptsAt (xs : List F8) (pl : List Int) : List F8 := pl.map fun i => coef xs i.toNat
theorem ptsAt_length (xs : List F8) (pl : List Int) : (ptsAt xs pl).length = pl.length := by simp [ptsAt]
/-- Places of points, no two of them equal. -/
def OkP (n : Nat) (pl : List Int) : Prop := (∀ i ∈ pl, 0 ≤ i ∧ i < (n : Int)) ∧ pl.Nodup
theorem ptsAt_nodup {xs : List F8} {pl : List Int} (hn : xs.Nodup) (h : OkP xs.length pl) : (ptsAt xs pl).Nodup := by
  unfold ptsAt
  refine List.nodup_iff_pairwise_ne.2 (List.pairwise_map.2 (h.2.imp_of_mem fun {a b} ha hb hne e => hne ?_))
  have h1 := h.1 a ha
  have h2 := h.1 b hb
  rw [coef_of_lt (by omega), coef_of_lt (by omega)] at e
  have := (List.getElem_inj hn).1 e
  omega
/-- What a decoder answers: the list and the error's number. -/
def DecIs (xs : List F8) (k : Nat) (pl : List Int) (ys l : List F8) (n : Int) : Prop :=
  (¬ (pl.length = ys.length ∧ OkP xs.length pl) ∧ l = [] ∧ n = 2) ∨
  ((pl.length = ys.length ∧ OkP xs.length pl) ∧ pl.length < k ∧ l = [] ∧ n = 70) ∨
  ((pl.length = ys.length ∧ OkP xs.length pl) ∧ k ≤ pl.length ∧ n = 0 ∧ l.length = k ∧ word l (ptsAt xs pl) = ys) ∨
  ((pl.length = ys.length ∧ OkP xs.length pl) ∧ k ≤ pl.length ∧ n = 71 ∧ l = [] ∧ ∀ m : List F8, m.length = k → word m (ptsAt xs pl) ≠ ys)
theorem DecIs.only {xs : List F8} {k : Nat} {pl : List Int} {ys l l' : List F8} {n n' : Int} (hn : xs.Nodup) (h : DecIs xs k pl ys l n) (h' : DecIs xs k pl ys l' n') : l = l' ∧ n = n' := by
  rcases h with ⟨a, h1, h2⟩ | ⟨a, b, h1, h2⟩ | ⟨a, b, h1, h2, h3⟩ | ⟨a, b, h1, h2, h3⟩ <;>
  rcases h' with ⟨a', h1', h2'⟩ | ⟨a', b', h1', h2'⟩ | ⟨a', b', h1', h2', h3'⟩ | ⟨a', b', h1', h2', h3'⟩ <;>
  first
    | exact absurd a' a
    | exact absurd a a'
    | exact absurd b (by omega)
    | exact ⟨h1.trans h1'.symm, h2.trans h2'.symm⟩
    | exact ⟨h2.trans h2'.symm, h1.trans h1'.symm⟩
    | exact absurd h3 (h3' l h2)
    | exact absurd h3' (h3 l' h2')
    | exact ⟨msg_only h2 h2' (by rw [ptsAt_length]; exact b) (ptsAt_nodup hn a.2) (h3.trans h3'.symm), h1.trans h1'.symm⟩
/-- What an encoder answers. -/
def encR (xs : List F8) (k : Nat) (m : List F8) : List F8 × Int := if m.length = k then (word m xs, 0) else ([], 2)
/-- May there be such a code? -/
def newR (xs : List F8) (k : Int) : Int := if xs.Nodup ∧ 1 ≤ k ∧ k ≤ xs.length then 0 else 2
/-- Words of sums. -/
theorem word_padd (a b xs : List F8) : word (padd a b) xs = List.zipWith (· + ·) (word a xs) (word b xs) := by
  unfold word
  rw [List.zipWith_map_left, List.zipWith_map_right, List.zipWith_self]
  exact List.map_congr_left fun x _ => eval_padd a b x
/-- At how many points two words are alike. -/
def alike (a b xs : List F8) : Nat := (xs.filter fun x => decide (eval a x = eval b x)).length
theorem alike_lt {a b xs : List F8} {k : Nat} (ha : a.length = k) (hb : b.length = k) (hn : xs.Nodup) (hne : a ≠ b) : alike a b xs < k := by
  rcases Nat.lt_or_ge (alike a b xs) k with h | h
  · exact h
  · refine absurd (eq_of_eqv (ha.trans hb.symm) (Poly.only (n := k) (ha ▸ bdd_length a) (hb ▸ bdd_length b) h (hn.sublist List.filter_sublist) fun x hx => ?_)) hne
    simpa using (List.mem_filter.1 hx).2
theorem alike_snoc (a b xs : List F8) (x : F8) : alike a b (xs ++ [x]) = alike a b xs + if eval a x = eval b x then 1 else 0 := by
  unfold alike
  rw [List.filter_append, List.length_append]
  congr 1
  by_cases h : eval a x = eval b x <;> simp [h]
/-- A message that is nought at these points alone. -/
theorem tight {l : List F8} {x : F8} : eval (trim (roots l)) x = 0 ↔ x ∈ l := by rw [eval_trim, eval_roots]
theorem tight_length (l : List F8) : (trim (roots l)).length = l.length + 1 := len_roots l
/-- One coefficient more. -/
theorem full_more {m : List F8} {k : Nat} (h : m.length = k) (xs : List F8) : word (full m (k + 1)) xs = word m xs := word_congr (full_eqv (by omega)) xs
end Go.Proofs.Ytjpbdbgihakpmaa.Rd
