/- Of the program and its document, joined: WlMath. -/
import Derived.Test.YtiapokojlkdddaaGreatPk18
/- Plain mathematics of decoding with wrong symbols: how many are wrong, that one message alone fits, rows of numbers in their order. -/
namespace Go.Proofs.YtiapokojlkdddaaGreat.Wl
open F8 Poly Rd

/-- How many symbols are wrong for a message. -/
def wr (m xs ys : List F8) : Nat := ((xs.zip ys).filter fun p => decide (eval m p.1 ≠ p.2)).length
theorem wr_nil (m ys : List F8) : wr m [] ys = 0 := rfl
theorem wr_nil' (m xs : List F8) : wr m xs [] = 0 := by simp [wr]
theorem wr_cons (m : List F8) (x y : F8) (xs ys : List F8) : wr m (x :: xs) (y :: ys) = (if eval m x ≠ y then 1 else 0) + wr m xs ys := by
  by_cases h : eval m x = y <;> simp [wr, h, Nat.add_comm]
theorem wr_le (m xs ys : List F8) : wr m xs ys ≤ xs.length := by
  unfold wr
  refine Nat.le_trans (List.length_filter_le _ _) ?_
  rw [List.length_zip]
  omega
theorem wr_zero {m : List F8} : ∀ {xs ys : List F8}, xs.length = ys.length → (wr m xs ys = 0 ↔ word m xs = ys)
  | [], [], _ => by simp [wr, word]
  | x :: xs, y :: ys, h => by
    have ih := wr_zero (m := m) (xs := xs) (ys := ys) (by simpa using h)
    rw [wr_cons]
    by_cases e : eval m x = y
    · rw [if_neg (by simpa using e), Nat.zero_add, ih]; simp [word, e]
    · rw [if_pos (by simpa using e)]
      simp [word, e]
  | [], _ :: _, h => by simp at h
  | _ :: _, [], h => by simp at h
theorem wr_congr {m m' : List F8} (h : Eqv m m') (xs ys : List F8) : wr m xs ys = wr m' xs ys := by
  unfold wr
  congr 1
  refine List.filter_congr fun p _ => ?_
  rw [eval_congr p.1 h]
/-- At which points two messages both have the symbol that is told. -/
theorem both {m m' : List F8} : ∀ {xs ys : List F8}, xs.length = ys.length → xs.length ≤ wr m xs ys + wr m' xs ys + alike m m' xs
  | [], [], _ => by simp
  | x :: xs, y :: ys, h => by
    have ih := both (m := m) (m' := m') (xs := xs) (ys := ys) (by simpa using h)
    rw [wr_cons, wr_cons]
    have ha : alike m m' (x :: xs) = (if eval m x = eval m' x then 1 else 0) + alike m m' xs := by
      by_cases e : eval m x = eval m' x <;> simp [alike, e, Nat.add_comm]
    rw [ha, List.length_cons]
    by_cases e1 : eval m x = y
    · by_cases e2 : eval m' x = y
      · rw [if_pos (e1.trans e2.symm)]; split <;> split <;> omega
      · rw [if_pos (c := eval m' x ≠ y) e2]; split <;> split <;> omega
    · rw [if_pos (c := eval m x ≠ y) e1]; split <;> split <;> omega
  | [], _ :: _, h => by simp at h
  | _ :: _, [], h => by simp at h
/-- One message alone has at most t wrong symbols. -/
theorem wr_only {m m' xs ys : List F8} {k t : Nat} (hm : m.length = k) (hm' : m'.length = k) (hn : xs.Nodup) (hl : xs.length = ys.length) (hk : k + 2 * t ≤ xs.length) (h : wr m xs ys ≤ t) (h' : wr m' xs ys ≤ t) : m = m' := by
  rcases Classical.em (m = m') with e | e
  · exact e
  · have h1 := both (m := m) (m' := m') hl
    have h2 := alike_lt hm hm' hn e
    omega
/-- What is found by the method of Berlekamp and Welch: Q and E that go through what is told are the message's. -/
theorem bw {m xs ys Q E : List F8} {k e d : Nat} (hm : m.length = k) (hn : xs.Nodup) (hl : xs.length = ys.length) (hd : wr m xs ys ≤ d) (hk : k + e + d ≤ xs.length) (hQ : Bdd Q (k + e)) (hE : Bdd E (e + 1)) (h : ∀ i, i < xs.length → eval Q (coef xs i) = coef ys i * eval E (coef xs i)) : Eqv Q (pmul m E) := by
  -- the points at which the symbol is right
  obtain ⟨zs, hz1, hz2, hz3⟩ : ∃ zs : List F8, zs.Nodup ∧ xs.length ≤ zs.length + d ∧ ∀ x ∈ zs, ∃ i, i < xs.length ∧ x = coef xs i ∧ eval m x = coef ys i := by
    have hgen : ∀ (us vs : List F8), us.length = vs.length → us.length ≤ ((us.zip vs).filter fun p => decide (eval m p.1 = p.2)).length + wr m us vs := by
      intro us
      induction us with
      | nil => intro vs _; simp
      | cons u us ih =>
        intro vs hv
        cases vs with
        | nil => simp at hv
        | cons v vs =>
          have := ih vs (by simpa using hv)
          rw [wr_cons]
          by_cases e : eval m u = v <;> simp [e] <;> omega
    refine ⟨((xs.zip ys).filter fun p => decide (eval m p.1 = p.2)).map Prod.fst, ?_, ?_, ?_⟩
    · have h1 : ((xs.zip ys).map Prod.fst).Nodup := by rw [List.map_fst_zip (by omega)]; exact hn
      exact h1.sublist (List.filter_sublist.map _)
    · rw [List.length_map]
      have := hgen xs ys hl
      omega
    · intro x hx
      obtain ⟨⟨a, b⟩, hp, rfl⟩ := List.mem_map.1 hx
      obtain ⟨hp1, hp2⟩ := List.mem_filter.1 hp
      obtain ⟨i, hi, he⟩ := List.mem_iff_getElem.1 hp1
      rw [List.length_zip] at hi
      rw [List.getElem_zip] at he
      injection he with he1 he2
      have hp3 : eval m a = b := by simpa using hp2
      refine ⟨i, by omega, ?_, ?_⟩
      · rw [coef_of_lt (by omega)]; exact he1.symm
      · rw [coef_of_lt (by omega)]; exact hp3.trans he2.symm
  have hb : Bdd (pmul m E) (k + e) := fun i hi => bdd_pmul (hm ▸ bdd_length m) hE i (by omega)
  refine Poly.only (n := k + e) (xs := zs) hQ hb (by omega) hz1 fun x hx => ?_
  obtain ⟨i, hi, rfl, he⟩ := hz3 x hx
  rw [h i hi, eval_pmul, he]
/-! ## Rows of numbers, in their order -/
/-- A row of k numbers below n, rising. -/
def Comb (n k : Nat) (l : List Nat) : Prop := l.length = k ∧ (∀ i, i + 1 < k → l.getD i 0 < l.getD (i + 1) 0) ∧ ∀ i, i < k → l.getD i 0 < n
theorem Comb.rise {n k : Nat} {l : List Nat} (h : Comb n k l) {i j : Nat} (hij : i ≤ j) (hj : j < k) : l.getD i 0 + (j - i) ≤ l.getD j 0 := by
  induction j with
  | zero => obtain rfl : i = 0 := by omega
            simp
  | succ j ih =>
    rcases Nat.lt_or_ge j i with h1 | h1
    · obtain rfl : i = j + 1 := by omega
      simp
    · have h2 := ih h1 (by omega)
      have h3 := h.2.1 j hj
      omega
theorem Comb.top {n k : Nat} {l : List Nat} (h : Comb n k l) {i : Nat} (hi : i < k) : l.getD i 0 + k ≤ n + i := by
  have h1 := h.rise (i := i) (j := k - 1) (by omega) (by omega)
  have h2 := h.2.2 (k - 1) (by omega)
  omega
theorem Comb.low {n k : Nat} {l : List Nat} (h : Comb n k l) {i : Nat} (hi : i < k) : i ≤ l.getD i 0 := by
  have := h.rise (i := 0) (j := i) (Nat.zero_le _) hi
  omega
/-- a stands ahead of b, or is b. -/
def Le (k : Nat) (a b : List Nat) : Prop := (∀ i, i < k → a.getD i 0 = b.getD i 0) ∨ ∃ p, p < k ∧ (∀ i, i < p → a.getD i 0 = b.getD i 0) ∧ a.getD p 0 < b.getD p 0
theorem Comb.first {n k : Nat} {l : List Nat} (h : Comb n k l) : Le k (List.range k) l := by
  have hr : ∀ i, i < k → (List.range k).getD i 0 = i := fun i hi => by simp [List.getD_eq_getElem?_getD, hi]
  -- the first place at which they differ
  have : ∀ j, j ≤ k → (∀ i, i < j → (List.range k).getD i 0 = l.getD i 0) ∨ ∃ p, p < k ∧ (∀ i, i < p → (List.range k).getD i 0 = l.getD i 0) ∧ (List.range k).getD p 0 < l.getD p 0 := by
    intro j
    induction j with
    | zero => intro _; exact .inl (fun i hi => by omega)
    | succ j ih =>
      intro hj
      rcases ih (by omega) with h1 | h1
      · have h2 := h.low (i := j) (by omega)
        by_cases e : l.getD j 0 = j
        · refine .inl fun i hi => ?_
          rcases Nat.lt_or_ge i j with h3 | h3
          · exact h1 i h3
          · obtain rfl : i = j := by omega
            rw [hr i (by omega), e]
        · exact .inr ⟨j, by omega, h1, by rw [hr j (by omega)]; omega⟩
      · exact .inr h1
  exact this k (Nat.le_refl _)
/-- The row behind l, if place i can be raised and all behind it can't. -/
def raise (l : List Nat) (i : Nat) : List Nat := (List.range l.length).map fun j => if j < i then l.getD j 0 else l.getD i 0 + 1 + (j - i)
theorem raise_get {l : List Nat} {i j : Nat} (hj : j < l.length) : (raise l i).getD j 0 = if j < i then l.getD j 0 else l.getD i 0 + 1 + (j - i) := by
  simp [raise, List.getD_eq_getElem?_getD, hj]
theorem raise_length (l : List Nat) (i : Nat) : (raise l i).length = l.length := by simp [raise]
theorem raise_comb {n k : Nat} {l : List Nat} (h : Comb n k l) {i : Nat} (hi : i < k) (hr : l.getD i 0 + k < n + i) : Comb n k (raise l i) := by
  have hl := h.1
  refine ⟨by rw [raise_length, hl], fun j hj => ?_, fun j hj => ?_⟩
  · rw [raise_get (by omega), raise_get (by omega)]
    have h2 := h.2.1 j hj
    by_cases e1 : j + 1 < i
    · rw [if_pos (by omega), if_pos e1]; exact h2
    · by_cases e2 : j < i
      · obtain rfl : j + 1 = i := by omega
        rw [if_pos e2, if_neg (by omega)]
        omega
      · rw [if_neg e2, if_neg (by omega)]
        omega
  · rw [raise_get (by omega)]
    split
    · exact h.2.2 j hj
    · omega
/-- Nothing stands between a row and the one behind it. -/
theorem raise_le {n k : Nat} {l c : List Nat} (h : Comb n k l) (hc : Comb n k c) {i : Nat} (hi : i < k) (htop : ∀ j, i < j → j < k → n + j ≤ l.getD j 0 + k) (hle : Le k l c) (hne : ¬ ∀ j, j < k → l.getD j 0 = c.getD j 0) : Le k (raise l i) c := by
  have hl := h.1
  rcases hle with h1 | ⟨p, hp, h1, h2⟩
  · exact absurd h1 hne
  · have hct := hc.top hp
    by_cases e1 : i < p
    · have := htop p e1 hp; omega
    · by_cases e2 : p < i
      · refine .inr ⟨p, hp, fun j hj => ?_, ?_⟩
        · rw [raise_get (by omega), if_pos (by omega)]; exact h1 j hj
        · rw [raise_get (by omega), if_pos e2]; exact h2
      · obtain rfl : p = i := by omega
        -- from p on: c is at least raise l p
        have hge : ∀ j, p ≤ j → j < k → (raise l p).getD j 0 ≤ c.getD j 0 := fun j h3 h4 => by
          rw [raise_get (by omega), if_neg (by omega)]
          have := hc.rise h3 h4
          omega
        have heq : ∀ j, j < p → (raise l p).getD j 0 = c.getD j 0 := fun j h3 => by
          rw [raise_get (by omega), if_pos h3]; exact h1 j h3
        have : ∀ j, j ≤ k → (∀ i, i < j → (raise l p).getD i 0 = c.getD i 0) ∨ ∃ q, q < k ∧ (∀ i, i < q → (raise l p).getD i 0 = c.getD i 0) ∧ (raise l p).getD q 0 < c.getD q 0 := by
          intro j
          induction j with
          | zero => intro _; exact .inl (fun i hi => by omega)
          | succ j ih =>
            intro hj
            rcases ih (by omega) with h3 | h3
            · rcases Nat.lt_or_ge j p with h4 | h4
              · refine .inl fun i hi => ?_
                rcases Nat.lt_or_ge i j with h5 | h5
                · exact h3 i h5
                · obtain rfl : i = j := by omega
                  exact heq i h4
              · have h5 := hge j h4 (by omega)
                by_cases e : (raise l p).getD j 0 = c.getD j 0
                · refine .inl fun i hi => ?_
                  rcases Nat.lt_or_ge i j with h6 | h6
                  · exact h3 i h6
                  · obtain rfl : i = j := by omega
                    exact e
                · exact .inr ⟨j, by omega, h3, by omega⟩
            · exact .inr h3
        exact this k (Nat.le_refl _)
/-- Behind the last row there is none. -/
theorem last_row {n k : Nat} {l c : List Nat} (hc : Comb n k c) (htop : ∀ j, j < k → n + j ≤ l.getD j 0 + k) (hle : Le k l c) : ∀ j, j < k → l.getD j 0 = c.getD j 0 := by
  rcases hle with h1 | ⟨p, hp, _, h2⟩
  · exact h1
  · have := htop p hp
    have := hc.top hp
    omega
/-- A number that rises with the row. -/
def val (n : Nat) (l : List Nat) : Nat → Nat
  | 0 => 0
  | k + 1 => val n l k * (n + 1) + l.getD k 0
theorem val_lt {n : Nat} {l : List Nat} : ∀ {k : Nat}, (∀ i, i < k → l.getD i 0 ≤ n) → val n l k < (n + 1) ^ k
  | 0, _ => by simp [val]
  | k + 1, h => by
    have ih := val_lt (n := n) (l := l) (k := k) (fun i hi => h i (by omega))
    have h2 := h k (by omega)
    simp only [val]
    rw [Nat.pow_succ]
    have h3 : (val n l k + 1) * (n + 1) ≤ (n + 1) ^ k * (n + 1) := Nat.mul_le_mul_right _ ih
    rw [Nat.succ_mul] at h3
    omega
theorem val_rise {n k p : Nat} {a b : List Nat} (hp : p < k) (he : ∀ i, i < p → a.getD i 0 = b.getD i 0) (hlt : a.getD p 0 < b.getD p 0) (ha : ∀ i, i < k → a.getD i 0 ≤ n) : val n a k < val n b k := by
  have h0 : ∀ j, j ≤ p → val n a j = val n b j := by
    intro j
    induction j with
    | zero => intro _; rfl
    | succ j ih => intro hj; simp only [val]; rw [ih (by omega), he j (by omega)]
  have h1 : ∀ j, p < j → j ≤ k → val n a j < val n b j := by
    intro j
    induction j with
    | zero => intro h; omega
    | succ j ih =>
      intro hj hjk
      simp only [val]
      by_cases e : j = p
      · subst e
        rw [h0 j (Nat.le_refl _)]
        omega
      · have h2 := ih (by omega) (by omega)
        have h3 := ha j (by omega)
        have h4 : (val n a j + 1) * (n + 1) ≤ val n b j * (n + 1) := Nat.mul_le_mul_right _ h2
        rw [Nat.succ_mul] at h4
        omega
  exact h1 k hp (Nat.le_refl _)
theorem val_raise {n k : Nat} {l : List Nat} (h : Comb n k l) {i : Nat} (hi : i < k) : val n l k < val n (raise l i) k := by
  have hl := h.1
  refine val_rise (p := i) hi (fun j hj => ?_) ?_ (fun j hj => Nat.le_of_lt (h.2.2 j hj))
  · rw [raise_get (by omega), if_pos hj]
  · rw [raise_get (by omega), if_neg (by omega)]; omega
/-- A row of k places at which a message with few wrong symbols has what is told. -/
theorem good_row {m xs ys : List F8} {k : Nat} (hl : xs.length = ys.length) (hk : k + wr m xs ys ≤ xs.length) : ∃ c, Comb xs.length k c ∧ ∀ i, i < k → eval m (coef xs (c.getD i 0)) = coef ys (c.getD i 0) := by
  have hgen : ∀ (us vs : List F8) (o : Nat), us.length = vs.length → (∀ j, j < us.length → coef us j = coef xs (o + j) ∧ coef vs j = coef ys (o + j)) → o + us.length = xs.length →
      ∃ c : List Nat, us.length ≤ c.length + wr m us vs ∧ (∀ i, i + 1 < c.length → c.getD i 0 < c.getD (i + 1) 0) ∧ (∀ i, i < c.length → o ≤ c.getD i 0 ∧ c.getD i 0 < xs.length ∧ eval m (coef xs (c.getD i 0)) = coef ys (c.getD i 0)) := by
    intro us
    induction us with
    | nil => intro vs o _ _ _; exact ⟨[], by simp, by simp, by simp⟩
    | cons u us ih =>
      intro vs o hv hc ho
      cases vs with
      | nil => simp at hv
      | cons v vs =>
        obtain ⟨c, h1, h2, h3⟩ := ih vs (o + 1) (by simpa using hv) (fun j hj => by
          have := hc (j + 1) (by simpa using hj)
          rw [coef_cons_succ, coef_cons_succ] at this
          rw [show o + 1 + j = o + (j + 1) by omega]; exact this) (by simp at ho; omega)
        have h0 := hc 0 (by simp)
        rw [coef_cons_zero, coef_cons_zero, Nat.add_zero] at h0
        simp only [List.length_cons] at ho
        rw [wr_cons]
        by_cases e : eval m u = v
        · refine ⟨o :: c, by rw [if_neg (by simpa using e)]; simp; omega, ?_, ?_⟩
          · intro i hi
            cases i with
            | zero =>
              have := (h3 0 (by simpa using hi)).1
              simp at this ⊢; omega
            | succ i => simpa using h2 i (by simpa using hi)
          · intro i hi
            cases i with
            | zero => exact ⟨Nat.le_refl _, by show o < xs.length; omega, by show eval m (coef xs o) = coef ys o; rw [← h0.1, ← h0.2]; exact e⟩
            | succ i =>
              have := h3 i (by simpa using hi)
              exact ⟨by show o ≤ c.getD i 0; omega, this.2.1, this.2.2⟩
        · refine ⟨c, by rw [if_pos (by simpa using e)]; simp; omega, h2, fun i hi => ?_⟩
          have := h3 i hi
          exact ⟨by omega, this.2⟩
  obtain ⟨c, h1, h2, h3⟩ := hgen xs ys 0 hl (fun j _ => by simp) (by simp)
  have hg : ∀ i, i < k → (c.take k).getD i 0 = c.getD i 0 := fun i hi => by simp [List.getD_eq_getElem?_getD, hi]
  refine ⟨c.take k, ⟨by rw [List.length_take]; omega, fun i hi => ?_, fun i hi => ?_⟩, fun i hi => ?_⟩
  · rw [hg i (by omega), hg (i + 1) hi]; exact h2 i (by omega)
  · rw [hg i hi]; exact (h3 i (by omega)).2.1
  · rw [hg i hi]; exact (h3 i (by omega)).2.2
/-- The places, rising, of symbols that are wrong. -/
def wrong (xs : List F8) (m : List F8) (pl : List Int) (ys : List F8) : List Int :=
  (List.range xs.length).flatMap fun p : Nat => ((List.range pl.length).filter fun i => decide (pl.getD i 0 = (p : Int) ∧ eval m (coef xs p) ≠ coef ys i)).map fun _ => (p : Int)
theorem sum_filter (l : List Nat) (P : Nat → Bool) : (l.filter P).length = (l.map fun x => if P x then 1 else 0).sum := by
  induction l with
  | nil => rfl
  | cons x l ih => by_cases h : P x <;> simp [h, ih, Nat.add_comm]
theorem sum_zero (l : List Nat) (f : Nat → Nat) (h : ∀ x ∈ l, f x = 0) : (l.map f).sum = 0 := by
  induction l with
  | nil => rfl
  | cons x l ih => simp [h x (by simp), ih (fun y hy => h y (by simp [hy]))]
theorem sum_add (l : List Nat) (f g : Nat → Nat) : (l.map fun x => f x + g x).sum = (l.map f).sum + (l.map g).sum := by
  induction l with
  | nil => rfl
  | cons x l ih => simp [ih]; omega
theorem sum_swap (l r : List Nat) (f : Nat → Nat → Nat) : (l.map fun x => (r.map (f x)).sum).sum = (r.map fun y => (l.map fun x => f x y).sum).sum := by
  induction l with
  | nil => simp [sum_zero]
  | cons x l ih => simp only [List.map_cons, List.sum_cons]; rw [ih, sum_add]
theorem sum_one {n q : Nat} (hq : q < n) (b : Nat) : ((List.range n).map fun p => if p = q then b else 0).sum = b := by
  induction n with
  | zero => omega
  | succ n ih =>
    rw [List.range_succ, List.map_append, List.sum_append]
    by_cases e : q = n
    · subst e
      rw [sum_zero _ _ (fun x hx => by rw [if_neg]; have := List.mem_range.1 hx; omega)]
      simp
    · rw [ih (by omega)]
      simp
      omega
theorem wrong_length {xs m ys : List F8} {pl : List Int} (hok : OkP xs.length pl) (hl : pl.length = ys.length) : (wrong xs m pl ys).length = wr m (ptsAt xs pl) ys := by
  unfold wrong
  rw [List.length_flatMap]
  have e1 : ((List.range xs.length).map fun p : Nat => (((List.range pl.length).filter fun i => decide (pl.getD i 0 = (p : Int) ∧ eval m (coef xs p) ≠ coef ys i)).map fun _ => (p : Int)).length) =
      (List.range xs.length).map fun p : Nat => ((List.range pl.length).map fun i => if pl.getD i 0 = (p : Int) ∧ eval m (coef xs p) ≠ coef ys i then 1 else 0).sum := by
    refine List.map_congr_left fun p _ => ?_
    rw [List.length_map, sum_filter]
    simp
  rw [e1, sum_swap]
  -- each place is met once
  have e2 : ∀ i ∈ List.range pl.length, ((List.range xs.length).map fun p : Nat => if pl.getD i 0 = (p : Int) ∧ eval m (coef xs p) ≠ coef ys i then 1 else 0).sum = if eval m (coef (ptsAt xs pl) i) ≠ coef ys i then 1 else 0 := by
    intro i hi
    have hi := List.mem_range.1 hi
    have hg : pl.getD i 0 = pl[i] := by simp [List.getD_eq_getElem?_getD, hi]
    have hb := hok.1 pl[i] (List.getElem_mem hi)
    obtain ⟨q, hq⟩ : ∃ q : Nat, pl[i] = (q : Int) := ⟨pl[i].toNat, by omega⟩
    have hpt : coef (ptsAt xs pl) i = coef xs q := by
      rw [coef_of_lt (by rw [ptsAt_length]; exact hi)]
      simp [ptsAt, hq]
    rw [hpt, ← sum_one (n := xs.length) (q := q) (by omega) (if eval m (coef xs q) ≠ coef ys i then 1 else 0)]
    congr 1
    refine List.map_congr_left fun p _ => ?_
    rw [hg, hq]
    by_cases e : p = q
    · subst e; simp
    · have : ¬ ((q : Int) = (p : Int)) := by omega
      simp [e, this]
  rw [List.map_congr_left e2]
  -- and so it is what wr counts
  have hgen : ∀ (us vs : List F8), us.length = vs.length → ((List.range us.length).map fun i => if eval m (coef us i) ≠ coef vs i then 1 else 0).sum = wr m us vs := by
    intro us
    induction us with
    | nil => intro vs _; simp [wr]
    | cons u us ih =>
      intro vs hv
      cases vs with
      | nil => simp at hv
      | cons v vs =>
        rw [wr_cons, ← ih vs (by simpa using hv), List.length_cons, List.range_succ_eq_map]
        simp only [List.map_cons, List.map_map, List.sum_cons, coef_cons_zero]
        congr 1
  have := hgen (ptsAt xs pl) ys (by rw [ptsAt_length, hl])
  rw [ptsAt_length] at this
  exact this
/-- What a decoder answers, some of whose symbols may be wrong: the message, the wrong places, the error's number. -/
def WIs (xs : List F8) (k : Nat) (pl : List Int) (ys : List F8) (t : Int) (m : List F8) (wl : List Int) (z : Int) : Prop :=
  (¬ ((pl.length = ys.length ∧ OkP xs.length pl) ∧ 0 ≤ t) ∧ m = [] ∧ wl = [] ∧ z = 2) ∨
  (((pl.length = ys.length ∧ OkP xs.length pl) ∧ 0 ≤ t) ∧ (pl.length : Int) < k + 2 * t ∧ m = [] ∧ wl = [] ∧ z = 70) ∨
  (((pl.length = ys.length ∧ OkP xs.length pl) ∧ 0 ≤ t) ∧ k + 2 * t ≤ (pl.length : Int) ∧ z = 0 ∧ m.length = k ∧ (wr m (ptsAt xs pl) ys : Int) ≤ t ∧ wl = wrong xs m pl ys) ∨
  (((pl.length = ys.length ∧ OkP xs.length pl) ∧ 0 ≤ t) ∧ k + 2 * t ≤ (pl.length : Int) ∧ z = 80 ∧ m = [] ∧ wl = [] ∧ ∀ m' : List F8, m'.length = k → t < (wr m' (ptsAt xs pl) ys : Int))
theorem WIs.only {xs : List F8} {k : Nat} {pl : List Int} {ys m m' : List F8} {t z z' : Int} {wl wl' : List Int} (hn : xs.Nodup) (h : WIs xs k pl ys t m wl z) (h' : WIs xs k pl ys t m' wl' z') : m = m' ∧ wl = wl' ∧ z = z' := by
  rcases h with ⟨a, h1, h2, h3⟩ | ⟨a, b, h1, h2, h3⟩ | ⟨a, b, h1, h2, h3, h4⟩ | ⟨a, b, h1, h2, h3, h4⟩ <;>
  rcases h' with ⟨a', h1', h2', h3'⟩ | ⟨a', b', h1', h2', h3'⟩ | ⟨a', b', h1', h2', h3', h4'⟩ | ⟨a', b', h1', h2', h3', h4'⟩ <;>
  first
    | exact absurd a' a
    | exact absurd a a'
    | exact absurd b (by omega)
    | exact absurd b' (by omega)
    | exact ⟨h1.trans h1'.symm, h2.trans h2'.symm, h3.trans h3'.symm⟩
    | exact ⟨h2.trans h2'.symm, h3.trans h3'.symm, h1.trans h1'.symm⟩
    | exact absurd h3 (by have := h4' m h2; omega)
    | exact absurd h3' (by have := h4 m' h2'; omega)
    | (have hm : m = m' := by
        obtain ⟨T, rfl⟩ : ∃ T : Nat, t = (T : Int) := ⟨t.toNat, by omega⟩
        exact wr_only (xs := ptsAt xs pl) (ys := ys) (k := k) (t := T) h2 h2' (ptsAt_nodup hn a.1.2) (by rw [ptsAt_length]; exact a.1.1) (by rw [ptsAt_length]; omega) (by omega) (by omega)
       subst hm
       exact ⟨rfl, h4.trans h4'.symm, h1.trans h1'.symm⟩)
end Go.Proofs.YtiapokojlkdddaaGreat.Wl
