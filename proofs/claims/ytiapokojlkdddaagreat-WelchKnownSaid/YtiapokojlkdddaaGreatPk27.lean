/- Of the program and its document, joined: WlLoc. -/
import Derived.Test.YtiapokojlkdddaaGreatPk20
import Derived.Test.YtiapokojlkdddaaGreatPk26
/- Plain mathematics of the program's way to the wrong symbols: the equations of a locator, and what their solution tells. -/
namespace Go.Proofs.YtiapokojlkdddaaGreat.Wl
open F8 Poly Rd
open Mat (sum sum_congr mulF Sol KerT Ker app)

/-- The symbols, times their points' powers. -/
def tw (xs ys : List F8) (i : Nat) : List F8 := List.zipWith (fun x y => xpow x i * y) xs ys
theorem tw_length {xs ys : List F8} (h : xs.length = ys.length) (i : Nat) : (tw xs ys i).length = xs.length := by simp [tw, h]
theorem tw_zero (xs ys : List F8) (h : xs.length = ys.length) : tw xs ys 0 = ys := by
  refine List.ext_getElem (by rw [tw_length h, h]) fun i h1 h2 => ?_
  simp [tw, xpow, one_mul]
/-- A polynomial that goes through them. -/
def Prt (xs ys : List F8) (i : Nat) (p : List F8) : Prop := Thru xs (tw xs ys i) p
theorem Prt.val {xs ys p : List F8} {i : Nat} (h : Prt xs ys i p) (hl : xs.length = ys.length) {j : Nat} (hj : j < xs.length) : eval p (coef xs j) = xpow (coef xs j) i * coef ys j := by
  have := Thru.val h j hj (by rw [tw_length hl]; exact hj)
  rw [coef_of_lt hj, this, coef_of_lt (p := ys) (by omega)]
  simp [tw]
theorem prt_zero {xs ys p : List F8} (hl : xs.length = ys.length) (h : Thru xs ys p) : Prt xs ys 0 p := by
  unfold Prt; rw [tw_zero xs ys hl]; exact h
theorem xpow_succ (x : F8) (i : Nat) : xpow x (i + 1) = x * xpow x i := by
  first | rfl | (simp only [xpow]; rw [mul_comm])
theorem prt_succ {xs ys p u v : List F8} {i : Nat} (hl : xs.length = ys.length) (h : Prt xs ys i p) (hd : DivBy (0 :: p) (trim (roots xs)) u v) : Prt xs ys (i + 1) v := by
  have hlen : len v < xs.length + 1 := by have := hd.lt; rwa [len_trim, len_roots] at this
  refine ⟨hd.tr, (bdd_len v).mono (by omega), fun j h1 h2 => ?_⟩
  have e1 : eval (trim (roots xs)) xs[j] = 0 := by rw [eval_trim]; exact (eval_roots xs _).2 (List.getElem_mem h1)
  have e2 := eval_congr xs[j] hd.eqv
  rw [eval_padd, eval_pmul, e1, mul_zero, zero_add] at e2
  have e3 := h.val hl h1
  rw [coef_of_lt h1, coef_of_lt (p := ys) (by omega)] at e3
  rw [← e2]
  show 0 + xs[j] * eval p xs[j] = _
  rw [zero_add, e3]
  simp only [tw, List.getElem_zipWith]
  rw [xpow_succ, mul_assoc]
theorem prt_len {xs ys p : List F8} {i : Nat} (h : Prt xs ys i p) : p.length ≤ xs.length := thru_length h
/-- A sum of them. -/
def comb (P : Nat → List F8) (x : Nat → F8) : Nat → List F8
  | 0 => []
  | c + 1 => padd (comb P x c) (scale (x c) (P c))
theorem coef_comb (P : Nat → List F8) (x : Nat → F8) (i : Nat) : ∀ c, coef (comb P x c) i = sum c fun j => coef (P j) i * x j
  | 0 => coef_nil i
  | c + 1 => by simp only [comb, sum]; rw [coef_padd, coef_scale, coef_comb P x i c, mul_comm]
theorem bdd_comb {P : Nat → List F8} {x : Nat → F8} {n : Nat} : ∀ {c : Nat}, (∀ j, j < c → Bdd (P j) n) → Bdd (comb P x c) n
  | 0, _ => fun _ _ => coef_nil _
  | c + 1, h => bdd_padd (bdd_comb fun j hj => h j (by omega)) fun i hi => by rw [coef_scale, h c (by omega) i hi, mul_zero]
theorem coef_range (x : Nat → F8) (n i : Nat) : coef ((List.range n).map x) i = if i < n then x i else 0 := by
  by_cases h : i < n
  · rw [if_pos h, coef_of_lt (by simpa using h)]; simp
  · rw [if_neg h, coef_of_le (by simpa using h)]
theorem eval_comb {xs ys : List F8} {P : Nat → List F8} (x : Nat → F8) (hl : xs.length = ys.length) {j : Nat} (hj : j < xs.length) : ∀ {c : Nat}, (∀ i, i < c → Prt xs ys i (P i)) → eval (comb P x c) (coef xs j) = coef ys j * eval ((List.range c).map x) (coef xs j)
  | 0, _ => by show (0 : F8) = coef ys j * 0; rw [mul_zero]
  | c + 1, h => by
    simp only [comb]
    rw [eval_padd, eval_scale, eval_comb x hl hj fun i hi => h i (by omega), (h c (by omega)).val hl hj, List.range_succ, List.map_append, List.map_cons, List.map_nil, eval_snoc, List.length_map, List.length_range, mul_add]
    ac_rfl
theorem roots_lead : ∀ xs : List F8, coef (roots xs) xs.length = 1
  | [] => rfl
  | x :: xs => by
    have hb : coef (roots xs) (xs.length + 1) = 0 := bdd_len (roots xs) _ (by rw [len_roots]; exact Nat.le_refl _)
    show coef (pmul [x, 1] (roots xs)) (xs.length + 1) = 1
    rw [coef_pmul_cons, hb, mul_zero, zero_add, if_neg (by omega), Nat.add_sub_cancel, coef_pmul_cons, coef_pmul_nil]
    rw [roots_lead xs]
    simp only [ite_self]
    rw [mul_one, add_zero]
/-- The points whose symbol is wrong. -/
def bad (m xs ys : List F8) : List F8 := ((xs.zip ys).filter fun p => decide (eval m p.1 ≠ p.2)).map Prod.fst
theorem bad_length (m xs ys : List F8) : (bad m xs ys).length = wr m xs ys := by unfold bad wr; rw [List.length_map]
theorem bad_nodup {m xs ys : List F8} (hn : xs.Nodup) (hl : xs.length = ys.length) : (bad m xs ys).Nodup := by
  have h1 : ((xs.zip ys).map Prod.fst).Nodup := by rw [List.map_fst_zip (by omega)]; exact hn
  exact h1.sublist (List.filter_sublist.map _)
theorem mem_bad {m xs ys : List F8} (hl : xs.length = ys.length) {z : F8} : z ∈ bad m xs ys ↔ ∃ j, j < xs.length ∧ coef xs j = z ∧ eval m z ≠ coef ys j := by
  unfold bad
  rw [List.mem_map]
  constructor
  · rintro ⟨⟨a, b⟩, hp, rfl⟩
    obtain ⟨h1, h2⟩ := List.mem_filter.1 hp
    obtain ⟨i, hi, he⟩ := List.mem_iff_getElem.1 h1
    rw [List.length_zip] at hi
    rw [List.getElem_zip] at he
    injection he with e1 e2
    refine ⟨i, by omega, by rw [coef_of_lt (by omega)]; exact e1, ?_⟩
    rw [coef_of_lt (p := ys) (by omega), e2]
    simpa using h2
  · rintro ⟨j, hj, rfl, h⟩
    refine ⟨(coef xs j, coef ys j), List.mem_filter.2 ⟨List.mem_iff_getElem.2 ⟨j, by rw [List.length_zip]; omega, ?_⟩, by simpa using h⟩, rfl⟩
    rw [List.getElem_zip, coef_of_lt hj, coef_of_lt (p := ys) (by omega)]
theorem mem_bad_at {m xs ys : List F8} (hn : xs.Nodup) (hl : xs.length = ys.length) {i : Nat} (hi : i < xs.length) : coef xs i ∈ bad m xs ys ↔ eval m (coef xs i) ≠ coef ys i := by
  rw [mem_bad hl]
  constructor
  · rintro ⟨j, hj, he, h⟩
    rw [coef_of_lt hj, coef_of_lt hi] at he
    have := (List.getElem_inj hn).1 he
    subst this
    exact h
  · intro h
    exact ⟨i, hi, rfl, h⟩
/-- What a locator owes: it is 0 just where a message's symbols are wrong, if so many are. -/
def LocIs (xs ys : List F8) (k count : Nat) (L : List F8) : Prop :=
  L.length = count + 1 ∧ coef L count = 1 ∧ ∀ m : List F8, m.length = k → wr m xs ys = count → ∀ i, i < xs.length → (eval L (coef xs i) = 0 ↔ eval m (coef xs i) ≠ coef ys i)
theorem loc_zero (xs ys : List F8) (k : Nat) (hl : xs.length = ys.length) : LocIs xs ys k 0 [1] := by
  refine ⟨rfl, rfl, fun m _ h i hi => ?_⟩
  have e : eval [1] (coef xs i) = 1 := by show 1 + coef xs i * 0 = 1; rw [mul_zero, add_zero]
  rw [e]
  refine ⟨fun h => absurd h one_ne_zero, fun h2 => ?_⟩
  have hw := (wr_zero hl).1 h
  rw [← hw, word_get hi] at h2
  exact absurd rfl h2
section
variable {xs ys m : List F8} {k count n : Nat} {P : Nat → List F8}
theorem only_sol (hn : xs.Nodup) (hx : xs.length = n) (hl : xs.length = ys.length) (hP : ∀ i, i ≤ count → Prt xs ys i (P i)) (hk : k + 2 * count ≤ n) (hm : m.length = k) (hw : wr m xs ys = count) :
    KerT (n - (k + count)) count (fun i j => coef (P j) (k + count + i)) := by
  intro x hx0 j hj
  have hb : Bdd (comb P x count) n := bdd_comb fun j hj => hx ▸ Thru.bdd (hP j (by omega))
  have hb2 : Bdd (comb P x count) (k + count) := fun i hi => by
    rcases Nat.lt_or_ge i n with h | h
    · rw [coef_comb]
      have := hx0 (i - (k + count)) (by omega)
      simp only [app] at this
      rw [show k + count + (i - (k + count)) = i by omega] at this
      exact this
    · exact hb i h
  have hE : Bdd ((List.range count).map x) count := by have := bdd_length ((List.range count).map x); simpa using this
  have hv : ∀ i, i < xs.length → eval (comb P x count) (coef xs i) = coef ys i * eval ((List.range count).map x) (coef xs i) := fun i hi => eval_comb x hl hi fun i hi => hP i (by omega)
  have hq := bw hm hn hl (Nat.le_of_eq hw) (by omega) hb2 (hE.mono (Nat.le_succ _)) hv
  have hz : Eqv ((List.range count).map x) [] := by
    refine Poly.only (n := count) (xs := bad m xs ys) hE (fun i _ => coef_nil i) (by rw [bad_length, hw]; exact Nat.le_refl _) (bad_nodup hn hl) fun z hz => ?_
    obtain ⟨i, hi, rfl, hne⟩ := (mem_bad hl).1 hz
    have h1 := hv i hi
    rw [eval_congr _ hq, eval_pmul] at h1
    show _ = (0 : F8)
    rcases Classical.em (eval ((List.range count).map x) (coef xs i) = 0) with h2 | h2
    · exact h2
    · exact absurd (mul_right_cancel h2 h1) hne
  have := hz j
  rw [coef_range, if_pos hj, coef_nil] at this
  exact this
theorem has_sol (hn : xs.Nodup) (hx : xs.length = n) (hl : xs.length = ys.length) (hP : ∀ i, i ≤ count → Prt xs ys i (P i)) (hk : k + 2 * count ≤ n) (hm : m.length = k) (hw : wr m xs ys = count) :
    ∀ i, i < n - (k + count) → sum count (fun j => coef (P j) (k + count + i) * coef (roots (bad m xs ys)) j) = coef (P count) (k + count + i) := by
  intro i hi
  obtain ⟨E, hE⟩ : ∃ E, roots (bad m xs ys) = E := ⟨_, rfl⟩
  have hlead : coef E count = 1 := by rw [← hE, ← hw, ← bad_length m xs ys]; exact roots_lead _
  have hEb : Bdd E (count + 1) := by
    have := bdd_len (roots (bad m xs ys))
    rw [len_roots, bad_length, hw, hE] at this
    exact this
  have hEe : Eqv ((List.range (count + 1)).map (coef E)) E := fun j => by
    rw [coef_range]
    by_cases h : j < count + 1
    · rw [if_pos h]
    · rw [if_neg h, hEb j (by omega)]
  have hq : Eqv (comb P (coef E) (count + 1)) (pmul m E) := by
    refine Poly.only (n := n) (xs := xs) (bdd_comb fun j hj => hx ▸ Thru.bdd (hP j (by omega))) (fun j hj => bdd_pmul (hm ▸ bdd_length m) hEb j (by omega)) (by omega) hn fun z hz => ?_
    obtain ⟨j, hj, rfl⟩ := List.getElem_of_mem hz
    rw [← coef_of_lt hj, eval_comb (coef E) hl hj fun i hi => hP i (by omega), eval_congr _ hEe, eval_pmul]
    rcases Classical.em (eval m (coef xs j) = coef ys j) with h | h
    · rw [h]
    · have : eval E (coef xs j) = 0 := by rw [← hE]; exact (eval_roots _ _).2 ((mem_bad_at hn hl hj).2 h)
      rw [this, mul_zero, mul_zero]
  have h1 := hq (k + count + i)
  rw [coef_comb, bdd_pmul (hm ▸ bdd_length m) hEb _ (by omega)] at h1
  simp only [sum] at h1
  rw [hlead, mul_one] at h1
  rw [hE]
  exact add_eq_zero.1 h1
/-- A solution of the equations is a locator. -/
theorem loc_of {X : Nat → Nat → F8} (hn : xs.Nodup) (hx : xs.length = n) (hl : xs.length = ys.length) (hP : ∀ i, i ≤ count → Prt xs ys i (P i)) (hk : k + 2 * count ≤ n)
    (hs : Sol (n - (k + count)) count 1 (fun i j => coef (P j) (k + count + i)) (fun i _ => coef (P count) (k + count + i)) X) :
    LocIs xs ys k count ((List.range count).map (fun j => X j 0) ++ [1]) := by
  refine ⟨by simp, ?_, fun m hm hw i hi => ?_⟩
  · unfold coef
    rw [List.getD_eq_getElem?_getD, List.getElem?_append_right (by simp)]
    simp
  · have hX : ∀ j, j < count → X j 0 = coef (roots (bad m xs ys)) j := fun j hj =>
      hs.only (Y := fun j _ => coef (roots (bad m xs ys)) j) (fun a _ ha _ => has_sol hn hx hl hP hk hm hw a ha) hj (Nat.lt_succ_self 0)
    have he : Eqv ((List.range count).map (fun j => X j 0) ++ [1]) (roots (bad m xs ys)) := fun j => by
      have hlead : coef (roots (bad m xs ys)) count = 1 := by rw [← hw, ← bad_length m xs ys]; exact roots_lead _
      have hEb := bdd_len (roots (bad m xs ys))
      rw [len_roots, bad_length, hw] at hEb
      rcases Nat.lt_trichotomy j count with h | h | h
      · rw [← hX j h, coef_of_lt (by simp; omega), List.getElem_append_left (by simpa using h)]; simp
      · subst h
        rw [hlead, coef_of_lt (by simp), List.getElem_append_right (by simp)]
        simp
      · rw [hEb j h, coef_of_le (by simp; omega)]
    rw [eval_congr _ he, eval_roots, mem_bad_at hn hl hi]
/-- .. and where there is none, no message has just so many wrong symbols. -/
theorem loc_none (hn : xs.Nodup) (hx : xs.length = n) (hl : xs.length = ys.length) (hP : ∀ i, i ≤ count → Prt xs ys i (P i)) (hk : k + 2 * count ≤ n)
    (hs : ¬ ∃ X, Sol (n - (k + count)) count 1 (fun i j => coef (P j) (k + count + i)) (fun i _ => coef (P count) (k + count + i)) X) : ∀ m : List F8, m.length = k → wr m xs ys ≠ count := fun m hm hw =>
  hs ⟨fun j _ => coef (roots (bad m xs ys)) j, only_sol hn hx hl hP hk hm hw, fun i _ hi _ => has_sol hn hx hl hP hk hm hw i hi⟩
end
/-! ## What the locator parts -/
/-- The places at which it is 0; those at which it isn't; their symbols. -/
def zer (L xs : List F8) (pl : List Int) : List Int := ((xs.zip pl).filter fun p => decide (eval L p.1 = 0)).map Prod.snd
def rgt (L xs : List F8) (pl : List Int) : List Int := ((xs.zip pl).filter fun p => decide (eval L p.1 ≠ 0)).map Prod.snd
def rgy (L xs ys : List F8) : List F8 := ((xs.zip ys).filter fun p => decide (eval L p.1 ≠ 0)).map Prod.snd
theorem zip_snoc {α β : Type} {xs : List α} {ys : List β} {i : Nat} (h1 : i < xs.length) (h2 : i < ys.length) : (xs.take (i + 1)).zip (ys.take (i + 1)) = (xs.take i).zip (ys.take i) ++ [(xs[i], ys[i])] := by
  rw [List.take_succ_eq_append_getElem h1, List.take_succ_eq_append_getElem h2, List.zip_append (by simp; omega)]
  rfl
section
variable {L xs ys : List F8} {pl : List Int} {i : Nat}
theorem zer_succ (h1 : i < xs.length) (h2 : i < pl.length) : zer L (xs.take (i + 1)) (pl.take (i + 1)) = zer L (xs.take i) (pl.take i) ++ if eval L (coef xs i) = 0 then [pl[i]] else [] := by
  unfold zer
  rw [zip_snoc h1 h2, List.filter_append, List.map_append, coef_of_lt h1]
  by_cases h : eval L xs[i] = 0 <;> simp [h]
theorem rgt_succ (h1 : i < xs.length) (h2 : i < pl.length) : rgt L (xs.take (i + 1)) (pl.take (i + 1)) = rgt L (xs.take i) (pl.take i) ++ if eval L (coef xs i) = 0 then [] else [pl[i]] := by
  unfold rgt
  rw [zip_snoc h1 h2, List.filter_append, List.map_append, coef_of_lt h1]
  by_cases h : eval L xs[i] = 0 <;> simp [h]
theorem rgy_succ (h1 : i < xs.length) (h2 : i < ys.length) : rgy L (xs.take (i + 1)) (ys.take (i + 1)) = rgy L (xs.take i) (ys.take i) ++ if eval L (coef xs i) = 0 then [] else [coef ys i] := by
  unfold rgy
  rw [zip_snoc h1 h2, List.filter_append, List.map_append, coef_of_lt h1, coef_of_lt h2]
  by_cases h : eval L xs[i] = 0 <;> simp [h]
theorem zip_sub {α β : Type} : ∀ (a : List α) (b : List β), ((a.zip b).map Prod.snd).Sublist b
  | [], b => by simp
  | _ :: _, [] => by simp
  | x :: a, y :: b => by
    rw [List.zip_cons_cons, List.map_cons]
    exact (zip_sub a b).cons_cons y
theorem rgt_sub (L xs : List F8) (pl : List Int) : (rgt L xs pl).Sublist pl := by
  unfold rgt
  exact (List.filter_sublist.map _).trans (zip_sub _ _)
theorem zer_sub (L xs : List F8) (pl : List Int) : (zer L xs pl).Sublist pl := by
  unfold zer
  exact (List.filter_sublist.map _).trans (zip_sub _ _)
end
theorem rg_len {L : List F8} : ∀ {xs : List F8} {pl : List Int} {ys : List F8}, xs.length = pl.length → xs.length = ys.length → (rgt L xs pl).length = (rgy L xs ys).length ∧ (zer L xs pl).length + (rgt L xs pl).length = xs.length
  | [], [], [], _, _ => ⟨rfl, rfl⟩
  | x :: xs, p :: pl, y :: ys, h1, h2 => by
    obtain ⟨a, b⟩ := rg_len (L := L) (xs := xs) (pl := pl) (ys := ys) (by simpa using h1) (by simpa using h2)
    unfold rgt rgy zer at *
    by_cases h : eval L x = 0 <;> simp [h] at a b ⊢ <;> omega
  | [], _ :: _, _, h, _ => by simp at h
  | [], [], _ :: _, _, h => by simp at h
  | _ :: _, [], _, h, _ => by simp at h
  | _ :: _, _ :: _, [], _, h => by simp at h
theorem rg_word {L m : List F8} (X : List F8) : ∀ {pl : List Int} {ys : List F8}, pl.length = ys.length → (word m (ptsAt X (rgt L (ptsAt X pl) pl)) = rgy L (ptsAt X pl) ys ↔ ∀ i, i < pl.length → eval L (coef (ptsAt X pl) i) ≠ 0 → eval m (coef (ptsAt X pl) i) = coef ys i)
  | [], [], _ => by simp [rgt, rgy, ptsAt, word]
  | p :: pl, y :: ys, h => by
    have ih := rg_word (L := L) (m := m) X (pl := pl) (ys := ys) (by simpa using h)
    have hc : (∀ i, i < (p :: pl).length → eval L (coef (ptsAt X (p :: pl)) i) ≠ 0 → eval m (coef (ptsAt X (p :: pl)) i) = coef (y :: ys) i) ↔ (eval L (coef X p.toNat) ≠ 0 → eval m (coef X p.toNat) = y) ∧ ∀ i, i < pl.length → eval L (coef (ptsAt X pl) i) ≠ 0 → eval m (coef (ptsAt X pl) i) = coef ys i := by
      constructor
      · exact fun h => ⟨h 0 (by simp), fun i hi => h (i + 1) (by simpa using hi)⟩
      · rintro ⟨h0, h1⟩ i hi
        cases i with
        | zero => exact h0
        | succ i => exact h1 i (by simpa using hi)
    rw [hc, ← ih]
    by_cases h0 : eval L (coef X p.toNat) = 0
    · have e1 : rgt L (ptsAt X (p :: pl)) (p :: pl) = rgt L (ptsAt X pl) pl := by simp [rgt, ptsAt, h0]
      have e2 : rgy L (ptsAt X (p :: pl)) (y :: ys) = rgy L (ptsAt X pl) ys := by simp [rgy, ptsAt, h0]
      rw [e1, e2]
      exact ⟨fun h => ⟨fun h => absurd h0 h, h⟩, fun h => h.2⟩
    · have e1 : rgt L (ptsAt X (p :: pl)) (p :: pl) = p :: rgt L (ptsAt X pl) pl := by simp [rgt, ptsAt, h0]
      have e2 : rgy L (ptsAt X (p :: pl)) (y :: ys) = y :: rgy L (ptsAt X pl) ys := by simp [rgy, ptsAt, h0]
      rw [e1, e2]
      show eval m (coef X p.toNat) :: word m (ptsAt X _) = _ ↔ _
      rw [List.cons.injEq]
      exact ⟨fun h => ⟨fun _ => h.1, h.2⟩, fun h => ⟨h.1 h0, h.2⟩⟩
  | [], _ :: _, h => by simp at h
  | _ :: _, [], h => by simp at h
theorem mem_zer {L xs : List F8} {pl : List Int} (hl : xs.length = pl.length) {z : Int} : z ∈ zer L xs pl ↔ ∃ i, i < pl.length ∧ pl.getD i 0 = z ∧ eval L (coef xs i) = 0 := by
  unfold zer
  rw [List.mem_map]
  constructor
  · rintro ⟨⟨a, b⟩, hp, rfl⟩
    obtain ⟨h1, h2⟩ := List.mem_filter.1 hp
    obtain ⟨i, hi, he⟩ := List.mem_iff_getElem.1 h1
    rw [List.length_zip] at hi
    rw [List.getElem_zip] at he
    injection he with e1 e2
    refine ⟨i, by omega, by simp [List.getD_eq_getElem?_getD, (by omega : i < pl.length), e2], ?_⟩
    rw [coef_of_lt (by omega), e1]
    simpa using h2
  · rintro ⟨i, hi, rfl, h⟩
    refine ⟨(coef xs i, pl[i]), List.mem_filter.2 ⟨List.mem_iff_getElem.2 ⟨i, by rw [List.length_zip]; omega, ?_⟩, by simpa using h⟩, by simp [List.getD_eq_getElem?_getD, hi]⟩
    rw [List.getElem_zip, coef_of_lt (by omega)]
/-- It is 0 at few places. -/
theorem zer_le {L xs : List F8} {pl : List Int} {count : Nat} (hn : xs.Nodup) (hl : xs.length = pl.length) (h1 : L.length = count + 1) (h2 : coef L count = 1) : (zer L xs pl).length ≤ count := by
  have hlen : 0 < len L ∧ len L - 1 ≤ count := by
    have := len_le_of_bdd (bdd_length L)
    refine ⟨?_, by omega⟩
    rcases Nat.eq_zero_or_pos (len L) with h | h
    · have := len_zero.1 h count
      rw [coef_nil, h2] at this
      exact absurd this one_ne_zero
    · exact h
  have e : (zer L xs pl).length = (((xs.zip pl).filter fun p => decide (eval L p.1 = 0)).map Prod.fst).length := by unfold zer; rw [List.length_map, List.length_map]
  rw [e]
  refine Nat.le_trans (roots_le hlen.1 ?_ fun x hx => ?_) hlen.2
  · have h1 : ((xs.zip pl).map Prod.fst).Nodup := by rw [List.map_fst_zip (by omega)]; exact hn
    exact h1.sublist (List.filter_sublist.map _)
  · obtain ⟨p, hp, rfl⟩ := List.mem_map.1 hx
    simpa using (List.mem_filter.1 hp).2
/-- What is told of a number of wrong symbols. -/
def MsgIs (X : List F8) (k : Nat) (pl : List Int) (ys : List F8) (count : Nat) (m : List F8) (wl : List Int) (z : Int) : Prop :=
  (z = 0 ∧ m.length = k ∧ wr m (ptsAt X pl) ys ≤ count ∧ (wr m (ptsAt X pl) ys = count → wl = wrong X m pl ys)) ∨
  (z ≠ 0 ∧ ∀ m : List F8, m.length = k → wr m (ptsAt X pl) ys ≠ count)
theorem wr_le_of {m L xs ys : List F8} {pl : List Int} (hl : xs.length = ys.length) (hp : xs.length = pl.length) (h : ∀ i, i < xs.length → eval L (coef xs i) ≠ 0 → eval m (coef xs i) = coef ys i) : wr m xs ys ≤ (zer L xs pl).length := by
  induction xs generalizing ys pl with
  | nil => simp [wr]
  | cons x xs ih =>
    cases ys with
    | nil => simp at hl
    | cons y ys =>
      cases pl with
      | nil => simp at hp
      | cons p pl =>
        have h1 := ih (ys := ys) (pl := pl) (by simpa using hl) (by simpa using hp) fun i hi => h (i + 1) (by simpa using hi)
        have h0 := h 0 (by simp)
        simp only [coef_cons_zero] at h0
        rw [wr_cons]
        have e : (zer L (x :: xs) (p :: pl)).length = (if eval L x = 0 then 1 else 0) + (zer L xs pl).length := by
          unfold zer
          by_cases hz : eval L x = 0 <;> simp [hz, Nat.add_comm]
        rw [e]
        by_cases hz : eval L x = 0
        · rw [if_pos hz]; split <;> omega
        · rw [if_neg hz, if_neg (by simpa using h0 hz)]; omega
theorem sub_le {α : Type} [DecidableEq α] : ∀ {l r : List α}, l.Nodup → (∀ x ∈ l, x ∈ r) → l.length ≤ r.length
  | [], _, _, _ => Nat.zero_le _
  | x :: l, r, hn, h => by
    have hx := h x (by simp)
    have h1 := sub_le (l := l) (r := r.erase x) (List.nodup_cons.1 hn).2 fun y hy => (List.mem_erase_of_ne (by rintro rfl; exact (List.nodup_cons.1 hn).1 hy)).2 (h y (by simp [hy]))
    rw [List.length_erase_of_mem hx] at h1
    have := List.length_pos_of_mem hx
    simp
    omega
theorem len_same {α : Type} [DecidableEq α] {l r : List α} (hl : l.Nodup) (h : ∀ x ∈ l, x ∈ r) (hlen : r.length ≤ l.length) : ∀ x ∈ r, x ∈ l := by
  intro x hx
  rcases Classical.em (x ∈ l) with h1 | h1
  · exact h1
  · have h2 : (x :: l).length ≤ r.length := by
      have hnd : (x :: l).Nodup := List.nodup_cons.2 ⟨h1, hl⟩
      exact sub_le hnd fun y hy => by
        rcases List.mem_cons.1 hy with rfl | hy
        · exact hx
        · exact h y hy
    simp at h2
    omega
/-- What the rest of the symbols tell. -/
theorem msg_of_loc {X L ys l : List F8} {k count : Nat} {pl : List Int} {z : Int} {wl : List Int} (hn : X.Nodup) (hok : OkP X.length pl) (hl : pl.length = ys.length) (hk : k + 2 * count ≤ pl.length) (hL : LocIs (ptsAt X pl) ys k count L)
    (hd : DecIs X k (rgt L (ptsAt X pl) pl) (rgy L (ptsAt X pl) ys) l z) (hs : wl.Perm (zer L (ptsAt X pl) pl)) (hs2 : wl.Pairwise (· ≤ ·)) : MsgIs X k pl ys count l wl z := by
  have hpl : (ptsAt X pl).length = pl.length := ptsAt_length X pl
  have hnd := ptsAt_nodup hn hok
  have hz := zer_le (pl := pl) hnd hpl hL.1 hL.2.1
  obtain ⟨r1, r2⟩ := rg_len (L := L) (xs := ptsAt X pl) (pl := pl) (ys := ys) hpl (by omega)
  have hokr : OkP X.length (rgt L (ptsAt X pl) pl) := ⟨fun i hi => hok.1 i ((rgt_sub _ _ _).subset hi), hok.2.sublist (rgt_sub _ _ _)⟩
  have hrl : (rgt L (ptsAt X pl) pl).length = (rgy L (ptsAt X pl) ys).length ∧ OkP X.length (rgt L (ptsAt X pl) pl) := ⟨r1, hokr⟩
  rcases hd with ⟨a, _⟩ | ⟨_, b, _⟩ | ⟨_, b, h1, h2, h3⟩ | ⟨_, b, h1, h2, h3⟩
  · exact absurd hrl a
  · omega
  · have hw := (rg_word X hl).1 h3
    have hle := wr_le_of (L := L) (m := l) (xs := ptsAt X pl) (ys := ys) (pl := pl) (by omega) hpl fun i hi => hw i (by omega)
    refine .inl ⟨h1, h2, by omega, fun hc => ?_⟩
    refine sorted_ext ?_ (wrong_sorted hok) fun x => ?_
    · have hnw : wl.Nodup := hs.nodup_iff.2 (hok.2.sublist (zer_sub _ _ _))
      exact (hs2.and hnw).imp fun {a b} h => by have := h.1; have := h.2; omega
    · have hsub : ∀ x ∈ wrong X l pl ys, x ∈ zer L (ptsAt X pl) pl := fun x hx => by
        obtain ⟨i, hi, rfl, hne⟩ := (mem_wrong hok).1 hx
        refine (mem_zer hpl).2 ⟨i, hi, rfl, ?_⟩
        rcases Classical.em (eval L (coef (ptsAt X pl) i) = 0) with h | h
        · exact h
        · exact absurd (hw i hi h) hne
      rw [hs.mem_iff]
      refine ⟨fun hx => len_same ((wrong_sorted hok).imp fun {a b} h => by omega) hsub ?_ x hx, hsub x⟩
      rw [wrong_length hok hl, hc]
      exact hz
  · refine .inr ⟨by omega, fun m hm hw => ?_⟩
    refine h3 m hm ((rg_word X hl).2 fun i hi hne => ?_)
    have := hL.2.2 m hm hw i (by omega)
    rcases Classical.em (eval m (coef (ptsAt X pl) i) = coef ys i) with h | h
    · exact h
    · exact absurd (this.2 h) hne
theorem msg_none {X ys l : List F8} {k count : Nat} {pl : List Int} {z : Int} {wl : List Int} (hz : z ≠ 0) (h : ∀ m : List F8, m.length = k → wr m (ptsAt X pl) ys ≠ count) : MsgIs X k pl ys count l wl z := .inr ⟨hz, h⟩
/-- What is told if so many at least are wrong. -/
theorem wis_found {X ys m : List F8} {k count : Nat} {pl : List Int} {t : Int} {wl : List Int} (ha : (pl.length = ys.length ∧ OkP X.length pl) ∧ 0 ≤ t) (hk : k + 2 * t ≤ (pl.length : Int)) (hc : (count : Int) ≤ t) (hlow : ∀ m : List F8, m.length = k → count ≤ wr m (ptsAt X pl) ys) (h : MsgIs X k pl ys count m wl 0) : WIs X k pl ys t m wl 0 := by
  rcases h with ⟨_, h1, h2, h3⟩ | ⟨h, _⟩
  · have := hlow m h1
    exact .inr (.inr (.inl ⟨ha, hk, rfl, h1, by omega, h3 (by omega)⟩))
  · exact absurd rfl h
theorem low_succ {X ys m : List F8} {k count : Nat} {pl : List Int} {z : Int} {wl : List Int} (hz : z ≠ 0) (hlow : ∀ m : List F8, m.length = k → count ≤ wr m (ptsAt X pl) ys) (h : MsgIs X k pl ys count m wl z) : ∀ m : List F8, m.length = k → count + 1 ≤ wr m (ptsAt X pl) ys := by
  rcases h with ⟨h, _⟩ | ⟨_, h⟩
  · exact absurd h hz
  · intro m hm
    have := hlow m hm
    have := h m hm
    omega
theorem wis_lost' {X ys : List F8} {k T : Nat} {pl : List Int} (ha : (pl.length = ys.length ∧ OkP X.length pl) ∧ 0 ≤ (T : Int)) (hk : k + 2 * (T : Int) ≤ (pl.length : Int)) (hlow : ∀ m : List F8, m.length = k → T + 1 ≤ wr m (ptsAt X pl) ys) : WIs X k pl ys T [] [] 80 :=
  .inr (.inr (.inr ⟨ha, hk, rfl, rfl, rfl, fun m hm => by have := hlow m hm; omega⟩))
end Go.Proofs.YtiapokojlkdddaaGreat.Wl
