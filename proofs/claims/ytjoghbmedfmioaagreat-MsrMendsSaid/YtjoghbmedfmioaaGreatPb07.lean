/- Of the program, joined: WlLoc, MsMath, WlMath3, MsMath2, ElMath. -/
import Derived.Test.YtjoghbmedfmioaaGreatPb06
import Derived.Test.YtjoghbmedfmioaaGreatPb02
namespace Go.Proofs.YtjoghbmedfmioaaGreat.Wl
open F8 Poly Rd
open Mat (sum sum_congr mulF Sol KerT Ker app)
def tw (xs ys : List F8) (i : Nat) : List F8 := List.zipWith (fun x y => xpow x i * y) xs ys
theorem tw_length {xs ys : List F8} (h : xs.length = ys.length) (i : Nat) : (tw xs ys i).length = xs.length := by simp [tw, h]
theorem tw_zero (xs ys : List F8) (h : xs.length = ys.length) : tw xs ys 0 = ys := by
 refine List.ext_getElem (by rw [tw_length h, h]) fun i h1 h2 => ?_
 simp [tw, xpow, one_mul]
def Prt (xs ys : List F8) (i : Nat) (p : List F8) : Prop := Thru xs (tw xs ys i) p
theorem Prt.val {xs ys p : List F8} {i : Nat} (h : Prt xs ys i p) (hl : xs.length = ys.length) {j : Nat} (hj : j < xs.length) : eval p (coef xs j) = xpow (coef xs j) i * coef ys j := by
 have := Thru.val h j hj (by rw [tw_length hl]; exact hj)
 rw [coef_of_lt hj, this, coef_of_lt (p := ys) (by omega)]
 simp [tw]
theorem prt_zero {xs ys p : List F8} (hl : xs.length = ys.length) (h : Thru xs ys p) : Prt xs ys 0 p := by
 unfold Prt; rw [tw_zero xs ys hl]; exact h
theorem xpow_succ (x : F8) (i : Nat) : xpow x (i + 1) = x * xpow x i := by
 first | rfl | (simp only [xpow]; rw [mul_comm])
theorem prt_succ {xs ys p u v : List F8} {i : Nat} (hl : xs.length = ys.length) (h : Prt xs ys i p) (hd : DivBy (0 :: p) (trim (roots xs)) u v) : Prt xs ys (i + 1) v := by
 have hlen : len v < xs.length + 1 := by have := hd.lt; rwa [len_trim, len_roots] at this
 refine ⟨hd.tr, (bdd_len v).mono (by omega), fun j h1 h2 => ?_⟩
 have e1 : eval (trim (roots xs)) xs[j] = 0 := by rw [eval_trim]; exact (eval_roots xs _).2 (List.getElem_mem h1)
 have e2 := eval_congr xs[j] hd.eqv
 rw [eval_padd, eval_pmul, e1, mul_zero, zero_add] at e2
 have e3 := h.val hl h1
 rw [coef_of_lt h1, coef_of_lt (p := ys) (by omega)] at e3
 rw [← e2]
 show 0 + xs[j] * eval p xs[j] = _
 rw [zero_add, e3]
 simp only [tw, List.getElem_zipWith]
 rw [xpow_succ, mul_assoc]
theorem prt_len {xs ys p : List F8} {i : Nat} (h : Prt xs ys i p) : p.length ≤ xs.length := thru_length h
def comb (P : Nat → List F8) (x : Nat → F8) : Nat → List F8
 | 0 => []
 | c + 1 => padd (comb P x c) (scale (x c) (P c))
theorem coef_comb (P : Nat → List F8) (x : Nat → F8) (i : Nat) : ∀ c, coef (comb P x c) i = sum c fun j => coef (P j) i * x j
 | 0 => coef_nil i
 | c + 1 => by simp only [comb, sum]; rw [coef_padd, coef_scale, coef_comb P x i c, mul_comm]
theorem bdd_comb {P : Nat → List F8} {x : Nat → F8} {n : Nat} : ∀ {c : Nat}, (∀ j, j < c → Bdd (P j) n) → Bdd (comb P x c) n
 | 0, _ => fun _ _ => coef_nil _
 | c + 1, h => bdd_padd (bdd_comb fun j hj => h j (by omega)) fun i hi => by rw [coef_scale, h c (by omega) i hi, mul_zero]
theorem coef_range (x : Nat → F8) (n i : Nat) : coef ((List.range n).map x) i = if i < n then x i else 0 := by
 by_cases h : i < n
 ·rw [if_pos h, coef_of_lt (by simpa using h)]; simp
 ·rw [if_neg h, coef_of_le (by simpa using h)]
theorem eval_comb {xs ys : List F8} {P : Nat → List F8} (x : Nat → F8) (hl : xs.length = ys.length) {j : Nat} (hj : j < xs.length) : ∀ {c : Nat}, (∀ i, i < c → Prt xs ys i (P i)) → eval (comb P x c) (coef xs j) = coef ys j * eval ((List.range c).map x) (coef xs j)
 | 0, _ => by show (0 : F8) = coef ys j * 0; rw [mul_zero]
 | c + 1, h => by
  simp only [comb]
  rw [eval_padd, eval_scale, eval_comb x hl hj fun i hi => h i (by omega), (h c (by omega)).val hl hj, List.range_succ, List.map_append, List.map_cons, List.map_nil, eval_snoc, List.length_map, List.length_range, mul_add]
  ac_rfl
theorem roots_lead : ∀ xs : List F8, coef (roots xs) xs.length = 1
 | [] => rfl
 | x :: xs => by
  have hb : coef (roots xs) (xs.length + 1) = 0 := bdd_len (roots xs) _ (by rw [len_roots]; exact Nat.le_refl _)
  show coef (pmul [x, 1] (roots xs)) (xs.length + 1) = 1
  rw [coef_pmul_cons, hb, mul_zero, zero_add, if_neg (by omega), Nat.add_sub_cancel, coef_pmul_cons, coef_pmul_nil]
  rw [roots_lead xs]
  simp only [ite_self]
  rw [mul_one, add_zero]
def bad (m xs ys : List F8) : List F8 := ((xs.zip ys).filter fun p => decide (eval m p.1 ≠ p.2)).map Prod.fst
theorem bad_length (m xs ys : List F8) : (bad m xs ys).length = wr m xs ys := by unfold bad wr; rw [List.length_map]
theorem bad_nodup {m xs ys : List F8} (hn : xs.Nodup) (hl : xs.length = ys.length) : (bad m xs ys).Nodup := by
 have h1 : ((xs.zip ys).map Prod.fst).Nodup := by rw [List.map_fst_zip (by omega)]; exact hn
 exact h1.sublist (List.filter_sublist.map _)
theorem mem_bad {m xs ys : List F8} (hl : xs.length = ys.length) {z : F8} : z ∈ bad m xs ys ↔ ∃ j, j < xs.length ∧ coef xs j = z ∧ eval m z ≠ coef ys j := by
 unfold bad
 rw [List.mem_map]
 constructor
 ·rintro ⟨⟨a, b⟩, hp, rfl⟩
  obtain ⟨h1, h2⟩ := List.mem_filter.1 hp
  obtain ⟨i, hi, he⟩ := List.mem_iff_getElem.1 h1
  rw [List.length_zip] at hi
  rw [List.getElem_zip] at he
  injection he with e1 e2
  refine ⟨i, by omega, by rw [coef_of_lt (by omega)]; exact e1, ?_⟩
  rw [coef_of_lt (p := ys) (by omega), e2]
  simpa using h2
 ·rintro ⟨j, hj, rfl, h⟩
  refine ⟨(coef xs j, coef ys j), List.mem_filter.2 ⟨List.mem_iff_getElem.2 ⟨j, by rw [List.length_zip]; omega, ?_⟩, by simpa using h⟩, rfl⟩
  rw [List.getElem_zip, coef_of_lt hj, coef_of_lt (p := ys) (by omega)]
theorem mem_bad_at {m xs ys : List F8} (hn : xs.Nodup) (hl : xs.length = ys.length) {i : Nat} (hi : i < xs.length) : coef xs i ∈ bad m xs ys ↔ eval m (coef xs i) ≠ coef ys i := by
 rw [mem_bad hl]
 constructor
 ·rintro ⟨j, hj, he, h⟩
  rw [coef_of_lt hj, coef_of_lt hi] at he
  have := (List.getElem_inj hn).1 he
  subst this
  exact h
 ·intro h
  exact ⟨i, hi, rfl, h⟩
def LocIs (xs ys : List F8) (k count : Nat) (L : List F8) : Prop :=
 L.length = count + 1 ∧ coef L count = 1 ∧ ∀ m : List F8, m.length = k → wr m xs ys = count → ∀ i, i < xs.length → (eval L (coef xs i) = 0 ↔ eval m (coef xs i) ≠ coef ys i)
theorem loc_zero (xs ys : List F8) (k : Nat) (hl : xs.length = ys.length) : LocIs xs ys k 0 [1] := by
 refine ⟨rfl, rfl, fun m _ h i hi => ?_⟩
 have e : eval [1] (coef xs i) = 1 := by show 1 + coef xs i * 0 = 1; rw [mul_zero, add_zero]
 rw [e]
 refine ⟨fun h => absurd h one_ne_zero, fun h2 => ?_⟩
 have hw := (wr_zero hl).1 h
 rw [← hw, word_get hi] at h2
 exact absurd rfl h2
section
variable {xs ys m : List F8} {k count n : Nat} {P : Nat → List F8}
theorem only_sol (hn : xs.Nodup) (hx : xs.length = n) (hl : xs.length = ys.length) (hP : ∀ i, i ≤ count → Prt xs ys i (P i)) (hk : k + 2 * count ≤ n) (hm : m.length = k) (hw : wr m xs ys = count) :
  KerT (n - (k + count)) count (fun i j => coef (P j) (k + count + i)) := by
 intro x hx0 j hj
 have hb : Bdd (comb P x count) n := bdd_comb fun j hj => hx ▸ Thru.bdd (hP j (by omega))
 have hb2 : Bdd (comb P x count) (k + count) := fun i hi => by
  rcases Nat.lt_or_ge i n with h | h
  ·rw [coef_comb]
   have := hx0 (i - (k + count)) (by omega)
   simp only [app] at this
   rw [show k + count + (i - (k + count)) = i by omega] at this
   exact this
  ·exact hb i h
 have hE : Bdd ((List.range count).map x) count := by have := bdd_length ((List.range count).map x); simpa using this
 have hv : ∀ i, i < xs.length → eval (comb P x count) (coef xs i) = coef ys i * eval ((List.range count).map x) (coef xs i) := fun i hi => eval_comb x hl hi fun i hi => hP i (by omega)
 have hq := bw hm hn hl (Nat.le_of_eq hw) (by omega) hb2 (hE.mono (Nat.le_succ _)) hv
 have hz : Eqv ((List.range count).map x) [] := by
  refine Poly.only (n := count) (xs := bad m xs ys) hE (fun i _ => coef_nil i) (by rw [bad_length, hw]; exact Nat.le_refl _) (bad_nodup hn hl) fun z hz => ?_
  obtain ⟨i, hi, rfl, hne⟩ := (mem_bad hl).1 hz
  have h1 := hv i hi
  rw [eval_congr _ hq, eval_pmul] at h1
  show _ = (0 : F8)
  rcases Classical.em (eval ((List.range count).map x) (coef xs i) = 0) with h2 | h2
  ·exact h2
  ·exact absurd (mul_right_cancel h2 h1) hne
 have := hz j
 rw [coef_range, if_pos hj, coef_nil] at this
 exact this
theorem has_sol (hn : xs.Nodup) (hx : xs.length = n) (hl : xs.length = ys.length) (hP : ∀ i, i ≤ count → Prt xs ys i (P i)) (hk : k + 2 * count ≤ n) (hm : m.length = k) (hw : wr m xs ys = count) :
  ∀ i, i < n - (k + count) → sum count (fun j => coef (P j) (k + count + i) * coef (roots (bad m xs ys)) j) = coef (P count) (k + count + i) := by
 intro i hi
 obtain ⟨E, hE⟩ : ∃ E, roots (bad m xs ys) = E := ⟨_, rfl⟩
 have hlead : coef E count = 1 := by rw [← hE, ← hw, ← bad_length m xs ys]; exact roots_lead _
 have hEb : Bdd E (count + 1) := by
  have := bdd_len (roots (bad m xs ys))
  rw [len_roots, bad_length, hw, hE] at this
  exact this
 have hEe : Eqv ((List.range (count + 1)).map (coef E)) E := fun j => by
  rw [coef_range]
  by_cases h : j < count + 1
  ·rw [if_pos h]
  ·rw [if_neg h, hEb j (by omega)]
 have hq : Eqv (comb P (coef E) (count + 1)) (pmul m E) := by
  refine Poly.only (n := n) (xs := xs) (bdd_comb fun j hj => hx ▸ Thru.bdd (hP j (by omega))) (fun j hj => bdd_pmul (hm ▸ bdd_length m) hEb j (by omega)) (by omega) hn fun z hz => ?_
  obtain ⟨j, hj, rfl⟩ := List.getElem_of_mem hz
  rw [← coef_of_lt hj, eval_comb (coef E) hl hj fun i hi => hP i (by omega), eval_congr _ hEe, eval_pmul]
  rcases Classical.em (eval m (coef xs j) = coef ys j) with h | h
  ·rw [h]
  ·have : eval E (coef xs j) = 0 := by rw [← hE]; exact (eval_roots _ _).2 ((mem_bad_at hn hl hj).2 h)
   rw [this, mul_zero, mul_zero]
 have h1 := hq (k + count + i)
 rw [coef_comb, bdd_pmul (hm ▸ bdd_length m) hEb _ (by omega)] at h1
 simp only [sum] at h1
 rw [hlead, mul_one] at h1
 rw [hE]
 exact add_eq_zero.1 h1
theorem loc_of {X : Nat → Nat → F8} (hn : xs.Nodup) (hx : xs.length = n) (hl : xs.length = ys.length) (hP : ∀ i, i ≤ count → Prt xs ys i (P i)) (hk : k + 2 * count ≤ n)
  (hs : Sol (n - (k + count)) count 1 (fun i j => coef (P j) (k + count + i)) (fun i _ => coef (P count) (k + count + i)) X) :
  LocIs xs ys k count ((List.range count).map (fun j => X j 0) ++ [1]) := by
 refine ⟨by simp, ?_, fun m hm hw i hi => ?_⟩
 ·unfold coef
  rw [List.getD_eq_getElem?_getD, List.getElem?_append_right (by simp)]
  simp
 ·have hX : ∀ j, j < count → X j 0 = coef (roots (bad m xs ys)) j := fun j hj =>
   hs.only (Y := fun j _ => coef (roots (bad m xs ys)) j) (fun a _ ha _ => has_sol hn hx hl hP hk hm hw a ha) hj (Nat.lt_succ_self 0)
  have he : Eqv ((List.range count).map (fun j => X j 0) ++ [1]) (roots (bad m xs ys)) := fun j => by
   have hlead : coef (roots (bad m xs ys)) count = 1 := by rw [← hw, ← bad_length m xs ys]; exact roots_lead _
   have hEb := bdd_len (roots (bad m xs ys))
   rw [len_roots, bad_length, hw] at hEb
   rcases Nat.lt_trichotomy j count with h | h | h
   ·rw [← hX j h, coef_of_lt (by simp; omega), List.getElem_append_left (by simpa using h)]; simp
   ·subst h
    rw [hlead, coef_of_lt (by simp), List.getElem_append_right (by simp)]
    simp
   ·rw [hEb j h, coef_of_le (by simp; omega)]
  rw [eval_congr _ he, eval_roots, mem_bad_at hn hl hi]
theorem loc_none (hn : xs.Nodup) (hx : xs.length = n) (hl : xs.length = ys.length) (hP : ∀ i, i ≤ count → Prt xs ys i (P i)) (hk : k + 2 * count ≤ n)
  (hs : ¬ ∃ X, Sol (n - (k + count)) count 1 (fun i j => coef (P j) (k + count + i)) (fun i _ => coef (P count) (k + count + i)) X) : ∀ m : List F8, m.length = k → wr m xs ys ≠ count := fun m hm hw =>
 hs ⟨fun j _ => coef (roots (bad m xs ys)) j, only_sol hn hx hl hP hk hm hw, fun i _ hi _ => has_sol hn hx hl hP hk hm hw i hi⟩
end
def zer (L xs : List F8) (pl : List Int) : List Int := ((xs.zip pl).filter fun p => decide (eval L p.1 = 0)).map Prod.snd
def rgt (L xs : List F8) (pl : List Int) : List Int := ((xs.zip pl).filter fun p => decide (eval L p.1 ≠ 0)).map Prod.snd
def rgy (L xs ys : List F8) : List F8 := ((xs.zip ys).filter fun p => decide (eval L p.1 ≠ 0)).map Prod.snd
theorem zip_snoc {α β : Type} {xs : List α} {ys : List β} {i : Nat} (h1 : i < xs.length) (h2 : i < ys.length) : (xs.take (i + 1)).zip (ys.take (i + 1)) = (xs.take i).zip (ys.take i) ++ [(xs[i], ys[i])] := by
 rw [List.take_succ_eq_append_getElem h1, List.take_succ_eq_append_getElem h2, List.zip_append (by simp; omega)]
 rfl
section
variable {L xs ys : List F8} {pl : List Int} {i : Nat}
theorem zer_succ (h1 : i < xs.length) (h2 : i < pl.length) : zer L (xs.take (i + 1)) (pl.take (i + 1)) = zer L (xs.take i) (pl.take i) ++ if eval L (coef xs i) = 0 then [pl[i]] else [] := by
 unfold zer
 rw [zip_snoc h1 h2, List.filter_append, List.map_append, coef_of_lt h1]
 by_cases h : eval L xs[i] = 0 <;> simp [h]
theorem rgt_succ (h1 : i < xs.length) (h2 : i < pl.length) : rgt L (xs.take (i + 1)) (pl.take (i + 1)) = rgt L (xs.take i) (pl.take i) ++ if eval L (coef xs i) = 0 then [] else [pl[i]] := by
 unfold rgt
 rw [zip_snoc h1 h2, List.filter_append, List.map_append, coef_of_lt h1]
 by_cases h : eval L xs[i] = 0 <;> simp [h]
theorem rgy_succ (h1 : i < xs.length) (h2 : i < ys.length) : rgy L (xs.take (i + 1)) (ys.take (i + 1)) = rgy L (xs.take i) (ys.take i) ++ if eval L (coef xs i) = 0 then [] else [coef ys i] := by
 unfold rgy
 rw [zip_snoc h1 h2, List.filter_append, List.map_append, coef_of_lt h1, coef_of_lt h2]
 by_cases h : eval L xs[i] = 0 <;> simp [h]
theorem zip_sub {α β : Type} : ∀ (a : List α) (b : List β), ((a.zip b).map Prod.snd).Sublist b
 | [], b => by simp
 | _ :: _, [] => by simp
 | x :: a, y :: b => by
  rw [List.zip_cons_cons, List.map_cons]
  exact (zip_sub a b).cons_cons y
theorem rgt_sub (L xs : List F8) (pl : List Int) : (rgt L xs pl).Sublist pl := by
 unfold rgt
 exact (List.filter_sublist.map _).trans (zip_sub _ _)
theorem zer_sub (L xs : List F8) (pl : List Int) : (zer L xs pl).Sublist pl := by
 unfold zer
 exact (List.filter_sublist.map _).trans (zip_sub _ _)
end
theorem rg_len {L : List F8} : ∀ {xs : List F8} {pl : List Int} {ys : List F8}, xs.length = pl.length → xs.length = ys.length → (rgt L xs pl).length = (rgy L xs ys).length ∧ (zer L xs pl).length + (rgt L xs pl).length = xs.length
 | [], [], [], _, _ => ⟨rfl, rfl⟩
 | x :: xs, p :: pl, y :: ys, h1, h2 => by
  obtain ⟨a, b⟩ := rg_len (L := L) (xs := xs) (pl := pl) (ys := ys) (by simpa using h1) (by simpa using h2)
  unfold rgt rgy zer at *
  by_cases h : eval L x = 0 <;> simp [h] at a b ⊢ <;> omega
 | [], _ :: _, _, h, _ => by simp at h
 | [], [], _ :: _, _, h => by simp at h
 | _ :: _, [], _, h, _ => by simp at h
 | _ :: _, _ :: _, [], _, h => by simp at h
theorem rg_word {L m : List F8} (X : List F8) : ∀ {pl : List Int} {ys : List F8}, pl.length = ys.length → (word m (ptsAt X (rgt L (ptsAt X pl) pl)) = rgy L (ptsAt X pl) ys ↔ ∀ i, i < pl.length → eval L (coef (ptsAt X pl) i) ≠ 0 → eval m (coef (ptsAt X pl) i) = coef ys i)
 | [], [], _ => by simp [rgt, rgy, ptsAt, word]
 | p :: pl, y :: ys, h => by
  have ih := rg_word (L := L) (m := m) X (pl := pl) (ys := ys) (by simpa using h)
  have hc : (∀ i, i < (p :: pl).length → eval L (coef (ptsAt X (p :: pl)) i) ≠ 0 → eval m (coef (ptsAt X (p :: pl)) i) = coef (y :: ys) i) ↔ (eval L (coef X p.toNat) ≠ 0 → eval m (coef X p.toNat) = y) ∧ ∀ i, i < pl.length → eval L (coef (ptsAt X pl) i) ≠ 0 → eval m (coef (ptsAt X pl) i) = coef ys i := by
   constructor
   ·exact fun h => ⟨h 0 (by simp), fun i hi => h (i + 1) (by simpa using hi)⟩
   ·rintro ⟨h0, h1⟩ i hi
    cases i with
    | zero => exact h0
    | succ i => exact h1 i (by simpa using hi)
  rw [hc, ← ih]
  by_cases h0 : eval L (coef X p.toNat) = 0
  ·have e1 : rgt L (ptsAt X (p :: pl)) (p :: pl) = rgt L (ptsAt X pl) pl := by simp [rgt, ptsAt, h0]
   have e2 : rgy L (ptsAt X (p :: pl)) (y :: ys) = rgy L (ptsAt X pl) ys := by simp [rgy, ptsAt, h0]
   rw [e1, e2]
   exact ⟨fun h => ⟨fun h => absurd h0 h, h⟩, fun h => h.2⟩
  ·have e1 : rgt L (ptsAt X (p :: pl)) (p :: pl) = p :: rgt L (ptsAt X pl) pl := by simp [rgt, ptsAt, h0]
   have e2 : rgy L (ptsAt X (p :: pl)) (y :: ys) = y :: rgy L (ptsAt X pl) ys := by simp [rgy, ptsAt, h0]
   rw [e1, e2]
   show eval m (coef X p.toNat) :: word m (ptsAt X _) = _ ↔ _
   rw [List.cons.injEq]
   exact ⟨fun h => ⟨fun _ => h.1, h.2⟩, fun h => ⟨h.1 h0, h.2⟩⟩
 | [], _ :: _, h => by simp at h
 | _ :: _, [], h => by simp at h
theorem mem_zer {L xs : List F8} {pl : List Int} (hl : xs.length = pl.length) {z : Int} : z ∈ zer L xs pl ↔ ∃ i, i < pl.length ∧ pl.getD i 0 = z ∧ eval L (coef xs i) = 0 := by
 unfold zer
 rw [List.mem_map]
 constructor
 ·rintro ⟨⟨a, b⟩, hp, rfl⟩
  obtain ⟨h1, h2⟩ := List.mem_filter.1 hp
  obtain ⟨i, hi, he⟩ := List.mem_iff_getElem.1 h1
  rw [List.length_zip] at hi
  rw [List.getElem_zip] at he
  injection he with e1 e2
  refine ⟨i, by omega, by simp [List.getD_eq_getElem?_getD, (by omega : i < pl.length), e2], ?_⟩
  rw [coef_of_lt (by omega), e1]
  simpa using h2
 ·rintro ⟨i, hi, rfl, h⟩
  refine ⟨(coef xs i, pl[i]), List.mem_filter.2 ⟨List.mem_iff_getElem.2 ⟨i, by rw [List.length_zip]; omega, ?_⟩, by simpa using h⟩, by simp [List.getD_eq_getElem?_getD, hi]⟩
  rw [List.getElem_zip, coef_of_lt (by omega)]
theorem zer_le {L xs : List F8} {pl : List Int} {count : Nat} (hn : xs.Nodup) (hl : xs.length = pl.length) (h1 : L.length = count + 1) (h2 : coef L count = 1) : (zer L xs pl).length ≤ count := by
 have hlen : 0 < len L ∧ len L - 1 ≤ count := by
  have := len_le_of_bdd (bdd_length L)
  refine ⟨?_, by omega⟩
  rcases Nat.eq_zero_or_pos (len L) with h | h
  ·have := len_zero.1 h count
   rw [coef_nil, h2] at this
   exact absurd this one_ne_zero
  ·exact h
 have e : (zer L xs pl).length = (((xs.zip pl).filter fun p => decide (eval L p.1 = 0)).map Prod.fst).length := by unfold zer; rw [List.length_map, List.length_map]
 rw [e]
 refine Nat.le_trans (roots_le hlen.1 ?_ fun x hx => ?_) hlen.2
 ·have h1 : ((xs.zip pl).map Prod.fst).Nodup := by rw [List.map_fst_zip (by omega)]; exact hn
  exact h1.sublist (List.filter_sublist.map _)
 ·obtain ⟨p, hp, rfl⟩ := List.mem_map.1 hx
  simpa using (List.mem_filter.1 hp).2
def MsgIs (X : List F8) (k : Nat) (pl : List Int) (ys : List F8) (count : Nat) (m : List F8) (wl : List Int) (z : Int) : Prop :=
 (z = 0 ∧ m.length = k ∧ wr m (ptsAt X pl) ys ≤ count ∧ (wr m (ptsAt X pl) ys = count → wl = wrong X m pl ys)) ∨
 (z ≠ 0 ∧ ∀ m : List F8, m.length = k → wr m (ptsAt X pl) ys ≠ count)
theorem wr_le_of {m L xs ys : List F8} {pl : List Int} (hl : xs.length = ys.length) (hp : xs.length = pl.length) (h : ∀ i, i < xs.length → eval L (coef xs i) ≠ 0 → eval m (coef xs i) = coef ys i) : wr m xs ys ≤ (zer L xs pl).length := by
 induction xs generalizing ys pl with
 | nil => simp [wr]
 | cons x xs ih =>
  cases ys with
  | nil => simp at hl
  | cons y ys =>
   cases pl with
   | nil => simp at hp
   | cons p pl =>
    have h1 := ih (ys := ys) (pl := pl) (by simpa using hl) (by simpa using hp) fun i hi => h (i + 1) (by simpa using hi)
    have h0 := h 0 (by simp)
    simp only [coef_cons_zero] at h0
    rw [wr_cons]
    have e : (zer L (x :: xs) (p :: pl)).length = (if eval L x = 0 then 1 else 0) + (zer L xs pl).length := by
     unfold zer
     by_cases hz : eval L x = 0 <;> simp [hz, Nat.add_comm]
    rw [e]
    by_cases hz : eval L x = 0
    ·rw [if_pos hz]; split <;> omega
    ·rw [if_neg hz, if_neg (by simpa using h0 hz)]; omega
theorem sub_le {α : Type} [DecidableEq α] : ∀ {l r : List α}, l.Nodup → (∀ x ∈ l, x ∈ r) → l.length ≤ r.length
 | [], _, _, _ => Nat.zero_le _
 | x :: l, r, hn, h => by
  have hx := h x (by simp)
  have h1 := sub_le (l := l) (r := r.erase x) (List.nodup_cons.1 hn).2 fun y hy => (List.mem_erase_of_ne (by rintro rfl; exact (List.nodup_cons.1 hn).1 hy)).2 (h y (by simp [hy]))
  rw [List.length_erase_of_mem hx] at h1
  have := List.length_pos_of_mem hx
  simp
  omega
theorem len_same {α : Type} [DecidableEq α] {l r : List α} (hl : l.Nodup) (h : ∀ x ∈ l, x ∈ r) (hlen : r.length ≤ l.length) : ∀ x ∈ r, x ∈ l := by
 intro x hx
 rcases Classical.em (x ∈ l) with h1 | h1
 ·exact h1
 ·have h2 : (x :: l).length ≤ r.length := by
   have hnd : (x :: l).Nodup := List.nodup_cons.2 ⟨h1, hl⟩
   exact sub_le hnd fun y hy => by
    rcases List.mem_cons.1 hy with rfl | hy
    ·exact hx
    ·exact h y hy
  simp at h2
  omega
theorem msg_of_loc {X L ys l : List F8} {k count : Nat} {pl : List Int} {z : Int} {wl : List Int} (hn : X.Nodup) (hok : OkP X.length pl) (hl : pl.length = ys.length) (hk : k + 2 * count ≤ pl.length) (hL : LocIs (ptsAt X pl) ys k count L)
  (hd : DecIs X k (rgt L (ptsAt X pl) pl) (rgy L (ptsAt X pl) ys) l z) (hs : wl.Perm (zer L (ptsAt X pl) pl)) (hs2 : wl.Pairwise (· ≤ ·)) : MsgIs X k pl ys count l wl z := by
 have hpl : (ptsAt X pl).length = pl.length := ptsAt_length X pl
 have hnd := ptsAt_nodup hn hok
 have hz := zer_le (pl := pl) hnd hpl hL.1 hL.2.1
 obtain ⟨r1, r2⟩ := rg_len (L := L) (xs := ptsAt X pl) (pl := pl) (ys := ys) hpl (by omega)
 have hokr : OkP X.length (rgt L (ptsAt X pl) pl) := ⟨fun i hi => hok.1 i ((rgt_sub _ _ _).subset hi), hok.2.sublist (rgt_sub _ _ _)⟩
 have hrl : (rgt L (ptsAt X pl) pl).length = (rgy L (ptsAt X pl) ys).length ∧ OkP X.length (rgt L (ptsAt X pl) pl) := ⟨r1, hokr⟩
 rcases hd with ⟨a, _⟩ | ⟨_, b, _⟩ | ⟨_, b, h1, h2, h3⟩ | ⟨_, b, h1, h2, h3⟩
 ·exact absurd hrl a
 ·omega
 ·have hw := (rg_word X hl).1 h3
  have hle := wr_le_of (L := L) (m := l) (xs := ptsAt X pl) (ys := ys) (pl := pl) (by omega) hpl fun i hi => hw i (by omega)
  refine .inl ⟨h1, h2, by omega, fun hc => ?_⟩
  refine sorted_ext ?_ (wrong_sorted hok) fun x => ?_
  ·have hnw : wl.Nodup := hs.nodup_iff.2 (hok.2.sublist (zer_sub _ _ _))
   exact (hs2.and hnw).imp fun {a b} h => by have := h.1; have := h.2; omega
  ·have hsub : ∀ x ∈ wrong X l pl ys, x ∈ zer L (ptsAt X pl) pl := fun x hx => by
    obtain ⟨i, hi, rfl, hne⟩ := (mem_wrong hok).1 hx
    refine (mem_zer hpl).2 ⟨i, hi, rfl, ?_⟩
    rcases Classical.em (eval L (coef (ptsAt X pl) i) = 0) with h | h
    ·exact h
    ·exact absurd (hw i hi h) hne
   rw [hs.mem_iff]
   refine ⟨fun hx => len_same ((wrong_sorted hok).imp fun {a b} h => by omega) hsub ?_ x hx, hsub x⟩
   rw [wrong_length hok hl, hc]
   exact hz
 ·refine .inr ⟨by omega, fun m hm hw => ?_⟩
  refine h3 m hm ((rg_word X hl).2 fun i hi hne => ?_)
  have := hL.2.2 m hm hw i (by omega)
  rcases Classical.em (eval m (coef (ptsAt X pl) i) = coef ys i) with h | h
  ·exact h
  ·exact absurd (this.2 h) hne
theorem msg_none {X ys l : List F8} {k count : Nat} {pl : List Int} {z : Int} {wl : List Int} (hz : z ≠ 0) (h : ∀ m : List F8, m.length = k → wr m (ptsAt X pl) ys ≠ count) : MsgIs X k pl ys count l wl z := .inr ⟨hz, h⟩
theorem wis_found {X ys m : List F8} {k count : Nat} {pl : List Int} {t : Int} {wl : List Int} (ha : (pl.length = ys.length ∧ OkP X.length pl) ∧ 0 ≤ t) (hk : k + 2 * t ≤ (pl.length : Int)) (hc : (count : Int) ≤ t) (hlow : ∀ m : List F8, m.length = k → count ≤ wr m (ptsAt X pl) ys) (h : MsgIs X k pl ys count m wl 0) : WIs X k pl ys t m wl 0 := by
 rcases h with ⟨_, h1, h2, h3⟩ | ⟨h, _⟩
 ·have := hlow m h1
  exact .inr (.inr (.inl ⟨ha, hk, rfl, h1, by omega, h3 (by omega)⟩))
 ·exact absurd rfl h
theorem low_succ {X ys m : List F8} {k count : Nat} {pl : List Int} {z : Int} {wl : List Int} (hz : z ≠ 0) (hlow : ∀ m : List F8, m.length = k → count ≤ wr m (ptsAt X pl) ys) (h : MsgIs X k pl ys count m wl z) : ∀ m : List F8, m.length = k → count + 1 ≤ wr m (ptsAt X pl) ys := by
 rcases h with ⟨h, _⟩ | ⟨_, h⟩
 ·exact absurd h hz
 ·intro m hm
  have := hlow m hm
  have := h m hm
  omega
theorem wis_lost' {X ys : List F8} {k T : Nat} {pl : List Int} (ha : (pl.length = ys.length ∧ OkP X.length pl) ∧ 0 ≤ (T : Int)) (hk : k + 2 * (T : Int) ≤ (pl.length : Int)) (hlow : ∀ m : List F8, m.length = k → T + 1 ≤ wr m (ptsAt X pl) ys) : WIs X k pl ys T [] [] 80 :=
 .inr (.inr (.inr ⟨ha, hk, rfl, rfl, rfl, fun m hm => by have := hlow m hm; omega⟩))
end Go.Proofs.YtjoghbmedfmioaaGreat.Wl

namespace Go.Proofs.YtjoghbmedfmioaaGreat.Ms
open F8 Poly Rd Mat Wl
theorem eval_sum (p : List F8) (x : F8) {a : Nat} (h : p.length ≤ a) : eval p x = sum a fun i => coef p i * xpow x i := by
 have key : ∀ n, eval (p.take n) x = sum n fun i => coef p i * xpow x i := by
  intro n
  induction n with
  | zero => rfl
  | succ n ih =>
   simp only [sum]
   rcases Nat.lt_or_ge n p.length with hn | hn
   ·rw [List.take_succ_eq_append_getElem hn, eval_snoc, ih, List.length_take, Nat.min_eq_left (by omega), coef_of_lt hn]
   ·rw [coef_of_le hn, zero_mul, add_zero, ← ih, List.take_of_length_le hn, List.take_of_length_le (by omega)]
 rw [← key a, List.take_of_length_le h]
def row (a : Nat) (M : Nat → List F8) (x : F8) : List F8 := (List.range a).map fun c => eval (M c) x
theorem row_length (a : Nat) (M : Nat → List F8) (x : F8) : (row a M x).length = a := by simp [row]
theorem coef_row {a : Nat} {M : Nat → List F8} {x : F8} {c : Nat} (h : c < a) : coef (row a M x) c = eval (M c) x := by
 unfold row; rw [coef_range, if_pos h]
theorem eval_row (a : Nat) (M : Nat → List F8) (x y : F8) : eval (row a M x) y = sum a fun c => eval (M c) x * xpow y c := by
 rw [eval_sum _ _ (Nat.le_of_eq (row_length a M x))]
 exact sum_congr fun c hc => by rw [coef_row hc]
def turned (a : Nat) (M : Nat → List F8) (d : Nat) : List F8 := (List.range a).map fun c => coef (M c) d
theorem turned_length (a : Nat) (M : Nat → List F8) (d : Nat) : (turned a M d).length = a := by simp [turned]
theorem coef_turned {a : Nat} {M : Nat → List F8} {c d : Nat} (h : c < a) : coef (turned a M d) c = coef (M c) d := by
 unfold turned; rw [coef_range, if_pos h]
theorem row_turned {a : Nat} {M : Nat → List F8} (h : ∀ c, c < a → (M c).length = a) (x y : F8) : eval (row a (turned a M) x) y = eval (row a M y) x := by
 rw [eval_row, eval_row]
 have e1 : ∀ c, c < a → eval (turned a M c) x * xpow y c = sum a fun d => coef (M d) c * xpow x d * xpow y c := fun c _ => by
  rw [eval_sum _ _ (Nat.le_of_eq (turned_length a M c)), ← sum_mul]
  exact sum_congr fun d hd => by rw [coef_turned hd]
 have e2 : ∀ d, d < a → eval (M d) y * xpow x d = sum a fun c => coef (M d) c * xpow x d * xpow y c := fun d hd => by
  rw [eval_sum _ _ (Nat.le_of_eq (h d hd)), ← sum_mul]
  exact sum_congr fun c _ => by rw [mul_assoc, mul_assoc, mul_comm (xpow y c)]
 rw [sum_congr e1, sum_congr e2, sum_comm]
structure Sym (a : Nat) (M : Nat → List F8) : Prop where
 len : ∀ c, c < a → (M c).length = a
 sym : ∀ c d, c < a → d < a → coef (M c) d = coef (M d) c
theorem row_congr {a : Nat} {M M' : Nat → List F8} (h : ∀ c, c < a → M c = M' c) (x : F8) : row a M x = row a M' x :=
 List.map_congr_left fun c hc => by rw [h c (List.mem_range.1 hc)]
theorem Sym.turned {a : Nat} {M : Nat → List F8} (h : Sym a M) {c : Nat} (hc : c < a) : turned a M c = M c :=
 list_ext (by rw [turned_length, h.len c hc]) fun d hd => by
  rw [turned_length] at hd
  rw [coef_turned hd, h.sym d c hd hc]
theorem Sym.eval {a : Nat} {M : Nat → List F8} (h : Sym a M) (x y : F8) : eval (row a M x) y = eval (row a M y) x := by
 rw [← row_turned h.len, row_congr (fun c hc => h.turned hc)]
theorem same_of {a : Nat} {p q xs : List F8} (hp : p.length = a) (hq : q.length = a) (ha : a ≤ xs.length) (hn : xs.Nodup) (h : ∀ x ∈ xs, Poly.eval p x = Poly.eval q x) : p = q :=
 msg_only hp hq ha hn (List.map_congr_left h)
theorem rows_only {a : Nat} {M M' : Nat → List F8} {xs : List F8} (h : ∀ c, c < a → (M c).length = a) (h' : ∀ c, c < a → (M' c).length = a) (ha : a ≤ xs.length) (hn : xs.Nodup) (hx : ∀ x ∈ xs, row a M x = row a M' x) {c : Nat} (hc : c < a) : M c = M' c :=
 same_of (h c hc) (h' c hc) ha hn fun x hxm => by rw [← coef_row hc, hx x hxm, coef_row hc]
def shr (a : Nat) (M N : Nat → List F8) (x : F8) : List F8 := (List.range a).map fun c => Poly.eval (M c) x + xpow x a * Poly.eval (N c) x
theorem shr_length (a : Nat) (M N : Nat → List F8) (x : F8) : (shr a M N x).length = a := by simp [shr]
theorem coef_shr {a : Nat} {M N : Nat → List F8} {x : F8} {c : Nat} (h : c < a) : coef (shr a M N x) c = Poly.eval (M c) x + xpow x a * Poly.eval (N c) x := by
 unfold shr; rw [coef_range, if_pos h]
theorem eval_shr (a : Nat) (M N : Nat → List F8) (x y : F8) : Poly.eval (shr a M N x) y = Poly.eval (row a M x) y + xpow x a * Poly.eval (row a N x) y := by
 rw [eval_sum _ _ (Nat.le_of_eq (shr_length a M N x)), eval_row, eval_row, ← mul_sum, ← Mat.sum_add]
 exact sum_congr fun c hc => by rw [coef_shr hc, add_mul, mul_assoc]
def tell (a : Nat) (x y : F8) (s u : List F8) : F8 := Poly.eval s y + xpow x a * ((Poly.eval s y + Poly.eval u x) / (xpow x a + xpow y a))
theorem sum_ne {l m : F8} (h : l ≠ m) : l + m ≠ 0 := fun e => h (add_eq_zero.1 e)
theorem tell_shr {a : Nat} {M N : Nat → List F8} (hM : Sym a M) (hN : Sym a N) {x y : F8} (h : xpow x a ≠ xpow y a) : tell a x y (shr a M N x) (shr a M N y) = Poly.eval (row a M x) y := by
 unfold tell
 rw [eval_shr, eval_shr, hM.eval y x, hN.eval y x]
 obtain ⟨l, hl⟩ : ∃ l, xpow x a = l := ⟨_, rfl⟩
 obtain ⟨m, hm⟩ : ∃ m, xpow y a = m := ⟨_, rfl⟩
 obtain ⟨p, hp⟩ : ∃ p, Poly.eval (row a M x) y = p := ⟨_, rfl⟩
 obtain ⟨q, hq⟩ : ∃ q, Poly.eval (row a N x) y = q := ⟨_, rfl⟩
 rw [hl, hm] at h ⊢
 rw [hp, hq]
 have e : p + l * q + (p + m * q) = q * (l + m) := by
  rw [mul_add, mul_comm q l, mul_comm q m, show p + l * q + (p + m * q) = p + p + (l * q + m * q) by ac_rfl, F8.add_self, zero_add]
 rw [e, mul_div _ (sum_ne h), add_add_self]
theorem tell_wrong {a : Nat} {M N : Nat → List F8} (hM : Sym a M) (hN : Sym a N) {x y : F8} (h : xpow x a ≠ xpow y a) (hx : xpow x a ≠ 0) (u : List F8) :
  tell a x y (shr a M N x) u = Poly.eval (row a M x) y ↔ Poly.eval u x = Poly.eval (shr a M N y) x := by
 rw [← tell_shr hM hN h]
 unfold tell
 have hd := sum_ne h
 constructor
 ·intro e
  have e2 := mul_left_cancel hx (add_left_inj.1 e)
  rw [div_eq hd, div_mul _ hd] at e2
  exact add_left_inj.1 e2
 ·intro e; rw [e]
theorem exists_sym {a : Nat} {X : List F8} (hn : X.Nodup) (hX : X.length = a + 1) {r : Nat → List F8} (hr : ∀ i, i ≤ a → (r i).length = a)
  (hs : ∀ i j, i ≤ a → j ≤ a → i ≠ j → Poly.eval (r i) (coef X j) = Poly.eval (r j) (coef X i)) : ∃ M, Sym a M ∧ ∀ i, i ≤ a → row a M (coef X i) = r i := by
 have hT : (X.take a).length = a := by rw [List.length_take]; omega
 have hTn : (X.take a).Nodup := hn.sublist (List.take_sublist a X)
 have hTc : ∀ i, i < a → coef (X.take a) i = coef X i := fun i hi => by rw [coef_of_lt (by omega), coef_of_lt (by omega)]; simp
 have hTm : ∀ {x}, x ∈ X.take a → ∃ i, i < a ∧ coef X i = x := by
  intro x hx
  obtain ⟨i, hi, rfl⟩ := List.mem_iff_getElem.1 hx
  exact ⟨i, by omega, by rw [← hTc i (by omega), coef_of_lt hi]⟩
 have hex : ∀ c : Nat, ∃ m : List F8, m.length = a ∧ word m (X.take a) = (List.range a).map fun i => coef (r i) c := fun c => by
  obtain ⟨m, h1, h2⟩ := msg_of (X.take a) ((List.range a).map fun i => coef (r i) c) hTn (by simp [hT])
  exact ⟨m, h1.trans hT, h2⟩
 obtain ⟨M, hM⟩ : ∃ M : Nat → List F8, ∀ c, (M c).length = a ∧ word (M c) (X.take a) = (List.range a).map fun i => coef (r i) c := ⟨fun c => Classical.choose (hex c), fun c => Classical.choose_spec (hex c)⟩
 have hlen : ∀ c, c < a → (M c).length = a := fun c _ => (hM c).1
 have hval : ∀ c i, i < a → Poly.eval (M c) (coef X i) = coef (r i) c := fun c i hi => by
  rw [← hTc i hi, ← word_get (by omega), (hM c).2, coef_range, if_pos hi]
 have hrow : ∀ i, i < a → row a M (coef X i) = r i := fun i hi => list_ext (by rw [row_length, hr i (by omega)]) fun c hc => by
  rw [row_length] at hc; rw [coef_row hc, hval c i hi]
 have hsame : ∀ i, i < a → row a (turned a M) (coef X i) = row a M (coef X i) := fun i hi => by
  refine same_of (row_length _ _ _) (row_length _ _ _) (Nat.le_of_eq hT.symm) hTn fun x hx => ?_
  obtain ⟨j, hj, rfl⟩ := hTm hx
  rw [row_turned hlen, hrow i hi, hrow j hj]
  by_cases e : j = i
  ·rw [e]
  ·exact hs j i (by omega) (by omega) e
 have hsym : Sym a M := ⟨hlen, fun c d hc hd => by
  have := rows_only (fun c _ => turned_length a M c) hlen (Nat.le_of_eq hT.symm) hTn (fun x hx => by obtain ⟨i, hi, rfl⟩ := hTm hx; exact hsame i hi) hc
  rw [← this, coef_turned hd]⟩
 refine ⟨M, hsym, fun i hi => ?_⟩
 rcases Nat.lt_or_eq_of_le hi with hlt | rfl
 ·exact hrow i hlt
 ·refine same_of (row_length _ _ _) (hr _ (Nat.le_refl _)) (Nat.le_of_eq hT.symm) hTn fun x hx => ?_
  obtain ⟨j, hj, rfl⟩ := hTm hx
  rw [hsym.eval, hrow j hj, hs j i (by omega) (by omega) (by omega)]
theorem coef_inj {X : List F8} (hn : X.Nodup) {i j : Nat} (hi : i < X.length) (hj : j < X.length) (h : coef X i = coef X j) : i = j := by
 rw [coef_of_lt hi, coef_of_lt hj] at h; exact (List.getElem_inj hn).1 h
theorem len_split {α : Type} (p : α → Bool) : ∀ l : List α, l.length = (l.filter p).length + (l.filter fun o => !p o).length
 | [] => rfl
 | o :: l => by
  rw [List.length_cons, len_split p l, List.filter_cons, List.filter_cons]
  by_cases e : p o = true
  ·rw [if_pos e, if_neg (by simp [e]), List.length_cons]; omega
  ·rw [if_neg e, if_pos (by simpa using e), List.length_cons]; omega
def but (a i : Nat) : List Nat := (List.range (a + 1)).filter fun j => decide (j ≠ i)
theorem mem_but {a i j : Nat} : j ∈ but a i ↔ j ≤ a ∧ j ≠ i := by unfold but; rw [List.mem_filter, List.mem_range]; simp; omega
theorem but_nodup (a i : Nat) : (but a i).Nodup := List.nodup_range.sublist List.filter_sublist
theorem but_length {a i : Nat} (h : i ≤ a) : (but a i).length = a := by
 have h1 : ((List.range (a + 1)).filter fun j => decide (j = i)).length = 1 := by
  have : ∀ n, ((List.range n).filter fun j => decide (j = i)).length = if i < n then 1 else 0 := by
   intro n
   induction n with
   | zero => rfl
   | succ n ih =>
    rw [List.range_succ, List.filter_append, List.length_append, ih]
    by_cases e : n = i
    ·subst e; simp
    ·simp [e]; split <;> split <;> omega
  rw [this, if_pos (by omega)]
 have h2 := len_split (fun j => decide (j = i)) (List.range (a + 1))
 rw [List.length_range, h1] at h2
 have h3 : but a i = (List.range (a + 1)).filter fun j => !decide (j = i) := by unfold but; congr 1; funext j; simp
 rw [h3]; omega
theorem pts_but {a i : Nat} {X : List F8} (hn : X.Nodup) (hX : X.length = a + 1) (hi : i ≤ a) : ((but a i).map (coef X)).Nodup ∧ ((but a i).map (coef X)).length = a := by
 refine ⟨?_, by rw [List.length_map, but_length hi]⟩
 unfold List.Nodup
 rw [List.pairwise_map]
 refine List.Pairwise.imp_of_mem ?_ (but_nodup a i)
 intro u v hu hv huv e
 exact huv (coef_inj hn (by have := (mem_but.1 hu).1; omega) (by have := (mem_but.1 hv).1; omega) e)
theorem exist {a : Nat} {X : List F8} (hn : X.Nodup) (hX : X.length = a + 1) (hl : ∀ i j, i ≤ a → j ≤ a → i ≠ j → xpow (coef X i) a ≠ xpow (coef X j) a) (h0 : ∀ i, i ≤ a → xpow (coef X i) a ≠ 0)
  {s : Nat → List F8} (hs : ∀ i, i ≤ a → (s i).length = a) : ∃ M N, Sym a M ∧ Sym a N ∧ ∀ i, i ≤ a → shr a M N (coef X i) = s i := by
 have hex : ∀ i : Nat, ∃ m : List F8, i ≤ a → m.length = a ∧ ∀ j, j ≤ a → j ≠ i → Poly.eval m (coef X j) = tell a (coef X i) (coef X j) (s i) (s j) := fun i => by
  by_cases hi : i ≤ a
  ·obtain ⟨h1, h2⟩ := pts_but hn hX hi
   obtain ⟨m, h3, h4⟩ := msg_of ((but a i).map (coef X)) ((but a i).map fun j => tell a (coef X i) (coef X j) (s i) (s j)) h1 (by simp)
   refine ⟨m, fun _ => ⟨h3.trans h2, fun j hj hji => ?_⟩⟩
   unfold word at h4
   rw [List.map_map] at h4
   exact List.map_inj_left.1 h4 j (mem_but.2 ⟨hj, hji⟩)
  ·exact ⟨[], fun h => absurd h hi⟩
 obtain ⟨r, hr⟩ : ∃ r : Nat → List F8, ∀ i, i ≤ a → (r i).length = a ∧ ∀ j, j ≤ a → j ≠ i → Poly.eval (r i) (coef X j) = tell a (coef X i) (coef X j) (s i) (s j) := ⟨fun i => Classical.choose (hex i), fun i hi => Classical.choose_spec (hex i) hi⟩
 have hq : ∀ i j, i ≤ a → j ≤ a → i ≠ j → tell a (coef X i) (coef X j) (s i) (s j) = tell a (coef X j) (coef X i) (s j) (s i) := fun i j hi hj hij => by
  unfold tell
  have hd := sum_ne (hl i j hi hj hij)
  have e1 : Poly.eval (s j) (coef X i) + Poly.eval (s i) (coef X j) = Poly.eval (s i) (coef X j) + Poly.eval (s j) (coef X i) := F8.add_comm _ _
  have e2 : xpow (coef X j) a + xpow (coef X i) a = xpow (coef X i) a + xpow (coef X j) a := F8.add_comm _ _
  rw [e1, e2]
  obtain ⟨q, hq⟩ : ∃ q, (Poly.eval (s i) (coef X j) + Poly.eval (s j) (coef X i)) / (xpow (coef X i) a + xpow (coef X j) a) = q := ⟨_, rfl⟩
  have h2 := (div_eq hd).1 hq
  rw [hq]
  rw [← add_eq_zero]
  rw [show ∀ A B C D : F8, A + C + (B + D) = A + B + (C + D) from fun A B C D => by ac_rfl, h2, mul_add, mul_comm q, mul_comm q, F8.add_self]
 obtain ⟨M, hM, hM2⟩ := exists_sym hn hX (r := r) (fun i hi => (hr i hi).1) (fun i j hi hj hij => by rw [(hr i hi).2 j hj (Ne.symm hij), (hr j hj).2 i hi hij, hq i j hi hj hij])
 obtain ⟨N, hN, hN2⟩ := exists_sym hn hX (r := fun i => (List.range a).map fun c => (coef (s i) c + coef (r i) c) / xpow (coef X i) a) (fun i _ => by simp) (fun i j hi hj hij => by
  have key : ∀ i j, i ≤ a → j ≤ a → i ≠ j → Poly.eval ((List.range a).map fun c => (coef (s i) c + coef (r i) c) / xpow (coef X i) a) (coef X j) = (Poly.eval (s i) (coef X j) + Poly.eval (s j) (coef X i)) / (xpow (coef X i) a + xpow (coef X j) a) := by
   intro i j hi hj hij
   have hz := h0 i hi
   rw [eval_sum _ _ (Nat.le_of_eq (by simp : ((List.range a).map fun c => (coef (s i) c + coef (r i) c) / xpow (coef X i) a).length = a))]
   have e1 : ∀ c, c < a → coef ((List.range a).map fun c => (coef (s i) c + coef (r i) c) / xpow (coef X i) a) c * xpow (coef X j) c = inv (xpow (coef X i) a) * (coef (s i) c * xpow (coef X j) c + coef (r i) c * xpow (coef X j) c) := fun c hc => by
    rw [coef_range, if_pos hc, div_eq_mul_inv _ hz, mul_comm _ (inv _), mul_assoc, add_mul]
   rw [sum_congr e1, mul_sum, Mat.sum_add, ← eval_sum _ _ (Nat.le_of_eq (hs i hi)), ← eval_sum _ _ (Nat.le_of_eq (hr i hi).1), (hr i hi).2 j hj (Ne.symm hij)]
   unfold tell
   rw [add_self_add, ← mul_assoc, inv_mul hz, one_mul]
  rw [key i j hi hj hij, key j i hj hi (Ne.symm hij), F8.add_comm (Poly.eval (s j) _), F8.add_comm (xpow (coef X j) a)])
 refine ⟨M, N, hM, hN, fun i hi => list_ext (by rw [shr_length, hs i hi]) fun c hc => ?_⟩
 rw [shr_length] at hc
 rw [coef_shr hc, ← coef_row hc, ← coef_row (M := N) hc, hM2 i hi, hN2 i hi, coef_range, if_pos hc, mul_div' _ (h0 i hi), F8.add_comm (coef (s i) c), add_self_add]
theorem unique {a : Nat} {X : List F8} (hn : X.Nodup) (hX : X.length = a + 1) (hl : ∀ i j, i ≤ a → j ≤ a → i ≠ j → xpow (coef X i) a ≠ xpow (coef X j) a) (h0 : ∀ i, i ≤ a → xpow (coef X i) a ≠ 0)
  {M N M' N' : Nat → List F8} (hM : Sym a M) (hN : Sym a N) (hM' : Sym a M') (hN' : Sym a N') (h : ∀ i, i ≤ a → shr a M N (coef X i) = shr a M' N' (coef X i)) :
  ∀ c, c < a → M c = M' c ∧ N c = N' c := by
 have hrow : ∀ i, i ≤ a → row a M (coef X i) = row a M' (coef X i) := fun i hi => by
  obtain ⟨h1, h2⟩ := pts_but hn hX hi
  refine same_of (row_length _ _ _) (row_length _ _ _) (Nat.le_of_eq h2.symm) h1 fun x hx => ?_
  obtain ⟨j, hj, rfl⟩ := List.mem_map.1 hx
  obtain ⟨hj1, hj2⟩ := mem_but.1 hj
  rw [← tell_shr hM hN (hl i j hi hj1 (Ne.symm hj2)), ← tell_shr hM' hN' (hl i j hi hj1 (Ne.symm hj2)), h i hi, h j hj1]
 have hmem : ∀ {x}, x ∈ X → ∃ i, i ≤ a ∧ coef X i = x := by
  intro x hx
  obtain ⟨i, hi, rfl⟩ := List.mem_iff_getElem.1 hx
  exact ⟨i, by omega, coef_of_lt hi⟩
 have hMM : ∀ c, c < a → M c = M' c := fun c hc => rows_only hM.len hM'.len (by omega) hn (fun x hx => by obtain ⟨i, hi, rfl⟩ := hmem hx; exact hrow i hi) hc
 refine fun c hc => ⟨hMM c hc, same_of (hN.len c hc) (hN'.len c hc) (by omega) hn fun x hx => ?_⟩
 obtain ⟨i, hi, rfl⟩ := hmem hx
 have : coef (shr a M N (coef X i)) c = coef (shr a M' N' (coef X i)) c := by rw [h i hi]
 rw [coef_shr hc, coef_shr hc, hMM c hc] at this
 exact mul_left_cancel (h0 i hi) (add_left_inj.1 this)
theorem shr_congr {a : Nat} {M N M' N' : Nat → List F8} (h : ∀ c, c < a → M c = M' c ∧ N c = N' c) (x : F8) : shr a M N x = shr a M' N' x :=
 List.map_congr_left fun c hc => by rw [(h c (List.mem_range.1 hc)).1, (h c (List.mem_range.1 hc)).2]
end Go.Proofs.YtjoghbmedfmioaaGreat.Ms

namespace Go.Proofs.YtjoghbmedfmioaaGreat.Wl
open F8 Poly Rd
section
variable {xs : List F8} {k : Nat} {pl : List Int} {ys m r : List F8} {t z : Int} {wl : List Int}
theorem wis_ok (hl : pl.length = ys.length) (hok : OkP xs.length pl) (ht : 0 ≤ t) (hk : (k : Int) + 2 * t ≤ (pl.length : Int)) (hm : m.length = k) (hw : (wr m (ptsAt xs pl) ys : Int) ≤ t) : WIs xs k pl ys t m (wrong xs m pl ys) 0 :=
 .inr (.inr (.inl ⟨⟨⟨hl, hok⟩, ht⟩, hk, rfl, hm, hw, rfl⟩))
end
end Go.Proofs.YtjoghbmedfmioaaGreat.Wl

namespace Go.Proofs.YtjoghbmedfmioaaGreat.Ms
open F8 Poly Rd Mat Wl
theorem xpow_ne {x : F8} (h : x ≠ 0) : ∀ n, xpow x n ≠ 0
 | 0 => one_ne_zero
 | n + 1 => by rw [Wl.xpow_succ]; exact F8.mul_ne_zero h (xpow_ne h n)
structure Pts (xs : List F8) (a : Nat) : Prop where
 nd : xs.Nodup
 nz : ∀ i, i < xs.length → coef xs i ≠ 0
 lam : ∀ i j, i < xs.length → j < xs.length → i ≠ j → xpow (coef xs i) a ≠ xpow (coef xs j) a
structure OkL (xs : List F8) (a : Nat) (l : List (Nat × List F8)) : Prop where
 nd : (l.map Prod.fst).Nodup
 lt : ∀ o ∈ l, o.1 < xs.length
 len : ∀ o ∈ l, o.2.length = a
def plI (l : List (Nat × List F8)) : List Int := l.map fun o => (o.1 : Int)
theorem plI_length (l : List (Nat × List F8)) : (plI l).length = l.length := by simp [plI]
def vals (a : Nat) (xs : List F8) (one : Nat × List F8) (l : List (Nat × List F8)) : List F8 := l.map fun o => tell a (coef xs one.1) (coef xs o.1) one.2 o.2
theorem vals_length (a : Nat) (xs : List F8) (one : Nat × List F8) (l : List (Nat × List F8)) : (vals a xs one l).length = l.length := by simp [vals]
section
variable {xs : List F8} {a : Nat} {l l' : List (Nat × List F8)}
theorem OkL.sub (h : OkL xs a l) (hs : l'.Sublist l) : OkL xs a l' := ⟨h.nd.sublist (hs.map _), fun o ho => h.lt o (hs.subset ho), fun o ho => h.len o (hs.subset ho)⟩
theorem OkL.okP (h : OkL xs a l) : OkP xs.length (plI l) := by
 refine ⟨fun i hi => ?_, ?_⟩
 ·obtain ⟨o, ho, rfl⟩ := List.mem_map.1 hi
  have := h.lt o ho
  exact ⟨by omega, by omega⟩
 ·have := h.nd
  unfold plI List.Nodup at *
  rw [List.pairwise_map] at *
  exact this.imp fun hne e => hne (by omega)
theorem OkL.inj (h : OkL xs a l) {o u : Nat × List F8} (ho : o ∈ l) (hu : u ∈ l) (e : o.1 = u.1) : o = u := by
 have hn := h.nd
 clear h
 induction l with
 | nil => simp at ho
 | cons x l ih =>
  simp only [List.map_cons, List.nodup_cons] at hn
  rcases List.mem_cons.1 ho with e1 | ho2
  ·rcases List.mem_cons.1 hu with e2 | hu2
   ·rw [e1, e2]
   ·have h9 := List.mem_map_of_mem (f := Prod.fst) hu2
    rw [← e, e1] at h9
    exact absurd h9 hn.1
  ·rcases List.mem_cons.1 hu with e2 | hu2
   ·have h9 := List.mem_map_of_mem (f := Prod.fst) ho2
    rw [e, e2] at h9
    exact absurd h9 hn.1
   ·exact ih ho2 hu2 hn.2
theorem pts_plI (l : List (Nat × List F8)) : ptsAt xs (plI l) = l.map fun o => coef xs o.1 := by
 unfold ptsAt plI; rw [List.map_map]; exact List.map_congr_left fun o _ => by simp
theorem wr_map (m : List F8) (f g : Nat × List F8 → F8) : ∀ l : List (Nat × List F8), Wl.wr m (l.map f) (l.map g) = (l.filter fun o => decide (Poly.eval m (f o) ≠ g o)).length
 | [] => rfl
 | o :: l => by
  rw [List.map_cons, List.map_cons, wr_cons, wr_map m f g l, List.filter_cons]
  by_cases e : Poly.eval m (f o) ≠ g o
  ·rw [if_pos e, if_pos (by simpa using e), List.length_cons, Nat.add_comm]
  ·rw [if_neg e, if_neg (by simpa using e), Nat.zero_add]
theorem filter_le {α : Type} {p q : α → Bool} {l : List α} (h : ∀ o ∈ l, p o = true → q o = true) : (l.filter p).length ≤ (l.filter q).length := by
 rw [← List.countP_eq_length_filter, ← List.countP_eq_length_filter]; exact List.countP_mono_left h
theorem mem_wrong_map {m : List F8} (f : Nat × List F8 → F8) (hok : OkP xs.length (plI l)) {z : Int} : z ∈ wrong xs m (plI l) (l.map f) ↔ ∃ o ∈ l, (o.1 : Int) = z ∧ Poly.eval m (coef xs o.1) ≠ f o := by
 rw [mem_wrong_zip hok (by simp [plI])]
 unfold plI
 rw [List.zip_map']
 constructor
 ·rintro ⟨y, hy, hne⟩
  obtain ⟨o, ho, e⟩ := List.mem_map.1 hy
  injection e with e1 e2
  subst e1 e2
  exact ⟨o, ho, rfl, by simpa using hne⟩
 ·rintro ⟨o, ho, rfl, hne⟩
  exact ⟨f o, List.mem_map.2 ⟨o, ho, rfl⟩, by simpa using hne⟩
end
def rt (xs : List F8) (a : Nat) (M N : Nat → List F8) (o : Nat × List F8) : Bool := decide (o.2 = shr a M N (coef xs o.1))
theorem rt_iff {xs : List F8} {a : Nat} {M N : Nat → List F8} {o : Nat × List F8} : rt xs a M N o = true ↔ o.2 = shr a M N (coef xs o.1) := decide_eq_true_iff
def er (xs : List F8) (a : Nat) (M N : Nat → List F8) (x : F8) (o : Nat × List F8) : Bool := decide (Poly.eval o.2 x ≠ Poly.eval (shr a M N (coef xs o.1)) x)
theorem er_rt {xs : List F8} {a : Nat} {M N : Nat → List F8} {x : F8} {o : Nat × List F8} (h : er xs a M N x o = true) : rt xs a M N o = false := by
 unfold er at h; unfold rt
 rw [decide_eq_true_iff] at h
 exact decide_eq_false fun e => h (by rw [← e])
section
variable {xs : List F8} {a : Nat} {M N : Nat → List F8} {l : List (Nat × List F8)}
theorem row_ok (hP : Pts xs a) (hM : Sym a M) (hN : Sym a N) {one : Nat × List F8} (h1 : one.1 < xs.length) (hr : rt xs a M N one = true) (hl : OkL xs a l) (hne : ∀ o ∈ l, o.1 ≠ one.1) {T : Nat} (hT : (l.filter (er xs a M N (coef xs one.1))).length ≤ T) (hk : a + 2 * T ≤ l.length)
  {m : List F8} {wl : List Int} {z : Int} (hw : WIs xs a (plI l) (vals a xs one l) T m wl z) :
  z = 0 ∧ m = row a M (coef xs one.1) ∧ ∀ p : Int, p ∈ wl ↔ ∃ o ∈ l, (o.1 : Int) = p ∧ er xs a M N (coef xs one.1) o = true := by
 have hr2 := rt_iff.1 hr
 have hiff : ∀ o ∈ l, (Poly.eval (row a M (coef xs one.1)) (coef xs o.1) ≠ tell a (coef xs one.1) (coef xs o.1) one.2 o.2 ↔ Poly.eval o.2 (coef xs one.1) ≠ Poly.eval (shr a M N (coef xs o.1)) (coef xs one.1)) := fun o ho => by
  have ht := tell_wrong hM hN (hP.lam _ _ h1 (hl.lt o ho) (Ne.symm (hne o ho))) (xpow_ne (hP.nz _ h1) a) o.2
  rw [hr2]
  exact ⟨fun h e => h (ht.2 e).symm, fun h e => h (ht.1 e.symm)⟩
 have hwr : Wl.wr (row a M (coef xs one.1)) (ptsAt xs (plI l)) (vals a xs one l) ≤ T := by
  rw [pts_plI]
  unfold vals
  rw [wr_map]
  refine Nat.le_trans (filter_le fun o ho h => ?_) hT
  unfold er
  exact decide_eq_true ((hiff o ho).1 (of_decide_eq_true h))
 have h2 := wis_ok (xs := xs) (k := a) (pl := plI l) (ys := vals a xs one l) (t := (T : Int)) (m := row a M (coef xs one.1)) (by rw [plI_length, vals_length]) hl.okP (by omega) (by rw [plI_length]; omega) (row_length _ _ _) (by omega)
 obtain ⟨rfl, rfl, rfl⟩ := hw.only hP.nd h2
 refine ⟨rfl, rfl, fun p => ?_⟩
 unfold vals
 rw [mem_wrong_map _ hl.okP]
 constructor
 ·rintro ⟨o, ho, e, hne2⟩
  exact ⟨o, ho, e, decide_eq_true ((hiff o ho).1 hne2)⟩
 ·rintro ⟨o, ho, e, her⟩
  exact ⟨o, ho, e, (hiff o ho).2 (of_decide_eq_true her)⟩
def wo (l : List (Nat × List F8)) (ps : List Int) : List (Nat × List F8) := l.filter fun o => !decide ((o.1 : Int) ∈ ps)
theorem mem_wo {ps : List Int} {o : Nat × List F8} : o ∈ wo l ps ↔ o ∈ l ∧ (o.1 : Int) ∉ ps := by unfold wo; rw [List.mem_filter]; simp
theorem wo_sub (l : List (Nat × List F8)) (ps : List Int) : (wo l ps).Sublist l := List.filter_sublist
theorem wo_length (hl : OkL xs a l) (ps : List Int) : l.length ≤ (wo l ps).length + ps.length := by
 have h2 := len_split (fun o => !decide ((o.1 : Int) ∈ ps)) l
 have h3 : (l.filter fun o => !(!decide ((o.1 : Int) ∈ ps))).length ≤ ps.length := by
  have h4 : ((l.filter fun o => !(!decide ((o.1 : Int) ∈ ps))).map fun o => (o.1 : Int)).length ≤ ps.length := by
   refine sub_le ?_ fun x hx => ?_
   ·have := hl.sub (List.filter_sublist (l := l) (p := fun o => !(!decide ((o.1 : Int) ∈ ps))))
    exact this.okP.2
   ·obtain ⟨o, ho, rfl⟩ := List.mem_map.1 hx
    have := (List.mem_filter.1 ho).2
    simpa using this
  rwa [List.length_map] at h4
 unfold wo; omega
theorem wo_one (hl : OkL xs a l) {o : Nat × List F8} (ho : o ∈ l) : (wo l [(o.1 : Int)]).length + 1 = l.length := by
 have h1 := wo_length hl [(o.1 : Int)]
 have h2 : (wo l [(o.1 : Int)]).length < l.length := by
  rcases Nat.lt_or_ge (wo l [(o.1 : Int)]).length l.length with h | h
  ·exact h
  ·have e := (wo_sub l [(o.1 : Int)]).eq_of_length_le h
   have := (mem_wo (l := l) (ps := [(o.1 : Int)]) (o := o)).1 (by rw [e]; exact ho)
   simp at this
 simp at h1; omega
theorem mats_exist (hP : Pts xs a) (hl : OkL xs a l) (hn : l.length = a + 1) : ∃ M N, Sym a M ∧ Sym a N ∧ ∀ o ∈ l, rt xs a M N o = true := by
 have hc : ∀ i (hi : i < l.length), coef (l.map fun o => coef xs o.1) i = coef xs (l[i]).1 := fun i hi => by rw [coef_of_lt (by simpa using hi)]; simp
 have hX : (l.map fun o => coef xs o.1).Nodup := by rw [← pts_plI]; exact ptsAt_nodup hP.nd hl.okP
 have hne : ∀ i j (hi : i < l.length) (hj : j < l.length), i ≠ j → (l[i]).1 ≠ (l[j]).1 := fun i j hi hj hij e => by
  have h1 := hl.nd
  have : (l.map Prod.fst)[i]'(by simpa using hi) = (l.map Prod.fst)[j]'(by simpa using hj) := by simpa using e
  exact hij ((List.getElem_inj h1).1 this)
 obtain ⟨M, N, hM, hN, h⟩ := exist (a := a) hX (by simpa using hn)
  (fun i j hi hj hij => by rw [hc i (by omega), hc j (by omega)]; exact hP.lam _ _ (hl.lt _ (List.getElem_mem _)) (hl.lt _ (List.getElem_mem _)) (hne i j (by omega) (by omega) hij))
  (fun i hi => by rw [hc i (by omega)]; exact xpow_ne (hP.nz _ (hl.lt _ (List.getElem_mem _))) a)
  (s := fun i => (l.getD i (0, [])).2) (fun i hi => by
   have : i < l.length := by omega
   simp only [List.getD_eq_getElem?_getD, List.getElem?_eq_getElem this, Option.getD_some]
   exact hl.len _ (List.getElem_mem _))
 refine ⟨M, N, hM, hN, fun o ho => ?_⟩
 obtain ⟨i, hi, rfl⟩ := List.mem_iff_getElem.1 ho
 have := h i (by omega)
 rw [hc i hi] at this
 simp only [List.getD_eq_getElem?_getD, List.getElem?_eq_getElem hi, Option.getD_some] at this
 exact rt_iff.2 this.symm
theorem mats_only (hP : Pts xs a) {M' N' : Nat → List F8} (hl : OkL xs a l) (hn : a + 1 ≤ l.length) (hM : Sym a M) (hN : Sym a N) (hM' : Sym a M') (hN' : Sym a N') (h : ∀ o ∈ l, rt xs a M N o = true) (h' : ∀ o ∈ l, rt xs a M' N' o = true) :
  ∀ c, c < a → M c = M' c ∧ N c = N' c := by
 have hl2 := hl.sub (List.take_sublist (a + 1) l)
 have hn2 : (l.take (a + 1)).length = a + 1 := by rw [List.length_take]; omega
 obtain ⟨r, hr⟩ : ∃ r, l.take (a + 1) = r := ⟨_, rfl⟩
 rw [hr] at hl2 hn2
 have hm : ∀ o ∈ r, o ∈ l := fun o ho => List.mem_of_mem_take (by rw [hr]; exact ho)
 have hc : ∀ i (hi : i < r.length), coef (r.map fun o => coef xs o.1) i = coef xs (r[i]).1 := fun i hi => by rw [coef_of_lt (by simpa using hi)]; simp
 have hX : (r.map fun o => coef xs o.1).Nodup := by rw [← pts_plI]; exact ptsAt_nodup hP.nd hl2.okP
 have hne : ∀ i j (hi : i < r.length) (hj : j < r.length), i ≠ j → (r[i]).1 ≠ (r[j]).1 := fun i j hi hj hij e => by
  have h1 := hl2.nd
  have : (r.map Prod.fst)[i]'(by simpa using hi) = (r.map Prod.fst)[j]'(by simpa using hj) := by simpa using e
  exact hij ((List.getElem_inj h1).1 this)
 refine unique (a := a) hX (by simpa using hn2)
  (fun i j hi hj hij => by rw [hc i (by omega), hc j (by omega)]; exact hP.lam _ _ (hl2.lt _ (List.getElem_mem _)) (hl2.lt _ (List.getElem_mem _)) (hne i j (by omega) (by omega) hij))
  (fun i hi => by rw [hc i (by omega)]; exact xpow_ne (hP.nz _ (hl2.lt _ (List.getElem_mem _))) a) hM hN hM' hN' fun i hi => ?_
 rw [hc i (by omega), ← rt_iff.1 (h _ (hm _ (List.getElem_mem (by omega : i < r.length)))), ← rt_iff.1 (h' _ (hm _ (List.getElem_mem (by omega : i < r.length))))]
theorem col_ok (hP : Pts xs a) {M : Nat → List F8} {c : Nat} (hc : c < a) (hlen : (M c).length = a) (hl : OkL xs a l) (hk : a ≤ l.length) {m : List F8} {wl : List Int} {z : Int}
  (hw : WIs xs a (plI l) (l.map fun o => coef (row a M (coef xs o.1)) c) ((0 : Nat) : Int) m wl z) : z = 0 ∧ m = M c ∧ wl = [] := by
 have hwr : Wl.wr (M c) (ptsAt xs (plI l)) (l.map fun o => coef (row a M (coef xs o.1)) c) = 0 := by
  rw [pts_plI, wr_map, List.length_eq_zero_iff, List.filter_eq_nil_iff]
  intro o _ h
  rw [coef_row hc] at h
  simp at h
 have h2 := wis_ok (xs := xs) (k := a) (pl := plI l) (ys := l.map fun o => coef (row a M (coef xs o.1)) c) (t := ((0 : Nat) : Int)) (m := M c) (by simp [plI]) hl.okP (by omega) (by rw [plI_length]; omega) hlen (by omega)
 obtain ⟨rfl, rfl, rfl⟩ := hw.only hP.nd h2
 refine ⟨rfl, rfl, List.eq_nil_iff_forall_not_mem.2 fun p hp => ?_⟩
 obtain ⟨o, ho, _, hne⟩ := (mem_wrong_map _ hl.okP).1 hp
 rw [coef_row hc] at hne
 exact hne rfl
theorem second_ok {x : F8} (hx : xpow x a ≠ 0) {c : Nat} (hc : c < a) : (coef (shr a M N x) c + coef (row a M x) c) / xpow x a = coef (row a N x) c := by
 rw [div_eq hx, coef_shr hc, coef_row hc, coef_row hc, F8.mul_comm (Poly.eval (N c) x), F8.add_comm, add_self_add]
end
end Go.Proofs.YtjoghbmedfmioaaGreat.Ms

namespace Go.Proofs.YtjoghbmedfmioaaGreat.Ms
open F8
def wrongs (n : Nat) (S : Nat → List F8) (sh : List (Int × List F8)) : List Int := ((List.range n).filter fun j : Nat => sh.any fun o => decide (o.1 = (j : Int) ∧ o.2 ≠ S j)).map fun j : Nat => (j : Int)
def offB (S : Nat → List F8) (j : Nat) (o : Int × List F8) : Bool := decide (o.1 = (j : Int) ∧ o.2 ≠ S j)
def nb (S : Nat → List F8) (sh : List (Int × List F8)) : Nat := (sh.filter fun o => decide (o.2 ≠ S o.1.toNat)).length
theorem filter_one {n : Nat} {p : Nat → Bool} {i : Nat} (h : ∀ j, p j = true → j = i) : ((List.range n).filter p).length ≤ 1 := by
 induction n with
 | zero => simp
 | succ n ih =>
  rw [List.range_succ, List.filter_append, List.length_append]
  by_cases hp : p n = true
  ·have hn := h n hp
   have e0 : (List.range n).filter p = [] := List.filter_eq_nil_iff.2 fun j hj hpj => by
    have := h j hpj; have := List.mem_range.1 hj; omega
   rw [e0]
   simp [hp]
  ·have e1 : [n].filter p = [] := by simp [hp]
   rw [e1]
   simpa using ih
theorem filter_or {l : List Nat} {p q : Nat → Bool} : (l.filter fun j => p j || q j).length ≤ (l.filter p).length + (l.filter q).length := by
 induction l with
 | nil => simp
 | cons x l ih =>
  simp only [List.filter_cons]
  cases hp : p x <;> cases hq : q x <;> simp <;> omega
theorem wrongs_le (n : Nat) (S : Nat → List F8) (sh : List (Int × List F8)) : (wrongs n S sh).length ≤ nb S sh := by
 unfold wrongs nb
 rw [List.length_map]
 induction sh with
 | nil => simp
 | cons o sh ih =>
  have e : ((List.range n).filter fun j : Nat => (o :: sh).any fun o => decide (o.1 = (j : Int) ∧ o.2 ≠ S j)) = (List.range n).filter fun j : Nat => offB S j o || sh.any fun o => decide (o.1 = (j : Int) ∧ o.2 ≠ S j) := List.filter_congr fun j _ => by rw [List.any_cons]; rfl
  rw [e]
  refine Nat.le_trans filter_or ?_
  by_cases hb : o.2 ≠ S o.1.toNat
  ·rw [List.filter_cons_of_pos (by simpa using hb), List.length_cons]
   have h1 : ((List.range n).filter fun j => offB S j o).length ≤ 1 := filter_one (i := o.1.toNat) fun j hj => by
    unfold offB at hj
    have := (of_decide_eq_true hj).1
    omega
   omega
  ·rw [List.filter_cons_of_neg (by simpa using hb)]
   have h0 : (List.range n).filter (fun j => offB S j o) = [] := List.filter_eq_nil_iff.2 fun j _ hj => by
    unfold offB at hj
    have h := of_decide_eq_true hj
    apply hb
    have : o.1.toNat = j := by omega
    rw [this]
    exact h.2
   rw [h0]
   simpa using ih
theorem nb_set (S : Nat → List F8) : ∀ (sh : List (Int × List F8)) (i : Nat) (o : Int × List F8), nb S (sh.set i o) ≤ nb S sh + 1
 | [], i, o => by simp [nb]
 | x :: sh, 0, o => by
  simp only [nb, List.set_cons_zero, List.filter_cons]
  split <;> split <;> simp <;> omega
 | x :: sh, i + 1, o => by
  have ih := nb_set S sh i o
  simp only [nb, List.set_cons_succ, List.filter_cons] at ih ⊢
  split <;> (try simp only [List.length_cons]) <;> omega
theorem nb_nil {S : Nat → List F8} {sh : List (Int × List F8)} (h : ∀ o ∈ sh, o.2 = S o.1.toNat) : nb S sh = 0 := by
 unfold nb
 rw [List.filter_eq_nil_iff.2 fun o ho => by simpa using h o ho]
 rfl
end Go.Proofs.YtjoghbmedfmioaaGreat.Ms
