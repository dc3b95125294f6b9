/- Of the program, joined: WlLoc, WcSym, WcRed, MatCode1. -/
import Derived.Test.YtofihklinkpbiaaGreatPl07
import Derived.Test.YtofihklinkpbiaaGreatPl16
import Derived.Test.YtofihklinkpbiaaGreatPl12
import Derived.Deep.RegionHeld
import Derived.Test.YtofihklinkpbiaaGreatPl04
import Derived.Test.YtofihklinkpbiaaGreatPl02
import Derived.Deep.QuietTactic
import Derived.BigQuiet
namespace Go.Proofs.YtofihklinkpbiaaGreat.Wl
open F8 Poly Rd
open Mat (sum sum_congr mulF Sol KerT Ker app)
def tw (xs ys : List F8) (i : Nat) : List F8 := List.zipWith (fun x y => xpow x i * y) xs ys
theorem tw_length {xs ys : List F8} (h : xs.length = ys.length) (i : Nat) : (tw xs ys i).length = xs.length := by simp [tw, h]
theorem tw_zero (xs ys : List F8) (h : xs.length = ys.length) : tw xs ys 0 = ys := by
 refine List.ext_getElem (by rw [tw_length h, h]) fun i h1 h2 => ?_
 simp [tw, xpow, one_mul]
def Prt (xs ys : List F8) (i : Nat) (p : List F8) : Prop := Thru xs (tw xs ys i) p
theorem Prt.val {xs ys p : List F8} {i : Nat} (h : Prt xs ys i p) (hl : xs.length = ys.length) {j : Nat} (hj : j < xs.length) : eval p (coef xs j) = xpow (coef xs j) i * coef ys j := by
 have := Thru.val h j hj (by rw [tw_length hl]; exact hj)
 rw [coef_of_lt hj, this, coef_of_lt (p := ys) (by omega)]
 simp [tw]
theorem prt_zero {xs ys p : List F8} (hl : xs.length = ys.length) (h : Thru xs ys p) : Prt xs ys 0 p := by
 unfold Prt; rw [tw_zero xs ys hl]; exact h
theorem xpow_succ (x : F8) (i : Nat) : xpow x (i + 1) = x * xpow x i := by
 first | rfl | (simp only [xpow]; rw [mul_comm])
theorem prt_succ {xs ys p u v : List F8} {i : Nat} (hl : xs.length = ys.length) (h : Prt xs ys i p) (hd : DivBy (0 :: p) (trim (roots xs)) u v) : Prt xs ys (i + 1) v := by
 have hlen : len v < xs.length + 1 := by have := hd.lt; rwa [len_trim, len_roots] at this
 refine ⟨hd.tr, (bdd_len v).mono (by omega), fun j h1 h2 => ?_⟩
 have e1 : eval (trim (roots xs)) xs[j] = 0 := by rw [eval_trim]; exact (eval_roots xs _).2 (List.getElem_mem h1)
 have e2 := eval_congr xs[j] hd.eqv
 rw [eval_padd, eval_pmul, e1, mul_zero, zero_add] at e2
 have e3 := h.val hl h1
 rw [coef_of_lt h1, coef_of_lt (p := ys) (by omega)] at e3
 rw [← e2]
 show 0 + xs[j] * eval p xs[j] = _
 rw [zero_add, e3]
 simp only [tw, List.getElem_zipWith]
 rw [xpow_succ, mul_assoc]
theorem prt_len {xs ys p : List F8} {i : Nat} (h : Prt xs ys i p) : p.length ≤ xs.length := thru_length h
def comb (P : Nat → List F8) (x : Nat → F8) : Nat → List F8
 | 0 => []
 | c + 1 => padd (comb P x c) (scale (x c) (P c))
theorem coef_comb (P : Nat → List F8) (x : Nat → F8) (i : Nat) : ∀ c, coef (comb P x c) i = sum c fun j => coef (P j) i * x j
 | 0 => coef_nil i
 | c + 1 => by simp only [comb, sum]; rw [coef_padd, coef_scale, coef_comb P x i c, mul_comm]
theorem bdd_comb {P : Nat → List F8} {x : Nat → F8} {n : Nat} : ∀ {c : Nat}, (∀ j, j < c → Bdd (P j) n) → Bdd (comb P x c) n
 | 0, _ => fun _ _ => coef_nil _
 | c + 1, h => bdd_padd (bdd_comb fun j hj => h j (by omega)) fun i hi => by rw [coef_scale, h c (by omega) i hi, mul_zero]
theorem coef_range (x : Nat → F8) (n i : Nat) : coef ((List.range n).map x) i = if i < n then x i else 0 := by
 by_cases h : i < n
 ·rw [if_pos h, coef_of_lt (by simpa using h)]; simp
 ·rw [if_neg h, coef_of_le (by simpa using h)]
theorem eval_comb {xs ys : List F8} {P : Nat → List F8} (x : Nat → F8) (hl : xs.length = ys.length) {j : Nat} (hj : j < xs.length) : ∀ {c : Nat}, (∀ i, i < c → Prt xs ys i (P i)) → eval (comb P x c) (coef xs j) = coef ys j * eval ((List.range c).map x) (coef xs j)
 | 0, _ => by show (0 : F8) = coef ys j * 0; rw [mul_zero]
 | c + 1, h => by
  simp only [comb]
  rw [eval_padd, eval_scale, eval_comb x hl hj fun i hi => h i (by omega), (h c (by omega)).val hl hj, List.range_succ, List.map_append, List.map_cons, List.map_nil, eval_snoc, List.length_map, List.length_range, mul_add]
  ac_rfl
theorem roots_lead : ∀ xs : List F8, coef (roots xs) xs.length = 1
 | [] => rfl
 | x :: xs => by
  have hb : coef (roots xs) (xs.length + 1) = 0 := bdd_len (roots xs) _ (by rw [len_roots]; exact Nat.le_refl _)
  show coef (pmul [x, 1] (roots xs)) (xs.length + 1) = 1
  rw [coef_pmul_cons, hb, mul_zero, zero_add, if_neg (by omega), Nat.add_sub_cancel, coef_pmul_cons, coef_pmul_nil]
  rw [roots_lead xs]
  simp only [ite_self]
  rw [mul_one, add_zero]
def bad (m xs ys : List F8) : List F8 := ((xs.zip ys).filter fun p => decide (eval m p.1 ≠ p.2)).map Prod.fst
theorem bad_length (m xs ys : List F8) : (bad m xs ys).length = wr m xs ys := by unfold bad wr; rw [List.length_map]
theorem bad_nodup {m xs ys : List F8} (hn : xs.Nodup) (hl : xs.length = ys.length) : (bad m xs ys).Nodup := by
 have h1 : ((xs.zip ys).map Prod.fst).Nodup := by rw [List.map_fst_zip (by omega)]; exact hn
 exact h1.sublist (List.filter_sublist.map _)
theorem mem_bad {m xs ys : List F8} (hl : xs.length = ys.length) {z : F8} : z ∈ bad m xs ys ↔ ∃ j, j < xs.length ∧ coef xs j = z ∧ eval m z ≠ coef ys j := by
 unfold bad
 rw [List.mem_map]
 constructor
 ·rintro ⟨⟨a, b⟩, hp, rfl⟩
  obtain ⟨h1, h2⟩ := List.mem_filter.1 hp
  obtain ⟨i, hi, he⟩ := List.mem_iff_getElem.1 h1
  rw [List.length_zip] at hi
  rw [List.getElem_zip] at he
  injection he with e1 e2
  refine ⟨i, by omega, by rw [coef_of_lt (by omega)]; exact e1, ?_⟩
  rw [coef_of_lt (p := ys) (by omega), e2]
  simpa using h2
 ·rintro ⟨j, hj, rfl, h⟩
  refine ⟨(coef xs j, coef ys j), List.mem_filter.2 ⟨List.mem_iff_getElem.2 ⟨j, by rw [List.length_zip]; omega, ?_⟩, by simpa using h⟩, rfl⟩
  rw [List.getElem_zip, coef_of_lt hj, coef_of_lt (p := ys) (by omega)]
theorem mem_bad_at {m xs ys : List F8} (hn : xs.Nodup) (hl : xs.length = ys.length) {i : Nat} (hi : i < xs.length) : coef xs i ∈ bad m xs ys ↔ eval m (coef xs i) ≠ coef ys i := by
 rw [mem_bad hl]
 constructor
 ·rintro ⟨j, hj, he, h⟩
  rw [coef_of_lt hj, coef_of_lt hi] at he
  have := (List.getElem_inj hn).1 he
  subst this
  exact h
 ·intro h
  exact ⟨i, hi, rfl, h⟩
def LocIs (xs ys : List F8) (k count : Nat) (L : List F8) : Prop :=
 L.length = count + 1 ∧ coef L count = 1 ∧ ∀ m : List F8, m.length = k → wr m xs ys = count → ∀ i, i < xs.length → (eval L (coef xs i) = 0 ↔ eval m (coef xs i) ≠ coef ys i)
theorem loc_zero (xs ys : List F8) (k : Nat) (hl : xs.length = ys.length) : LocIs xs ys k 0 [1] := by
 refine ⟨rfl, rfl, fun m _ h i hi => ?_⟩
 have e : eval [1] (coef xs i) = 1 := by show 1 + coef xs i * 0 = 1; rw [mul_zero, add_zero]
 rw [e]
 refine ⟨fun h => absurd h one_ne_zero, fun h2 => ?_⟩
 have hw := (wr_zero hl).1 h
 rw [← hw, word_get hi] at h2
 exact absurd rfl h2
section
variable {xs ys m : List F8} {k count n : Nat} {P : Nat → List F8}
theorem only_sol (hn : xs.Nodup) (hx : xs.length = n) (hl : xs.length = ys.length) (hP : ∀ i, i ≤ count → Prt xs ys i (P i)) (hk : k + 2 * count ≤ n) (hm : m.length = k) (hw : wr m xs ys = count) :
  KerT (n - (k + count)) count (fun i j => coef (P j) (k + count + i)) := by
 intro x hx0 j hj
 have hb : Bdd (comb P x count) n := bdd_comb fun j hj => hx ▸ Thru.bdd (hP j (by omega))
 have hb2 : Bdd (comb P x count) (k + count) := fun i hi => by
  rcases Nat.lt_or_ge i n with h | h
  ·rw [coef_comb]
   have := hx0 (i - (k + count)) (by omega)
   simp only [app] at this
   rw [show k + count + (i - (k + count)) = i by omega] at this
   exact this
  ·exact hb i h
 have hE : Bdd ((List.range count).map x) count := by have := bdd_length ((List.range count).map x); simpa using this
 have hv : ∀ i, i < xs.length → eval (comb P x count) (coef xs i) = coef ys i * eval ((List.range count).map x) (coef xs i) := fun i hi => eval_comb x hl hi fun i hi => hP i (by omega)
 have hq := bw hm hn hl (Nat.le_of_eq hw) (by omega) hb2 (hE.mono (Nat.le_succ _)) hv
 have hz : Eqv ((List.range count).map x) [] := by
  refine Poly.only (n := count) (xs := bad m xs ys) hE (fun i _ => coef_nil i) (by rw [bad_length, hw]; exact Nat.le_refl _) (bad_nodup hn hl) fun z hz => ?_
  obtain ⟨i, hi, rfl, hne⟩ := (mem_bad hl).1 hz
  have h1 := hv i hi
  rw [eval_congr _ hq, eval_pmul] at h1
  show _ = (0 : F8)
  rcases Classical.em (eval ((List.range count).map x) (coef xs i) = 0) with h2 | h2
  ·exact h2
  ·exact absurd (mul_right_cancel h2 h1) hne
 have := hz j
 rw [coef_range, if_pos hj, coef_nil] at this
 exact this
theorem has_sol (hn : xs.Nodup) (hx : xs.length = n) (hl : xs.length = ys.length) (hP : ∀ i, i ≤ count → Prt xs ys i (P i)) (hk : k + 2 * count ≤ n) (hm : m.length = k) (hw : wr m xs ys = count) :
  ∀ i, i < n - (k + count) → sum count (fun j => coef (P j) (k + count + i) * coef (roots (bad m xs ys)) j) = coef (P count) (k + count + i) := by
 intro i hi
 obtain ⟨E, hE⟩ : ∃ E, roots (bad m xs ys) = E := ⟨_, rfl⟩
 have hlead : coef E count = 1 := by rw [← hE, ← hw, ← bad_length m xs ys]; exact roots_lead _
 have hEb : Bdd E (count + 1) := by
  have := bdd_len (roots (bad m xs ys))
  rw [len_roots, bad_length, hw, hE] at this
  exact this
 have hEe : Eqv ((List.range (count + 1)).map (coef E)) E := fun j => by
  rw [coef_range]
  by_cases h : j < count + 1
  ·rw [if_pos h]
  ·rw [if_neg h, hEb j (by omega)]
 have hq : Eqv (comb P (coef E) (count + 1)) (pmul m E) := by
  refine Poly.only (n := n) (xs := xs) (bdd_comb fun j hj => hx ▸ Thru.bdd (hP j (by omega))) (fun j hj => bdd_pmul (hm ▸ bdd_length m) hEb j (by omega)) (by omega) hn fun z hz => ?_
  obtain ⟨j, hj, rfl⟩ := List.getElem_of_mem hz
  rw [← coef_of_lt hj, eval_comb (coef E) hl hj fun i hi => hP i (by omega), eval_congr _ hEe, eval_pmul]
  rcases Classical.em (eval m (coef xs j) = coef ys j) with h | h
  ·rw [h]
  ·have : eval E (coef xs j) = 0 := by rw [← hE]; exact (eval_roots _ _).2 ((mem_bad_at hn hl hj).2 h)
   rw [this, mul_zero, mul_zero]
 have h1 := hq (k + count + i)
 rw [coef_comb, bdd_pmul (hm ▸ bdd_length m) hEb _ (by omega)] at h1
 simp only [sum] at h1
 rw [hlead, mul_one] at h1
 rw [hE]
 exact add_eq_zero.1 h1
theorem loc_of {X : Nat → Nat → F8} (hn : xs.Nodup) (hx : xs.length = n) (hl : xs.length = ys.length) (hP : ∀ i, i ≤ count → Prt xs ys i (P i)) (hk : k + 2 * count ≤ n)
  (hs : Sol (n - (k + count)) count 1 (fun i j => coef (P j) (k + count + i)) (fun i _ => coef (P count) (k + count + i)) X) :
  LocIs xs ys k count ((List.range count).map (fun j => X j 0) ++ [1]) := by
 refine ⟨by simp, ?_, fun m hm hw i hi => ?_⟩
 ·unfold coef
  rw [List.getD_eq_getElem?_getD, List.getElem?_append_right (by simp)]
  simp
 ·have hX : ∀ j, j < count → X j 0 = coef (roots (bad m xs ys)) j := fun j hj =>
   hs.only (Y := fun j _ => coef (roots (bad m xs ys)) j) (fun a _ ha _ => has_sol hn hx hl hP hk hm hw a ha) hj (Nat.lt_succ_self 0)
  have he : Eqv ((List.range count).map (fun j => X j 0) ++ [1]) (roots (bad m xs ys)) := fun j => by
   have hlead : coef (roots (bad m xs ys)) count = 1 := by rw [← hw, ← bad_length m xs ys]; exact roots_lead _
   have hEb := bdd_len (roots (bad m xs ys))
   rw [len_roots, bad_length, hw] at hEb
   rcases Nat.lt_trichotomy j count with h | h | h
   ·rw [← hX j h, coef_of_lt (by simp; omega), List.getElem_append_left (by simpa using h)]; simp
   ·subst h
    rw [hlead, coef_of_lt (by simp), List.getElem_append_right (by simp)]
    simp
   ·rw [hEb j h, coef_of_le (by simp; omega)]
  rw [eval_congr _ he, eval_roots, mem_bad_at hn hl hi]
theorem loc_none (hn : xs.Nodup) (hx : xs.length = n) (hl : xs.length = ys.length) (hP : ∀ i, i ≤ count → Prt xs ys i (P i)) (hk : k + 2 * count ≤ n)
  (hs : ¬ ∃ X, Sol (n - (k + count)) count 1 (fun i j => coef (P j) (k + count + i)) (fun i _ => coef (P count) (k + count + i)) X) : ∀ m : List F8, m.length = k → wr m xs ys ≠ count := fun m hm hw =>
 hs ⟨fun j _ => coef (roots (bad m xs ys)) j, only_sol hn hx hl hP hk hm hw, fun i _ hi _ => has_sol hn hx hl hP hk hm hw i hi⟩
end
def zer (L xs : List F8) (pl : List Int) : List Int := ((xs.zip pl).filter fun p => decide (eval L p.1 = 0)).map Prod.snd
def rgt (L xs : List F8) (pl : List Int) : List Int := ((xs.zip pl).filter fun p => decide (eval L p.1 ≠ 0)).map Prod.snd
def rgy (L xs ys : List F8) : List F8 := ((xs.zip ys).filter fun p => decide (eval L p.1 ≠ 0)).map Prod.snd
theorem zip_snoc {α β : Type} {xs : List α} {ys : List β} {i : Nat} (h1 : i < xs.length) (h2 : i < ys.length) : (xs.take (i + 1)).zip (ys.take (i + 1)) = (xs.take i).zip (ys.take i) ++ [(xs[i], ys[i])] := by
 rw [List.take_succ_eq_append_getElem h1, List.take_succ_eq_append_getElem h2, List.zip_append (by simp; omega)]
 rfl
section
variable {L xs ys : List F8} {pl : List Int} {i : Nat}
theorem zer_succ (h1 : i < xs.length) (h2 : i < pl.length) : zer L (xs.take (i + 1)) (pl.take (i + 1)) = zer L (xs.take i) (pl.take i) ++ if eval L (coef xs i) = 0 then [pl[i]] else [] := by
 unfold zer
 rw [zip_snoc h1 h2, List.filter_append, List.map_append, coef_of_lt h1]
 by_cases h : eval L xs[i] = 0 <;> simp [h]
theorem rgt_succ (h1 : i < xs.length) (h2 : i < pl.length) : rgt L (xs.take (i + 1)) (pl.take (i + 1)) = rgt L (xs.take i) (pl.take i) ++ if eval L (coef xs i) = 0 then [] else [pl[i]] := by
 unfold rgt
 rw [zip_snoc h1 h2, List.filter_append, List.map_append, coef_of_lt h1]
 by_cases h : eval L xs[i] = 0 <;> simp [h]
theorem rgy_succ (h1 : i < xs.length) (h2 : i < ys.length) : rgy L (xs.take (i + 1)) (ys.take (i + 1)) = rgy L (xs.take i) (ys.take i) ++ if eval L (coef xs i) = 0 then [] else [coef ys i] := by
 unfold rgy
 rw [zip_snoc h1 h2, List.filter_append, List.map_append, coef_of_lt h1, coef_of_lt h2]
 by_cases h : eval L xs[i] = 0 <;> simp [h]
theorem zip_sub {α β : Type} : ∀ (a : List α) (b : List β), ((a.zip b).map Prod.snd).Sublist b
 | [], b => by simp
 | _ :: _, [] => by simp
 | x :: a, y :: b => by
  rw [List.zip_cons_cons, List.map_cons]
  exact (zip_sub a b).cons_cons y
theorem rgt_sub (L xs : List F8) (pl : List Int) : (rgt L xs pl).Sublist pl := by
 unfold rgt
 exact (List.filter_sublist.map _).trans (zip_sub _ _)
theorem zer_sub (L xs : List F8) (pl : List Int) : (zer L xs pl).Sublist pl := by
 unfold zer
 exact (List.filter_sublist.map _).trans (zip_sub _ _)
end
theorem rg_len {L : List F8} : ∀ {xs : List F8} {pl : List Int} {ys : List F8}, xs.length = pl.length → xs.length = ys.length → (rgt L xs pl).length = (rgy L xs ys).length ∧ (zer L xs pl).length + (rgt L xs pl).length = xs.length
 | [], [], [], _, _ => ⟨rfl, rfl⟩
 | x :: xs, p :: pl, y :: ys, h1, h2 => by
  obtain ⟨a, b⟩ := rg_len (L := L) (xs := xs) (pl := pl) (ys := ys) (by simpa using h1) (by simpa using h2)
  unfold rgt rgy zer at *
  by_cases h : eval L x = 0 <;> simp [h] at a b ⊢ <;> omega
 | [], _ :: _, _, h, _ => by simp at h
 | [], [], _ :: _, _, h => by simp at h
 | _ :: _, [], _, h, _ => by simp at h
 | _ :: _, _ :: _, [], _, h => by simp at h
theorem rg_word {L m : List F8} (X : List F8) : ∀ {pl : List Int} {ys : List F8}, pl.length = ys.length → (word m (ptsAt X (rgt L (ptsAt X pl) pl)) = rgy L (ptsAt X pl) ys ↔ ∀ i, i < pl.length → eval L (coef (ptsAt X pl) i) ≠ 0 → eval m (coef (ptsAt X pl) i) = coef ys i)
 | [], [], _ => by simp [rgt, rgy, ptsAt, word]
 | p :: pl, y :: ys, h => by
  have ih := rg_word (L := L) (m := m) X (pl := pl) (ys := ys) (by simpa using h)
  have hc : (∀ i, i < (p :: pl).length → eval L (coef (ptsAt X (p :: pl)) i) ≠ 0 → eval m (coef (ptsAt X (p :: pl)) i) = coef (y :: ys) i) ↔ (eval L (coef X p.toNat) ≠ 0 → eval m (coef X p.toNat) = y) ∧ ∀ i, i < pl.length → eval L (coef (ptsAt X pl) i) ≠ 0 → eval m (coef (ptsAt X pl) i) = coef ys i := by
   constructor
   ·exact fun h => ⟨h 0 (by simp), fun i hi => h (i + 1) (by simpa using hi)⟩
   ·rintro ⟨h0, h1⟩ i hi
    cases i with
    | zero => exact h0
    | succ i => exact h1 i (by simpa using hi)
  rw [hc, ← ih]
  by_cases h0 : eval L (coef X p.toNat) = 0
  ·have e1 : rgt L (ptsAt X (p :: pl)) (p :: pl) = rgt L (ptsAt X pl) pl := by simp [rgt, ptsAt, h0]
   have e2 : rgy L (ptsAt X (p :: pl)) (y :: ys) = rgy L (ptsAt X pl) ys := by simp [rgy, ptsAt, h0]
   rw [e1, e2]
   exact ⟨fun h => ⟨fun h => absurd h0 h, h⟩, fun h => h.2⟩
  ·have e1 : rgt L (ptsAt X (p :: pl)) (p :: pl) = p :: rgt L (ptsAt X pl) pl := by simp [rgt, ptsAt, h0]
   have e2 : rgy L (ptsAt X (p :: pl)) (y :: ys) = y :: rgy L (ptsAt X pl) ys := by simp [rgy, ptsAt, h0]
   rw [e1, e2]
   show eval m (coef X p.toNat) :: word m (ptsAt X _) = _ ↔ _
   rw [List.cons.injEq]
   exact ⟨fun h => ⟨fun _ => h.1, h.2⟩, fun h => ⟨h.1 h0, h.2⟩⟩
 | [], _ :: _, h => by simp at h
 | _ :: _, [], h => by simp at h
theorem mem_zer {L xs : List F8} {pl : List Int} (hl : xs.length = pl.length) {z : Int} : z ∈ zer L xs pl ↔ ∃ i, i < pl.length ∧ pl.getD i 0 = z ∧ eval L (coef xs i) = 0 := by
 unfold zer
 rw [List.mem_map]
 constructor
 ·rintro ⟨⟨a, b⟩, hp, rfl⟩
  obtain ⟨h1, h2⟩ := List.mem_filter.1 hp
  obtain ⟨i, hi, he⟩ := List.mem_iff_getElem.1 h1
  rw [List.length_zip] at hi
  rw [List.getElem_zip] at he
  injection he with e1 e2
  refine ⟨i, by omega, by simp [List.getD_eq_getElem?_getD, (by omega : i < pl.length), e2], ?_⟩
  rw [coef_of_lt (by omega), e1]
  simpa using h2
 ·rintro ⟨i, hi, rfl, h⟩
  refine ⟨(coef xs i, pl[i]), List.mem_filter.2 ⟨List.mem_iff_getElem.2 ⟨i, by rw [List.length_zip]; omega, ?_⟩, by simpa using h⟩, by simp [List.getD_eq_getElem?_getD, hi]⟩
  rw [List.getElem_zip, coef_of_lt (by omega)]
theorem zer_le {L xs : List F8} {pl : List Int} {count : Nat} (hn : xs.Nodup) (hl : xs.length = pl.length) (h1 : L.length = count + 1) (h2 : coef L count = 1) : (zer L xs pl).length ≤ count := by
 have hlen : 0 < len L ∧ len L - 1 ≤ count := by
  have := len_le_of_bdd (bdd_length L)
  refine ⟨?_, by omega⟩
  rcases Nat.eq_zero_or_pos (len L) with h | h
  ·have := len_zero.1 h count
   rw [coef_nil, h2] at this
   exact absurd this one_ne_zero
  ·exact h
 have e : (zer L xs pl).length = (((xs.zip pl).filter fun p => decide (eval L p.1 = 0)).map Prod.fst).length := by unfold zer; rw [List.length_map, List.length_map]
 rw [e]
 refine Nat.le_trans (roots_le hlen.1 ?_ fun x hx => ?_) hlen.2
 ·have h1 : ((xs.zip pl).map Prod.fst).Nodup := by rw [List.map_fst_zip (by omega)]; exact hn
  exact h1.sublist (List.filter_sublist.map _)
 ·obtain ⟨p, hp, rfl⟩ := List.mem_map.1 hx
  simpa using (List.mem_filter.1 hp).2
def MsgIs (X : List F8) (k : Nat) (pl : List Int) (ys : List F8) (count : Nat) (m : List F8) (wl : List Int) (z : Int) : Prop :=
 (z = 0 ∧ m.length = k ∧ wr m (ptsAt X pl) ys ≤ count ∧ (wr m (ptsAt X pl) ys = count → wl = wrong X m pl ys)) ∨
 (z ≠ 0 ∧ ∀ m : List F8, m.length = k → wr m (ptsAt X pl) ys ≠ count)
theorem wr_le_of {m L xs ys : List F8} {pl : List Int} (hl : xs.length = ys.length) (hp : xs.length = pl.length) (h : ∀ i, i < xs.length → eval L (coef xs i) ≠ 0 → eval m (coef xs i) = coef ys i) : wr m xs ys ≤ (zer L xs pl).length := by
 induction xs generalizing ys pl with
 | nil => simp [wr]
 | cons x xs ih =>
  cases ys with
  | nil => simp at hl
  | cons y ys =>
   cases pl with
   | nil => simp at hp
   | cons p pl =>
    have h1 := ih (ys := ys) (pl := pl) (by simpa using hl) (by simpa using hp) fun i hi => h (i + 1) (by simpa using hi)
    have h0 := h 0 (by simp)
    simp only [coef_cons_zero] at h0
    rw [wr_cons]
    have e : (zer L (x :: xs) (p :: pl)).length = (if eval L x = 0 then 1 else 0) + (zer L xs pl).length := by
     unfold zer
     by_cases hz : eval L x = 0 <;> simp [hz, Nat.add_comm]
    rw [e]
    by_cases hz : eval L x = 0
    ·rw [if_pos hz]; split <;> omega
    ·rw [if_neg hz, if_neg (by simpa using h0 hz)]; omega
theorem sub_le {α : Type} [DecidableEq α] : ∀ {l r : List α}, l.Nodup → (∀ x ∈ l, x ∈ r) → l.length ≤ r.length
 | [], _, _, _ => Nat.zero_le _
 | x :: l, r, hn, h => by
  have hx := h x (by simp)
  have h1 := sub_le (l := l) (r := r.erase x) (List.nodup_cons.1 hn).2 fun y hy => (List.mem_erase_of_ne (by rintro rfl; exact (List.nodup_cons.1 hn).1 hy)).2 (h y (by simp [hy]))
  rw [List.length_erase_of_mem hx] at h1
  have := List.length_pos_of_mem hx
  simp
  omega
theorem len_same {α : Type} [DecidableEq α] {l r : List α} (hl : l.Nodup) (h : ∀ x ∈ l, x ∈ r) (hlen : r.length ≤ l.length) : ∀ x ∈ r, x ∈ l := by
 intro x hx
 rcases Classical.em (x ∈ l) with h1 | h1
 ·exact h1
 ·have h2 : (x :: l).length ≤ r.length := by
   have hnd : (x :: l).Nodup := List.nodup_cons.2 ⟨h1, hl⟩
   exact sub_le hnd fun y hy => by
    rcases List.mem_cons.1 hy with rfl | hy
    ·exact hx
    ·exact h y hy
  simp at h2
  omega
theorem msg_of_loc {X L ys l : List F8} {k count : Nat} {pl : List Int} {z : Int} {wl : List Int} (hn : X.Nodup) (hok : OkP X.length pl) (hl : pl.length = ys.length) (hk : k + 2 * count ≤ pl.length) (hL : LocIs (ptsAt X pl) ys k count L)
  (hd : DecIs X k (rgt L (ptsAt X pl) pl) (rgy L (ptsAt X pl) ys) l z) (hs : wl.Perm (zer L (ptsAt X pl) pl)) (hs2 : wl.Pairwise (· ≤ ·)) : MsgIs X k pl ys count l wl z := by
 have hpl : (ptsAt X pl).length = pl.length := ptsAt_length X pl
 have hnd := ptsAt_nodup hn hok
 have hz := zer_le (pl := pl) hnd hpl hL.1 hL.2.1
 obtain ⟨r1, r2⟩ := rg_len (L := L) (xs := ptsAt X pl) (pl := pl) (ys := ys) hpl (by omega)
 have hokr : OkP X.length (rgt L (ptsAt X pl) pl) := ⟨fun i hi => hok.1 i ((rgt_sub _ _ _).subset hi), hok.2.sublist (rgt_sub _ _ _)⟩
 have hrl : (rgt L (ptsAt X pl) pl).length = (rgy L (ptsAt X pl) ys).length ∧ OkP X.length (rgt L (ptsAt X pl) pl) := ⟨r1, hokr⟩
 rcases hd with ⟨a, _⟩ | ⟨_, b, _⟩ | ⟨_, b, h1, h2, h3⟩ | ⟨_, b, h1, h2, h3⟩
 ·exact absurd hrl a
 ·omega
 ·have hw := (rg_word X hl).1 h3
  have hle := wr_le_of (L := L) (m := l) (xs := ptsAt X pl) (ys := ys) (pl := pl) (by omega) hpl fun i hi => hw i (by omega)
  refine .inl ⟨h1, h2, by omega, fun hc => ?_⟩
  refine sorted_ext ?_ (wrong_sorted hok) fun x => ?_
  ·have hnw : wl.Nodup := hs.nodup_iff.2 (hok.2.sublist (zer_sub _ _ _))
   exact (hs2.and hnw).imp fun {a b} h => by have := h.1; have := h.2; omega
  ·have hsub : ∀ x ∈ wrong X l pl ys, x ∈ zer L (ptsAt X pl) pl := fun x hx => by
    obtain ⟨i, hi, rfl, hne⟩ := (mem_wrong hok).1 hx
    refine (mem_zer hpl).2 ⟨i, hi, rfl, ?_⟩
    rcases Classical.em (eval L (coef (ptsAt X pl) i) = 0) with h | h
    ·exact h
    ·exact absurd (hw i hi h) hne
   rw [hs.mem_iff]
   refine ⟨fun hx => len_same ((wrong_sorted hok).imp fun {a b} h => by omega) hsub ?_ x hx, hsub x⟩
   rw [wrong_length hok hl, hc]
   exact hz
 ·refine .inr ⟨by omega, fun m hm hw => ?_⟩
  refine h3 m hm ((rg_word X hl).2 fun i hi hne => ?_)
  have := hL.2.2 m hm hw i (by omega)
  rcases Classical.em (eval m (coef (ptsAt X pl) i) = coef ys i) with h | h
  ·exact h
  ·exact absurd (this.2 h) hne
theorem msg_none {X ys l : List F8} {k count : Nat} {pl : List Int} {z : Int} {wl : List Int} (hz : z ≠ 0) (h : ∀ m : List F8, m.length = k → wr m (ptsAt X pl) ys ≠ count) : MsgIs X k pl ys count l wl z := .inr ⟨hz, h⟩
theorem wis_found {X ys m : List F8} {k count : Nat} {pl : List Int} {t : Int} {wl : List Int} (ha : (pl.length = ys.length ∧ OkP X.length pl) ∧ 0 ≤ t) (hk : k + 2 * t ≤ (pl.length : Int)) (hc : (count : Int) ≤ t) (hlow : ∀ m : List F8, m.length = k → count ≤ wr m (ptsAt X pl) ys) (h : MsgIs X k pl ys count m wl 0) : WIs X k pl ys t m wl 0 := by
 rcases h with ⟨_, h1, h2, h3⟩ | ⟨h, _⟩
 ·have := hlow m h1
  exact .inr (.inr (.inl ⟨ha, hk, rfl, h1, by omega, h3 (by omega)⟩))
 ·exact absurd rfl h
theorem low_succ {X ys m : List F8} {k count : Nat} {pl : List Int} {z : Int} {wl : List Int} (hz : z ≠ 0) (hlow : ∀ m : List F8, m.length = k → count ≤ wr m (ptsAt X pl) ys) (h : MsgIs X k pl ys count m wl z) : ∀ m : List F8, m.length = k → count + 1 ≤ wr m (ptsAt X pl) ys := by
 rcases h with ⟨h, _⟩ | ⟨_, h⟩
 ·exact absurd h hz
 ·intro m hm
  have := hlow m hm
  have := h m hm
  omega
theorem wis_lost' {X ys : List F8} {k T : Nat} {pl : List Int} (ha : (pl.length = ys.length ∧ OkP X.length pl) ∧ 0 ≤ (T : Int)) (hk : k + 2 * (T : Int) ≤ (pl.length : Int)) (hlow : ∀ m : List F8, m.length = k → T + 1 ≤ wr m (ptsAt X pl) ys) : WIs X k pl ys T [] [] 80 :=
 .inr (.inr (.inr ⟨ha, hk, rfl, rfl, rfl, fun m hm => by have := hlow m hm; omega⟩))
end Go.Proofs.YtofihklinkpbiaaGreat.Wl

namespace Go.Proofs.YtofihklinkpbiaaGreat.Wl
open Go.RowKit Go.Shelf F8 Poly GF Rd
attribute [local go_sem] Oper.semAt_some
structure Sym where
 s : Nat
 b : Nat
 g : Nat
 A : Option Addr
 xs : List F8
 n : Nat
 c : Nat
 k : Nat
 P : Option Addr
 pl : List Int
 m : Nat
 d : Nat
 X : Option Addr
 c1 : Nat
 Y : Option Addr
 ys : List F8
 e : Nat
 B0 : Nat
def Sym.cs (S : Sym) (T N : Value) : Array Value := #[.pointer (some ⟨S.b, 0, none⟩), .slice S.P S.m S.d, .slice S.X S.m S.c1, .slice S.Y S.m S.e, T, N]
def Sym.pts (S : Sym) : List F8 := ptsAt S.xs S.pl
structure Sym.Ok (S : Sym) : Prop where
 sb : S.s ≠ S.b
 sg : S.s ≠ S.g
 sB : S.B0 ≤ S.s
 gB : S.g < S.B0
 ml : S.pl.length = S.m
 yl : S.ys.length = S.m
 m2 : S.m ≤ 900
 ok : OkP S.xs.length S.pl
 mc : S.m ≤ S.c1
 me : S.m ≤ S.e
 nd : S.pts.Nodup
 fx : ∀ a, S.X = some a → a.block ≠ S.g ∧ a.block ≠ S.s
 fy : ∀ a, S.Y = some a → a.block ≠ S.g ∧ a.block ≠ S.s
 fp : ∀ a, S.P = some a → a.block ≠ S.g ∧ a.block ≠ S.s
 fa : ∀ a, S.A = some a → a.block ≠ S.s
theorem Sym.Ok.pl_ {S : Sym} (h : S.Ok) : S.pts.length = S.m := by unfold Sym.pts; rw [ptsAt_length, h.ml]
structure Sym.At (S : Sym) (T N : Value) (w : World) : Prop where
 blk : Block w S.s 177 (S.cs T N)
 cd : Cd w S.b S.g S.A S.xs S.n S.c S.k
 row : Row w S.P (zs S.pl)
 bx : Bytes w S.X (bs S.pts)
 by_ : Bytes w S.Y (bs S.ys)
theorem row_past {B g : Nat} {W W' : World} {P : Option Addr} {xs : List Value} (h : Row W P xs) (hp : Past B g W W') (hB : W.heap.size ≤ B) (hf : ∀ a, P = some a → a.block ≠ g) : Row W' P xs := fun k u hk => by
 obtain ⟨b, off, rfl, hc⟩ := h k u hk
 refine ⟨b, off, rfl, ?_⟩
 have hlt : b < W.heap.size := cell_lt hc
 have hb := hp.block b (by omega) (hf _ rfl)
 simp only [World.cell?] at hc ⊢
 rw [hb]
 exact hc
theorem bytes_past {B g : Nat} {W W' : World} {P : Option Addr} {p : List F8} (h : Bytes W P (bs p)) (hp : Past B g W W') (hB : W.heap.size ≤ B) (hf : ∀ a, P = some a → a.block ≠ g) : Bytes W' P (bs p) := ⟨row_past h.row hp hB hf, bs_lt p⟩
section
variable {S : Sym} {T N : Value} {w w' : World}
theorem Sym.At.past (h : S.At T N w) (ok : S.Ok) (hf : FldP w' (some ⟨S.g, 0, none⟩)) (hp : Past w.heap.size S.g w w') : S.At T N w' :=
 ⟨h.blk.past hp h.blk.lt ok.sg, h.cd.past hf hp, row_past h.row hp (Nat.le_refl _) fun a ha => (ok.fp a ha).1, bytes_past h.bx hp (Nat.le_refl _) fun a ha => (ok.fx a ha).1, bytes_past h.by_ hp (Nat.le_refl _) fun a ha => (ok.fy a ha).1⟩
theorem Sym.At.below (h : S.At T N w) (hb : Below w.heap.size w w') : S.At T N w' :=
 ⟨h.blk.below hb h.blk.lt, h.cd.below hb, h.row.below hb, h.bx.below hb, h.by_.below hb⟩
theorem Sym.At.turn (h : S.At T N w) (ok : S.Ok) {T' N' : Value} (hb : Block w' S.s 177 (S.cs T' N')) (hp : Past w.heap.size S.s w w') : S.At T' N' w' :=
 ⟨hb, h.cd.turn hp (Nat.le_refl _) ok.sb.symm ok.sg.symm ok.fa, row_past h.row hp (Nat.le_refl _) fun a ha => (ok.fp a ha).2, bytes_past h.bx hp (Nat.le_refl _) fun a ha => (ok.fx a ha).2, bytes_past h.by_ hp (Nat.le_refl _) fun a ha => (ok.fy a ha).2⟩
theorem Sym.At.put4 (h : S.At T N w) (ok : S.Ok) (v : Value) : S.At v N (w.setCell ⟨S.s, 4, none⟩ v) := h.turn ok (h.blk.set_ 4 v) ((Past.refl _ _ _).setCell (p := ⟨S.s, 4, none⟩) (.inl rfl) v)
theorem Sym.At.put5 (h : S.At T N w) (ok : S.Ok) (v : Value) : S.At T v (w.setCell ⟨S.s, 5, none⟩ v) := h.turn ok (h.blk.set_ 5 v) ((Past.refl _ _ _).setCell (p := ⟨S.s, 5, none⟩) (.inl rfl) v)
theorem Sym.At.farx (_h : S.At T N w) (ok : S.Ok) : Far (some ⟨S.g, 0, none⟩) S.X S.pts := fun _ a g ha hg => by cases hg; exact (ok.fx a ha).1
theorem Sym.At.fary (_h : S.At T N w) (ok : S.Ok) : Far (some ⟨S.g, 0, none⟩) S.Y S.ys := fun _ a g ha hg => by cases hg; exact (ok.fy a ha).1
theorem Sym.At.cells (h : S.At T N w) : w.cell? ⟨S.s, 0, none⟩ = some (.pointer (some ⟨S.b, 0, none⟩)) ∧ w.cell? ⟨S.s, 1, none⟩ = some (.slice S.P S.m S.d) ∧ w.cell? ⟨S.s, 2, none⟩ = some (.slice S.X S.m S.c1) ∧ w.cell? ⟨S.s, 3, none⟩ = some (.slice S.Y S.m S.e) ∧ w.cell? ⟨S.s, 4, none⟩ = some T ∧ w.cell? ⟨S.s, 5, none⟩ = some N :=
 ⟨h.blk.cell 0, h.blk.cell 1, h.blk.cell 2, h.blk.cell 3, h.blk.cell 4, h.blk.cell 5⟩
end
structure Sym.Has (S : Sym) (w : World) (v : Value) (p : List F8) (A : Option Addr) (c : Nat) : Prop where
 v_ : v = .slice A p.length c
 le : p.length ≤ c
 by_ : Bytes w A (bs p)
 far : ∀ a, A = some a → a.block ≠ S.g ∧ a.block ≠ S.s
def Sym.Made (S : Sym) (T N : Value) (w : World) : Prop := ∃ th A c A2 c2, S.Has w T th A c ∧ Thru S.pts S.ys th ∧ S.Has w N (trim (roots S.pts)) A2 c2
def Sym.St (S : Sym) (T N : Value) (w : World) : Prop := (T = .slice none 0 0 ∧ N = .slice none 0 0) ∨ S.Made T N w
section
variable {S : Sym} {T N v : Value} {w w' : World} {p : List F8} {A : Option Addr} {c : Nat}
theorem Sym.Has.past (h : S.Has w v p A c) (hp : Past w.heap.size S.g w w') : S.Has w' v p A c := ⟨h.v_, h.le, bytes_past h.by_ hp (Nat.le_refl _) fun a ha => (h.far a ha).1, h.far⟩
theorem Sym.Has.turn (h : S.Has w v p A c) (hp : Past w.heap.size S.s w w') : S.Has w' v p A c := ⟨h.v_, h.le, bytes_past h.by_ hp (Nat.le_refl _) fun a ha => (h.far a ha).2, h.far⟩
theorem Sym.Has.below (h : S.Has w v p A c) (hp : Below w.heap.size w w') : S.Has w' v p A c := ⟨h.v_, h.le, h.by_.below hp, h.far⟩
theorem Sym.Made.past (h : S.Made T N w) (hp : Past w.heap.size S.g w w') : S.Made T N w' := by
 obtain ⟨th, A, c, A2, c2, h1, h2, h3⟩ := h
 exact ⟨th, A, c, A2, c2, h1.past hp, h2, h3.past hp⟩
theorem Sym.St.past (h : S.St T N w) (hp : Past w.heap.size S.g w w') : S.St T N w' := h.imp id fun h => h.past hp
theorem Sym.has_own {B : Nat} (ok : S.Ok) (h : Own w B 5 (.slice A p.length c) (bv (bs p))) (hc : p.length ≤ c) (hB : S.s < B) : S.Has w (.slice A p.length c) p A c :=
 ⟨rfl, hc, Own.bytes h, fun a ha => by
  subst ha
  have h1 : B ≤ a.block := (h.lt a.block rfl).1
  have := ok.sB
  have := ok.gB
  exact ⟨by omega, by omega⟩⟩
end
def up (p : List F8) (m size : Nat) : List F8 := (full p m).drop size
theorem up_length (p : List F8) (m size : Nat) : (up p m size).length = m - size := by unfold up; rw [List.length_drop, full_length]
theorem coef_up {p : List F8} {m size i : Nat} (hp : p.length ≤ m) : coef (up p m size) i = coef p (size + i) := by
 have h := full_eqv hp (size + i)
 rw [← h]
 unfold up coef
 rw [List.getD_eq_getElem?_getD, List.getD_eq_getElem?_getD, List.getElem?_drop]
def RUp (w : World) (u : List F8) (n : Nat) (e : Ending) (w' : World) : Prop :=
 ∃ A c, e = .returned (.slice A n c) ∧ n ≤ c ∧ Bytes w' A (bs u) ∧ (∀ a, A = some a → w.heap.size ≤ a.block) ∧ Below w.heap.size w w'
set_option maxRecDepth 100000 in
set_option maxHeartbeats 4000000 in
theorem above_calls {S : Sym} {T N : Value} {w : World} (h : S.At T N w) (ok : S.Ok) (size : Nat) (hs : size ≤ S.m) (Q : Option Addr) (p : List F8) (l c : Nat) (hl : p.length = l) (hb : Bytes w Q (bs p)) :
  Calls Tryz.prog 191 #[.pointer (some ⟨S.s, 0, none⟩), .int .i64 size, .slice Q l c] w (RUp w (up p S.m size) (S.m - size)) := by
 obtain ⟨_, _, h2, _, _, _⟩ := h.cells
 have hm2 := ok.m2
 obtain ⟨w1, hmk, hO1, hB1⟩ := make_run w S.m (by omega)
 have hBlk := Own.block hO1
 have HBl := Lib.hid hBlk
 have HB := Lib.hid (hb.below hB1)
 have HL := Lib.hid hl
 have hglt := hBlk.lt
 clear hb hl hO1 hBlk h ok
 go_enter Tryz.func191, Tryz.ntmps191
 go_wp2_with ((with_reducible refine wpList_copy_cut rfl (.tmp 14) (.tmp 15) rfl w.heap.size S.m S.m Q l c rfl rfl _ p HBl.out HL.out HB.out (by simp) ?_); intro w2 q hb2 hp2 _; have hf : p.take S.m ++ (List.replicate S.m (0 : F8)).drop (min l S.m) = full p S.m := (by unfold full; rw [List.drop_replicate, HL.out]; congr 2; omega); rw [hf] at hb2; have hO2 : Own w2 w.heap.size 5 (.slice (some ⟨w.heap.size, 0, none⟩) S.m S.m) (bv (bs (full p S.m))) := Own.of_block hb2 (Nat.le_refl _) (by rw [bvs_length, full_length]) (by simp only [maxLen]; omega); have hFL : (full p S.m).length = S.m := full_length p S.m; obtain ⟨P1, hs1, hp1, hk1⟩ := slice_from (Own.bytes hO2) S.m size (by rw [hFL]; exact hs) (by omega); rw [hFL] at hs1; have HP1 := Lib.hid hp1; have HP2 := Lib.hid hp2; have HK := Lib.hid hk1; clear hb2 hp2 hp1 hf hO2 hk1 hFL)
 go_ret
 exact ⟨P1, S.m - size, rfl, Nat.le_refl _, HP1.out, fun a ha => by obtain ⟨a0, h1, h2⟩ := HK.out a ha; cases h1; rw [← h2]; exact Nat.le_refl _, hB1.trans ((HP2.out.mono hB1.size).below (Nat.le_refl _))⟩
end Go.Proofs.YtofihklinkpbiaaGreat.Wl

namespace Go.Proofs.YtofihklinkpbiaaGreat.Wl
open Go.RowKit Go.Shelf F8 Poly GF Rd
attribute [local go_sem] Oper.semAt_some
set_option maxRecDepth 100000 in
set_option maxHeartbeats 4000000 in
theorem reduced_calls (PS : Poly.Spec) {S : Sym} {T N : Value} {w : World} (h : S.At T N w) (ok : S.Ok) {NA : Option Addr} {nc : Nat} (hN : S.Has w N (trim (roots S.pts)) NA nc) (Q : Option Addr) (p : List F8) (l c : Nat) (hl : p.length = l) (hb : Bytes w Q (bs p)) (hc : l ≤ c) (hl2 : l ≤ 1000) (hfar : Far (some ⟨S.g, 0, none⟩) Q p) :
  Calls Tryz.prog 192 #[.pointer (some ⟨S.s, 0, none⟩), .slice Q l c] w fun e w' => ∃ u v, DivBy p (trim (roots S.pts)) u v ∧ PolyRes (some ⟨S.g, 0, none⟩) w w' e v := by
 have hpl := ok.pl_
 have hm2 := ok.m2
 have hrl : (trim (roots S.pts)).length = S.m + 1 := by rw [trim_length, len_roots, hpl]
 obtain ⟨hv, hle, hby, hfr⟩ := hN
 rw [hrl] at hv hle
 subst hv
 have HT := Lib.hid (PS.divP Q NA p (trim (roots S.pts)) l (S.m + 1) c nc w.drew hl hrl hb.drew hby.drew hc hle hl2 (by omega) (some ⟨S.g, 0, none⟩) h.cd.fld hfar (fun _ a g ha hg => by cases hg; exact (hfr a ha).1) (by rw [len_trim, len_roots]; omega))
 have HC := Lib.hid h.cd.drew
 have HS := Lib.hid (h.below (Below.refl _ w).drew)
 have d0 := HS.out.cells.1
 have d5 := HS.out.cells.2.2.2.2.2
 clear h hl hb hfar hby hfr hrl hpl
 go_enter Tryz.func192, Tryz.ntmps192
 go_wp2_with fail
 go_region_held (fun wz => wz.cell? ⟨S.s, 0, none⟩ = some (.pointer (some ⟨S.b, 0, none⟩)) ∧ wz.cell? ⟨S.s, 5, none⟩ = some (.slice NA (S.m + 1) nc)) (exact ⟨d0, d5⟩)
  ((first
   | (go_at_call 160; (with_reducible refine (field_calls HC.out).mono ?_); rintro e w1 ⟨rfl, rfl⟩)
   | (go_at_call 131; (with_reducible refine HT.out.mono ?_); rintro e w4 ⟨u, v, hd, A4, c4, A5, c5, rfl, hc4, hc5, hO4, hO5, hF4, hP4⟩; have hp4 : Past w.drew.heap.size S.g w.drew w4 := hP4; replace HS := Lib.hid (HS.out.past ok hF4 hp4); have d0 := HS.out.cells.1; have d5 := HS.out.cells.2.2.2.2.2)))
 all_goals
  go_wp2
  go_ret
  exact ⟨u, v, hd, A5, c5, rfl, hc5, hO5, hF4, ((Past.refl w.heap.size S.g w).drew).trans hp4⟩
theorem row2 {w : World} {D : Option Addr} {a b : Value} (h : Row w D [a, b]) : ∃ k o, D = some ⟨k, o, none⟩ ∧ w.cell? ⟨k, o, none⟩ = some a ∧ w.cell? ⟨k, o + 1, none⟩ = some b := by
 obtain ⟨k, o, rfl, h0⟩ := h 0 a rfl
 obtain ⟨k', o', e, h1⟩ := h 1 b rfl
 injection e with e
 injection e with e1 e2
 subst e1 e2
 exact ⟨k, o, rfl, h0, h1⟩
set_option maxRecDepth 100000 in
set_option maxHeartbeats 4000000 in
theorem grow_calls (n : Nat) (h1 : 1 ≤ n) (hn : n ≤ 1000000) (w : World) :
  Calls Tryz.prog 153 #[.slice none 0 0, .int .i64 n] w (ROwn w [] 0) := by
 obtain ⟨v2, w2, hrun, hO2, hg2⟩ := run_app_zeros w 22 w.heap.size _ [] (Own.nil w _ _) n (by omega) (by simp) (Nat.le_refl _)
 have hxl : ([] ++ bv (List.replicate n 0)).length = n := by rw [List.nil_append, bv_length, List.length_replicate]
 have hB : Below w.heap.size w w2 := (Own.nil w w.heap.size 5).grew (Nat.le_refl _) hg2
 rcases hO2.2 with ⟨rfl, h0⟩ | ⟨g, cap, cur, rfl, r0, r1, r2, r3, r4, _⟩
 ·omega
 rw [hxl] at hrun r2
 have HO : Hid (Own w2 w.heap.size 5 (.slice (some ⟨g, 0, none⟩) 0 cap) (bv (bs []))) := Lib.hid ⟨rfl, .inr ⟨g, cap, cur, rfl, r0, r1, Nat.zero_le _, r3, r4, rfl⟩⟩
 clear hO2 r1 r4 hg2 hxl
 go_enter Tryz.func153, Tryz.ntmps153
 go_wp2_with (at_builtin; refine Lib.wpList_append_run _ rfl _ _ _ _ rfl _ _ rfl rfl _ _ hrun ?_)
 go_ret
 exact ⟨_, cap, rfl, Nat.zero_le _, HO.out, hB⟩
set_option maxRecDepth 100000 in
set_option maxHeartbeats 4000000 in
theorem concat_calls (D : Option Addr) (dc : Nat) (A B : Option Addr) (p q : List F8) (m n c d : Nat) (w : World) (hr : Row w D [.slice A m c, .slice B n d]) (hm : p.length = m) (hn : q.length = n) (hb : Bytes w A (bs p)) (hb2 : Bytes w B (bs q)) (h1 : 1 ≤ m) (hm2 : m ≤ 1000) (hn2 : n ≤ 1000) :
  Calls Tryz.prog 111 #[.slice D 2 dc] w (ROwn w (p ++ q) (m + n)) := by
 obtain ⟨k, o, rfl, e0, e1⟩ := row2 hr
 have hklt : k < w.heap.size := cell_lt e0
 have HB := Lib.hid hb
 have HB2 := Lib.hid hb2
 have HM := Lib.hid hm
 have HN := Lib.hid hn
 obtain ⟨N, hN⟩ : ∃ N, m + n = N := ⟨_, rfl⟩
 have HS := Lib.hid hN
 rw [hN]
 have hN1 : 1 ≤ N ∧ N ≤ 2000 := by omega
 clear hb hb2 hr hN
 go_enter Tryz.func111, Tryz.ntmps111
 go_wp2
 go_loopw [3, 11] (fun v i wr => wr = w ∧ ((i = .int .i64 0 ∧ v = .int .i64 0) ∨ (i = .int .i64 1 ∧ v = .int .i64 (m : Nat)) ∨ (i = .int .i64 2 ∧ v = .int .i64 (N : Nat)))) (fun _ i _ => 2 - (intOf i).toNat)
 case atStart => exact ⟨rfl, .inl ⟨rfl, rfl⟩⟩
 case round =>
  obtain ⟨rfl, ⟨rfl, rfl⟩ | ⟨rfl, rfl⟩ | ⟨rfl, rfl⟩⟩ := hrel
  ·go_wp2
   go_roundw
   case rel => exact ⟨by trivial, .inr (.inl ⟨by go_num, by go_num⟩)⟩
   case measure => simp [intOf]
  ·go_wp2
   go_roundw
   case rel => exact ⟨by trivial, .inr (.inr ⟨by go_num, by have := HS.out; congr 1; omega⟩)⟩
   case measure => simp [intOf]
  ·have HG := Lib.hid (grow_calls N (by omega) (by omega) wr)
   go_wp2_with (go_at_call 153; (with_reducible refine HG.out.mono ?_); rintro e w2 ⟨A2, c2, rfl, hc2, hO2, hB2⟩; have HO2 := Lib.hid hO2; have HB3 := Lib.hid hB2; have f0 := (hB2.cell (p := ⟨k, o, none⟩) hklt).trans e0; have f1 := (hB2.cell (p := ⟨k, o + 1, none⟩) hklt).trans e1; clear hO2 hB2 e0 e1)
   go_loopw [6, 27] (fun v i wz => Hid (Below wr.heap.size wr wz) ∧ ((i = .int .i64 0 ∧ Hid (Own wz wr.heap.size 5 v (bv (bs [])))) ∨ (i = .int .i64 1 ∧ Hid (Own wz wr.heap.size 5 v (bv (bs p)))) ∨ (i = .int .i64 2 ∧ Hid (Own wz wr.heap.size 5 v (bv (bs (p ++ q))))))) (fun _ i _ => 2 - (intOf i).toNat)
   case atStart => exact ⟨HB3, .inl ⟨rfl, HO2⟩⟩
   case round =>
    obtain ⟨HZ, ⟨rfl, HO⟩ | ⟨rfl, HO⟩ | ⟨rfl, HO⟩⟩ := hrel
    ·have g0 := (HZ.out.cell (p := ⟨k, o, none⟩) hklt).trans ((HB3.out.cell (p := ⟨k, o, none⟩) hklt).symm.trans f0)
     go_wp2_with (at_builtin; refine wpList_app _ rfl _ _ _ rfl _ 5 _ 1 Tryz.underlying22 info_u8 rfl (by omega) _ _ rfl HO.out A m c (bv (bs p)) rfl (by rw [bvs_length, HM.out]) (HB.out.below HZ.out).row (bv_one _) (by rw [bvs_length]; simp; omega) HZ.out.size ?_; rintro v2 w3 hown hg3 -)
     have HO3 : Hid (Own w3 _ 5 v2 (bv (bs p))) := Lib.hid (by first | exact hown | (rw [bs_append, bv_append]; exact hown))
     have HZ3 := Lib.hid (HZ.out.trans (HO.out.grew HZ.out.size hg3))
     clear hown hg3
     go_roundw
     case rel => exact ⟨HZ3, .inr (.inl ⟨by go_num, HO3⟩)⟩
     case measure => simp [intOf]
    ·have g1 := (HZ.out.cell (p := ⟨k, o + 1, none⟩) hklt).trans ((HB3.out.cell (p := ⟨k, o + 1, none⟩) hklt).symm.trans f1)
     go_wp2_with (at_builtin; refine wpList_app _ rfl _ _ _ rfl _ 5 _ 1 Tryz.underlying22 info_u8 rfl (by omega) _ _ rfl HO.out B n d (bv (bs q)) rfl (by rw [bvs_length, HN.out]) (HB2.out.below HZ.out).row (bv_one _) (by rw [bvs_length]; rw [HM.out]; omega) HZ.out.size ?_; rintro v2 w3 hown hg3 -)
     have HO3 : Hid (Own w3 _ 5 v2 (bv (bs (p ++ q)))) := Lib.hid (by first | exact hown | (rw [bs_append, bv_append]; exact hown))
     have HZ3 := Lib.hid (HZ.out.trans (HO.out.grew HZ.out.size hg3))
     clear hown hg3
     go_roundw
     case rel => exact ⟨HZ3, .inr (.inr ⟨by go_num, HO3⟩)⟩
     case measure => simp [intOf]
    ·obtain ⟨A1, c1, rfl, hc1⟩ := Own.shape HO.out
     have HPL : Hid ((p ++ q).length = N) := Lib.hid (by rw [List.length_append, HM.out, HN.out, HS.out])
     rw [HPL.out] at HO hc1 ⊢
     go_wp2
     go_ret
     exact ⟨A1, c1, rfl, hc1, HO.out, HZ.out⟩
end Go.Proofs.YtofihklinkpbiaaGreat.Wl

namespace Go.Proofs.YtofihklinkpbiaaGreat.Mat
open Go.RowKit F8 Poly
def iv (l : List Nat) : List Value := l.map fun n : Nat => Value.int .i64 (n : Int)
theorem iv_length (l : List Nat) : (iv l).length = l.length := by simp [iv]
theorem iv_get (l : List Nat) (k : Nat) (hk : k < l.length) : (iv l)[k]? = some (.int .i64 (l[k] : Nat)) := by simp [iv, hk]
theorem iv_set (l : List Nat) (k x : Nat) : (iv l).set k (.int .i64 (x : Int)) = iv (l.set k x) := by simp [iv, List.map_set]
theorem info_int : (Tryz.prog.info? 3).map (fun i => (i.zero, i.size, i.bytes)) = some (some (.int .i64 0), 1, 8) := by kernel_rfl
theorem intAt {w : World} {A : Option Addr} {l : List Nat} (h : Row w A (iv l)) (k : Nat) (hk : k < l.length) : ∃ b off, A = some ⟨b, off, none⟩ ∧ w.cell? ⟨b, off + k, none⟩ = some (.int .i64 (l[k] : Nat)) := h k _ (iv_get l k hk)
def RightB (R C : Int) (n : Nat) : Bool := decide (0 ≤ R) && decide (R ≤ 65536) && decide (0 ≤ C) && decide (C ≤ 65536) && decide ((n : Int) = R * C)
theorem rightB_iff {R C : Int} {n : Nat} : RightB R C n = true ↔ ∃ r c : Nat, R = r ∧ C = c ∧ r ≤ 65536 ∧ c ≤ 65536 ∧ n = r * c := by
 unfold RightB
 simp only [Bool.and_eq_true, decide_eq_true_eq]
 constructor
 ·rintro ⟨⟨⟨⟨h1, h2⟩, h3⟩, h4⟩, h5⟩
  obtain ⟨r, rfl⟩ := Int.eq_ofNat_of_zero_le h1
  obtain ⟨c, rfl⟩ := Int.eq_ofNat_of_zero_le h3
  exact ⟨r, c, rfl, rfl, by omega, by omega, by rw [← Int.natCast_mul] at h5; omega⟩
 ·rintro ⟨r, c, rfl, rfl, h1, h2, rfl⟩
  exact ⟨⟨⟨⟨by omega, by omega⟩, by omega⟩, by omega⟩, by simp⟩
theorem mul_bound {r c a b : Nat} (h1 : r ≤ a) (h2 : c ≤ b) : r * c ≤ a * b := Nat.mul_le_mul h1 h2
theorem mul_bound16 {r c : Nat} (h1 : r ≤ 65536) (h2 : c ≤ 65536) : r * c ≤ 4294967296 := mul_bound h1 h2
end Go.Proofs.YtofihklinkpbiaaGreat.Mat
namespace Go.Proofs.YtofihklinkpbiaaGreat.Mat
open Go.RowKit Go.Shelf F8 Poly
theorem area_calls (R C : Int) (h : -9223372036854775808 ≤ R * C ∧ R * C ≤ 9223372036854775807) (w : World) :
  Calls Tryz.prog 92 #[.int .i64 R, .int .i64 C] w fun e w' => e = .returned (.int .i64 (R * C)) ∧ w = w' := by
 have hw : IntKind.i64.wrap (R * C) = R * C := IntWalk.i64_in _ h
 go_enter Tryz.func92, Tryz.ntmps92
 go_wp2
 go_ret
 exact ⟨rfl, rfl⟩
theorem area_nat (r c : Nat) (h : r * c ≤ 9223372036854775807) (w : World) :
  Calls Tryz.prog 92 #[.int .i64 r, .int .i64 c] w fun e w' => e = .returned (.int .i64 (r * c : Nat)) ∧ w = w' := by
 have e : ((r * c : Nat) : Int) = (r : Int) * (c : Int) := Int.natCast_mul r c
 rw [e]
 exact area_calls r c (by rw [← e]; omega) w
def sideB (n : Int) : Bool := decide (0 ≤ n) && decide (n ≤ 65536)
theorem sideB_false {n : Int} (h : n < 0 ∨ 65536 < n) : sideB n = false := by unfold sideB; simp; omega
theorem sideB_iff {n : Int} : sideB n = true ↔ 0 ≤ n ∧ n ≤ 65536 := by unfold sideB; simp
theorem isSide_calls (n : Int) (w : World) :
  Calls Tryz.prog 91 #[.int .i64 n] w fun e w' => e = .returned (.bool (sideB n)) ∧ w = w' := by
 by_cases h0 : 0 ≤ n
 ·by_cases h1 : n ≤ 65536
  ·have HB : Hid (sideB n = true) := Lib.hid (sideB_iff.2 ⟨h0, h1⟩)
   have k1 : decide (n ≤ 65536) = true := by simp; omega
   have k2 : decide (0 ≤ n) = true := by simp; omega
   go_enter Tryz.func91, Tryz.ntmps91
   go_wp2
   go_ret
   exact ⟨by rw [HB.out]; rfl, rfl⟩
  ·have HB : Hid (sideB n = false) := Lib.hid (sideB_false (by omega))
   have k1 : decide (n ≤ 65536) = false := by simp; omega
   have k2 : decide (0 ≤ n) = true := by simp; omega
   go_enter Tryz.func91, Tryz.ntmps91
   go_wp2
   go_ret
   exact ⟨by rw [HB.out]; rfl, rfl⟩
 ·have HB : Hid (sideB n = false) := Lib.hid (sideB_false (by omega))
  have k2 : decide (0 ≤ n) = false := by simp; omega
  go_enter Tryz.func91, Tryz.ntmps91
  go_wp2
  go_ret
  exact ⟨by rw [HB.out]; rfl, rfl⟩
theorem rightB_false1 {R C : Int} {n : Nat} (h : R < 0 ∨ 65536 < R) : RightB R C n = false := by
 rw [Bool.eq_false_iff]; intro e
 obtain ⟨r, c, rfl, rfl, h1, h2, _⟩ := rightB_iff.1 e; omega
theorem rightB_false2 {R C : Int} {n : Nat} (h : C < 0 ∨ 65536 < C) : RightB R C n = false := by
 rw [Bool.eq_false_iff]; intro e
 obtain ⟨r, c, rfl, rfl, h1, h2, _⟩ := rightB_iff.1 e; omega
theorem rightB_area {r c n : Nat} (h1 : r ≤ 65536) (h2 : c ≤ 65536) : RightB r c n = ((n : Int) == ((r * c : Nat) : Int)) := by
 rw [Bool.eq_iff_iff, rightB_iff, beq_iff_eq]
 constructor
 ·rintro ⟨r', c', e1, e2, _, _, rfl⟩
  obtain rfl : r = r' := by omega
  obtain rfl : c = c' := by omega
  rfl
 ·intro e; exact ⟨r, c, rfl, rfl, h1, h2, by omega⟩
set_option maxHeartbeats 1000000 in
theorem right_calls (R C : Int) (A : Option Addr) (n cap : Nat) (w : World) :
  Calls Tryz.prog 140 #[.agg #[.int .i64 R, .int .i64 C, .slice A n cap]] w fun e w' => e = .returned (.bool (RightB R C n)) ∧ Below w.heap.size w w' := by
 by_cases hR : R < 0 ∨ 65536 < R
 ·have s1 : ∀ w, Calls Tryz.prog 91 #[.int .i64 R] w fun e w' => e = .returned (.bool false) ∧ w' = w := fun w => (isSide_calls R w).mono fun _ _ h => ⟨by rw [h.1, sideB_false hR], h.2.symm⟩
  rw [rightB_false1 hR]
  clear hR
  go_enter Tryz.func140, Tryz.ntmps140
  go_wp2
  go_quiet ((go_at_call 91; (with_reducible exact Calls.quiet_of_same (s1 _))))
  go_wp2
  go_ret
  exact ⟨rfl, Below.drewN' ((Below.refl _ _).alloc (Nat.le_refl _) _) _⟩
 have s1 : ∀ w, Calls Tryz.prog 91 #[.int .i64 R] w fun e w' => e = .returned (.bool true) ∧ w' = w := fun w => (isSide_calls R w).mono fun _ _ h => ⟨by rw [h.1, sideB_iff.2 (by omega)], h.2.symm⟩
 by_cases hC : C < 0 ∨ 65536 < C
 ·have s2 : ∀ w, Calls Tryz.prog 91 #[.int .i64 C] w fun e w' => e = .returned (.bool false) ∧ w' = w := fun w => (isSide_calls C w).mono fun _ _ h => ⟨by rw [h.1, sideB_false hC], h.2.symm⟩
  rw [rightB_false2 hC]
  clear hC hR
  go_enter Tryz.func140, Tryz.ntmps140
  go_wp2
  go_quiet ((go_at_call 91; first | (with_reducible exact Calls.quiet_of_same (s1 _)) | (with_reducible exact Calls.quiet_of_same (s2 _))))
  go_wp2
  go_ret
  exact ⟨rfl, Below.drewN' ((Below.refl _ _).alloc (Nat.le_refl _) _) _⟩
 have s2 : ∀ w, Calls Tryz.prog 91 #[.int .i64 C] w fun e w' => e = .returned (.bool true) ∧ w' = w := fun w => (isSide_calls C w).mono fun _ _ h => ⟨by rw [h.1, sideB_iff.2 (by omega)], h.2.symm⟩
 obtain ⟨x, hx⟩ : ∃ x : Int, R * C = x := ⟨_, rfl⟩
 have HX : Hid (RightB R C n = ((n : Int) == x)) := by
  obtain ⟨r, rfl⟩ : ∃ r : Nat, R = r := ⟨R.toNat, by omega⟩
  obtain ⟨c, rfl⟩ : ∃ c : Nat, C = c := ⟨C.toNat, by omega⟩
  exact Lib.hid (by rw [rightB_area (by omega) (by omega), ← hx, Int.natCast_mul])
 have ha : ∀ w, Calls Tryz.prog 92 #[.int .i64 R, .int .i64 C] w fun e w' => e = .returned (.int .i64 x) ∧ w' = w := fun w => by
  rw [← hx]
  refine (area_calls R C ?_ w).mono fun _ _ h => ⟨h.1, h.2.symm⟩
  obtain ⟨r, rfl⟩ : ∃ r : Nat, R = r := ⟨R.toNat, by omega⟩
  obtain ⟨c, rfl⟩ : ∃ c : Nat, C = c := ⟨C.toNat, by omega⟩
  rw [← Int.natCast_mul]
  have := mul_bound16 (show r ≤ 65536 by omega) (show c ≤ 65536 by omega)
  omega
 clear hx hR hC
 go_enter Tryz.func140, Tryz.ntmps140
 go_wp2
 go_quiet ((first | (go_at_call 91; first | (with_reducible exact Calls.quiet_of_same (s1 _)) | (with_reducible exact Calls.quiet_of_same (s2 _))) | (go_at_call 92; (with_reducible exact Calls.quiet_of_same (ha _)))))
 go_wp2
 go_ret
 exact ⟨by rw [HX.out]; rfl, Below.drewN' ((Below.refl _ _).alloc (Nat.le_refl _) _) _⟩
def rowA (A : Option Addr) (o c : Nat) : Option Addr := if c = 0 then A else A.map (·.add (o * 1))
theorem rowA_some (b off o c : Nat) (hc : 0 < c) : rowA (some ⟨b, off, none⟩) o c = some ⟨b, off + o, none⟩ := by
 unfold rowA; rw [if_neg (by omega), Nat.mul_one]; simp only [Option.map_some, addr_add]
def rowL (s : List F8) (c i : Nat) : List F8 := (s.drop (i * c)).take c
theorem rowL_length {s : List F8} {c i : Nat} (h : (i + 1) * c ≤ s.length) : (rowL s c i).length = c := by
 rw [Nat.succ_mul] at h
 simp only [rowL, List.length_take, List.length_drop]; omega
theorem coef_rowL {s : List F8} {c i j : Nat} (hj : j < c) : coef (rowL s c i) j = ent s c i j := by
 unfold rowL ent coef
 rw [List.getD_eq_getElem?_getD, List.getD_eq_getElem?_getD, List.getElem?_take, if_pos hj, List.getElem?_drop]
theorem rowA_bytes {w : World} {A : Option Addr} {s : List F8} {c i : Nat} (h : Bytes w A (bs s)) : Bytes w (rowA A (i * c) c) (bs (rowL s c i)) := by
 by_cases hc : c = 0
 ·subst hc
  have : rowL s 0 i = [] := by simp [rowL]
  rw [this]; exact Bytes.nil _ _
 ·by_cases hs : s.length = 0
  ·have e : s = [] := List.length_eq_zero_iff.1 hs
   subst e
   simp only [rowL, List.drop_nil, List.take_nil]; exact Bytes.nil _ _
  ·obtain ⟨b, off, rfl⟩ := where_ h (by omega)
   rw [rowA_some _ _ _ _ (by omega)]
   exact bytes_take (bytes_drop h _) _
theorem slice3_run (A : Option Addr) (N cap lo hi c : Nat) (h1 : lo + c = hi) (h2 : hi ≤ cap) (w : World) :
  (Instr.slice 22 (.slice A N cap) (some (.int .i64 (lo : Nat))) (some (.int .i64 (hi : Nat))) (some (.int .i64 (hi : Nat)))).run Tryz.prog w = .ok (.slice (rowA A lo c) c c) w := by
 obtain ⟨i, hi', _, hi2, _⟩ := info_parts info_u8
 have h3 : lo ≤ hi := by omega
 have e : hi - lo = c := by omega
 have e2 : (hi = lo) = (c = 0) := by rw [eq_iff_iff]; omega
 simp [Instr.slice, Instr.sliceBounds, Instr.sliceBound, run_underlying Tryz.underlying22, asIntOf, sizeOf, typeInfo, Sem.run_bind, hi', hi2, h2, h3, e, e2, rowA]
set_option maxHeartbeats 1000000 in
theorem rowAt_calls (R : Int) (A : Option Addr) (N cap i c : Nat) (hN : N ≤ 140737488355328) (hi : (i + 1) * c ≤ N) (hc : N ≤ cap) (hc16 : c ≤ 1000000) (hi16 : i ≤ 65536) (w : World) :
  Calls Tryz.prog 142 #[.agg #[.int .i64 R, .int .i64 c, .slice A N cap], .int .i64 i] w fun e w' => e = .returned (.slice (rowA A (i * c) c) c c) ∧ ∃ n, w' = (w.alloc (.cells #[.int .i64 R, .int .i64 c, .slice A N cap] 74)).drewN n := by
 have hs := slice3_run A N cap (i * c) ((i + 1) * c) c (by rw [Nat.succ_mul]) (by omega)
 have h1 : IntKind.i64.wrap ((i : Int) * c) = ((i * c : Nat) : Int) := by rw [Int.natCast_mul]; exact IntWalk.i64_in _ (by rw [← Int.natCast_mul]; have := mul_bound hi16 hc16; omega)
 have h2 : IntKind.i64.wrap (((i : Int) + 1) * c) = (((i + 1) * c : Nat) : Int) := by
  have e : ((i : Int) + 1) * c = (((i + 1) * c : Nat) : Int) := by rw [Int.natCast_mul]; rfl
  rw [e]; exact IntWalk.i64_in _ (by omega)
 have h3 : IntKind.i64.wrap ((i : Int) + 1) = (i : Int) + 1 := IntWalk.i64_in _ (by omega)
 obtain ⟨x, hx⟩ : ∃ x, i * c = x := ⟨_, rfl⟩
 obtain ⟨y, hy⟩ : ∃ y, (i + 1) * c = y := ⟨_, rfl⟩
 rw [hx] at h1 hs ⊢
 rw [hy] at h2 hs
 clear hx hy hi
 go_enter Tryz.func142, Tryz.ntmps142
 go_wp2
 go_quiet (fail)
 go_wp2
 go_ret
 exact ⟨rfl, _, rfl⟩
end Go.Proofs.YtofihklinkpbiaaGreat.Mat
