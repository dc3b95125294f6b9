/- Of the program, joined: RdMath2, WlMath, WlMath2, MatMath. -/
import Derived.Test.YtjoghbmedfmioaaGreatPb04
import Derived.Test.YtjoghbmedfmioaaGreatPb03
namespace Go.Proofs.YtjoghbmedfmioaaGreat.Wl
open F8 Poly Rd
def wr (m xs ys : List F8) : Nat := ((xs.zip ys).filter fun p => decide (eval m p.1 ≠ p.2)).length
theorem wr_cons (m : List F8) (x y : F8) (xs ys : List F8) : wr m (x :: xs) (y :: ys) = (if eval m x ≠ y then 1 else 0) + wr m xs ys := by
 by_cases h : eval m x = y <;> simp [wr, h, Nat.add_comm]
theorem wr_zero {m : List F8} : ∀ {xs ys : List F8}, xs.length = ys.length → (wr m xs ys = 0 ↔ word m xs = ys)
 | [], [], _ => by simp [wr, word]
 | x :: xs, y :: ys, h => by
  have ih := wr_zero (m := m) (xs := xs) (ys := ys) (by simpa using h)
  rw [wr_cons]
  by_cases e : eval m x = y
  ·rw [if_neg (by simpa using e), Nat.zero_add, ih]; simp [word, e]
  ·rw [if_pos (by simpa using e)]
   simp [word, e]
 | [], _ :: _, h => by simp at h
 | _ :: _, [], h => by simp at h
theorem both {m m' : List F8} : ∀ {xs ys : List F8}, xs.length = ys.length → xs.length ≤ wr m xs ys + wr m' xs ys + alike m m' xs
 | [], [], _ => by simp
 | x :: xs, y :: ys, h => by
  have ih := both (m := m) (m' := m') (xs := xs) (ys := ys) (by simpa using h)
  rw [wr_cons, wr_cons]
  have ha : alike m m' (x :: xs) = (if eval m x = eval m' x then 1 else 0) + alike m m' xs := by
   by_cases e : eval m x = eval m' x <;> simp [alike, e, Nat.add_comm]
  rw [ha, List.length_cons]
  by_cases e1 : eval m x = y
  ·by_cases e2 : eval m' x = y
   ·rw [if_pos (e1.trans e2.symm)]; split <;> split <;> omega
   ·rw [if_pos (c := eval m' x ≠ y) e2]; split <;> split <;> omega
  ·rw [if_pos (c := eval m x ≠ y) e1]; split <;> split <;> omega
 | [], _ :: _, h => by simp at h
 | _ :: _, [], h => by simp at h
theorem wr_only {m m' xs ys : List F8} {k t : Nat} (hm : m.length = k) (hm' : m'.length = k) (hn : xs.Nodup) (hl : xs.length = ys.length) (hk : k + 2 * t ≤ xs.length) (h : wr m xs ys ≤ t) (h' : wr m' xs ys ≤ t) : m = m' := by
 rcases Classical.em (m = m') with e | e
 ·exact e
 ·have h1 := both (m := m) (m' := m') hl
  have h2 := alike_lt hm hm' hn e
  omega
theorem bw {m xs ys Q E : List F8} {k e d : Nat} (hm : m.length = k) (hn : xs.Nodup) (hl : xs.length = ys.length) (hd : wr m xs ys ≤ d) (hk : k + e + d ≤ xs.length) (hQ : Bdd Q (k + e)) (hE : Bdd E (e + 1)) (h : ∀ i, i < xs.length → eval Q (coef xs i) = coef ys i * eval E (coef xs i)) : Eqv Q (pmul m E) := by
 obtain ⟨zs, hz1, hz2, hz3⟩ : ∃ zs : List F8, zs.Nodup ∧ xs.length ≤ zs.length + d ∧ ∀ x ∈ zs, ∃ i, i < xs.length ∧ x = coef xs i ∧ eval m x = coef ys i := by
  have hgen : ∀ (us vs : List F8), us.length = vs.length → us.length ≤ ((us.zip vs).filter fun p => decide (eval m p.1 = p.2)).length + wr m us vs := by
   intro us
   induction us with
   | nil => intro vs _; simp
   | cons u us ih =>
    intro vs hv
    cases vs with
    | nil => simp at hv
    | cons v vs =>
     have := ih vs (by simpa using hv)
     rw [wr_cons]
     by_cases e : eval m u = v <;> simp [e] <;> omega
  refine ⟨((xs.zip ys).filter fun p => decide (eval m p.1 = p.2)).map Prod.fst, ?_, ?_, ?_⟩
  ·have h1 : ((xs.zip ys).map Prod.fst).Nodup := by rw [List.map_fst_zip (by omega)]; exact hn
   exact h1.sublist (List.filter_sublist.map _)
  ·rw [List.length_map]
   have := hgen xs ys hl
   omega
  ·intro x hx
   obtain ⟨⟨a, b⟩, hp, rfl⟩ := List.mem_map.1 hx
   obtain ⟨hp1, hp2⟩ := List.mem_filter.1 hp
   obtain ⟨i, hi, he⟩ := List.mem_iff_getElem.1 hp1
   rw [List.length_zip] at hi
   rw [List.getElem_zip] at he
   injection he with he1 he2
   have hp3 : eval m a = b := by simpa using hp2
   refine ⟨i, by omega, ?_, ?_⟩
   ·rw [coef_of_lt (by omega)]; exact he1.symm
   ·rw [coef_of_lt (by omega)]; exact hp3.trans he2.symm
 have hb : Bdd (pmul m E) (k + e) := fun i hi => bdd_pmul (hm ▸ bdd_length m) hE i (by omega)
 refine Poly.only (n := k + e) (xs := zs) hQ hb (by omega) hz1 fun x hx => ?_
 obtain ⟨i, hi, rfl, he⟩ := hz3 x hx
 rw [h i hi, eval_pmul, he]
def wrong (xs : List F8) (m : List F8) (pl : List Int) (ys : List F8) : List Int :=
 (List.range xs.length).flatMap fun p : Nat => ((List.range pl.length).filter fun i => decide (pl.getD i 0 = (p : Int) ∧ eval m (coef xs p) ≠ coef ys i)).map fun _ => (p : Int)
theorem sum_filter (l : List Nat) (P : Nat → Bool) : (l.filter P).length = (l.map fun x => if P x then 1 else 0).sum := by
 induction l with
 | nil => rfl
 | cons x l ih => by_cases h : P x <;> simp [h, ih, Nat.add_comm]
theorem sum_zero (l : List Nat) (f : Nat → Nat) (h : ∀ x ∈ l, f x = 0) : (l.map f).sum = 0 := by
 induction l with
 | nil => rfl
 | cons x l ih => simp [h x (by simp), ih (fun y hy => h y (by simp [hy]))]
theorem sum_add (l : List Nat) (f g : Nat → Nat) : (l.map fun x => f x + g x).sum = (l.map f).sum + (l.map g).sum := by
 induction l with
 | nil => rfl
 | cons x l ih => simp [ih]; omega
theorem sum_swap (l r : List Nat) (f : Nat → Nat → Nat) : (l.map fun x => (r.map (f x)).sum).sum = (r.map fun y => (l.map fun x => f x y).sum).sum := by
 induction l with
 | nil => simp [sum_zero]
 | cons x l ih => simp only [List.map_cons, List.sum_cons]; rw [ih, sum_add]
theorem sum_one {n q : Nat} (hq : q < n) (b : Nat) : ((List.range n).map fun p => if p = q then b else 0).sum = b := by
 induction n with
 | zero => omega
 | succ n ih =>
  rw [List.range_succ, List.map_append, List.sum_append]
  by_cases e : q = n
  ·subst e
   rw [sum_zero _ _ (fun x hx => by rw [if_neg]; have := List.mem_range.1 hx; omega)]
   simp
  ·rw [ih (by omega)]
   simp
   omega
theorem wrong_length {xs m ys : List F8} {pl : List Int} (hok : OkP xs.length pl) (hl : pl.length = ys.length) : (wrong xs m pl ys).length = wr m (ptsAt xs pl) ys := by
 unfold wrong
 rw [List.length_flatMap]
 have e1 : ((List.range xs.length).map fun p : Nat => (((List.range pl.length).filter fun i => decide (pl.getD i 0 = (p : Int) ∧ eval m (coef xs p) ≠ coef ys i)).map fun _ => (p : Int)).length) =
   (List.range xs.length).map fun p : Nat => ((List.range pl.length).map fun i => if pl.getD i 0 = (p : Int) ∧ eval m (coef xs p) ≠ coef ys i then 1 else 0).sum := by
  refine List.map_congr_left fun p _ => ?_
  rw [List.length_map, sum_filter]
  simp
 rw [e1, sum_swap]
 have e2 : ∀ i ∈ List.range pl.length, ((List.range xs.length).map fun p : Nat => if pl.getD i 0 = (p : Int) ∧ eval m (coef xs p) ≠ coef ys i then 1 else 0).sum = if eval m (coef (ptsAt xs pl) i) ≠ coef ys i then 1 else 0 := by
  intro i hi
  have hi := List.mem_range.1 hi
  have hg : pl.getD i 0 = pl[i] := by simp [List.getD_eq_getElem?_getD, hi]
  have hb := hok.1 pl[i] (List.getElem_mem hi)
  obtain ⟨q, hq⟩ : ∃ q : Nat, pl[i] = (q : Int) := ⟨pl[i].toNat, by omega⟩
  have hpt : coef (ptsAt xs pl) i = coef xs q := by
   rw [coef_of_lt (by rw [ptsAt_length]; exact hi)]
   simp [ptsAt, hq]
  rw [hpt, ← sum_one (n := xs.length) (q := q) (by omega) (if eval m (coef xs q) ≠ coef ys i then 1 else 0)]
  congr 1
  refine List.map_congr_left fun p _ => ?_
  rw [hg, hq]
  by_cases e : p = q
  ·subst e; simp
  ·have : ¬ ((q : Int) = (p : Int)) := by omega
   simp [e, this]
 rw [List.map_congr_left e2]
 have hgen : ∀ (us vs : List F8), us.length = vs.length → ((List.range us.length).map fun i => if eval m (coef us i) ≠ coef vs i then 1 else 0).sum = wr m us vs := by
  intro us
  induction us with
  | nil => intro vs _; simp [wr]
  | cons u us ih =>
   intro vs hv
   cases vs with
   | nil => simp at hv
   | cons v vs =>
    rw [wr_cons, ← ih vs (by simpa using hv), List.length_cons, List.range_succ_eq_map]
    simp only [List.map_cons, List.map_map, List.sum_cons, coef_cons_zero]
    congr 1
 have := hgen (ptsAt xs pl) ys (by rw [ptsAt_length, hl])
 rw [ptsAt_length] at this
 exact this
def WIs (xs : List F8) (k : Nat) (pl : List Int) (ys : List F8) (t : Int) (m : List F8) (wl : List Int) (z : Int) : Prop :=
 (¬ ((pl.length = ys.length ∧ OkP xs.length pl) ∧ 0 ≤ t) ∧ m = [] ∧ wl = [] ∧ z = 2) ∨
 (((pl.length = ys.length ∧ OkP xs.length pl) ∧ 0 ≤ t) ∧ (pl.length : Int) < k + 2 * t ∧ m = [] ∧ wl = [] ∧ z = 70) ∨
 (((pl.length = ys.length ∧ OkP xs.length pl) ∧ 0 ≤ t) ∧ k + 2 * t ≤ (pl.length : Int) ∧ z = 0 ∧ m.length = k ∧ (wr m (ptsAt xs pl) ys : Int) ≤ t ∧ wl = wrong xs m pl ys) ∨
 (((pl.length = ys.length ∧ OkP xs.length pl) ∧ 0 ≤ t) ∧ k + 2 * t ≤ (pl.length : Int) ∧ z = 80 ∧ m = [] ∧ wl = [] ∧ ∀ m' : List F8, m'.length = k → t < (wr m' (ptsAt xs pl) ys : Int))
theorem WIs.only {xs : List F8} {k : Nat} {pl : List Int} {ys m m' : List F8} {t z z' : Int} {wl wl' : List Int} (hn : xs.Nodup) (h : WIs xs k pl ys t m wl z) (h' : WIs xs k pl ys t m' wl' z') : m = m' ∧ wl = wl' ∧ z = z' := by
  rcases h with ⟨a, h1, h2, h3⟩ | ⟨a, b, h1, h2, h3⟩ | ⟨a, b, h1, h2, h3, h4⟩ | ⟨a, b, h1, h2, h3, h4⟩ <;>
  rcases h' with ⟨a', h1', h2', h3'⟩ | ⟨a', b', h1', h2', h3'⟩ | ⟨a', b', h1', h2', h3', h4'⟩ | ⟨a', b', h1', h2', h3', h4'⟩ <;>
  first
    | exact absurd a' a
    | exact absurd a a'
    | exact absurd b (by omega)
    | exact absurd b' (by omega)
    | exact ⟨h1.trans h1'.symm, h2.trans h2'.symm, h3.trans h3'.symm⟩
    | exact ⟨h2.trans h2'.symm, h3.trans h3'.symm, h1.trans h1'.symm⟩
    | exact absurd h3 (by have := h4' m h2; omega)
    | exact absurd h3' (by have := h4 m' h2'; omega)
    | (have hm : m = m' := by
        obtain ⟨T, rfl⟩ : ∃ T : Nat, t = (T : Int) := ⟨t.toNat, by omega⟩
        exact wr_only (xs := ptsAt xs pl) (ys := ys) (k := k) (t := T) h2 h2' (ptsAt_nodup hn a.1.2) (by rw [ptsAt_length]; exact a.1.1) (by rw [ptsAt_length]; omega) (by omega) (by omega)
       subst hm
       exact ⟨rfl, h4.trans h4'.symm, h1.trans h1'.symm⟩)
end Go.Proofs.YtjoghbmedfmioaaGreat.Wl

namespace Go.Proofs.YtjoghbmedfmioaaGreat.Wl
open F8 Poly Rd
theorem sorted_ext : ∀ {l r : List Int}, l.Pairwise (· < ·) → r.Pairwise (· < ·) → (∀ x, x ∈ l ↔ x ∈ r) → l = r
 | [], [], _, _, _ => rfl
 | [], y :: r, _, _, h => by have := (h y).2 (by simp); simp at this
 | x :: l, [], _, _, h => by have := (h x).1 (by simp); simp at this
 | x :: l, y :: r, h1, h2, h => by
  obtain ⟨a1, a2⟩ := List.pairwise_cons.1 h1
  obtain ⟨b1, b2⟩ := List.pairwise_cons.1 h2
  have hxy : x = y := by
   rcases List.mem_cons.1 ((h x).1 (by simp)) with e | e
   ·exact e
   ·rcases List.mem_cons.1 ((h y).2 (by simp)) with e2 | e2
    ·exact e2.symm
    ·have := b1 x e; have := a1 y e2; omega
  subst hxy
  rw [sorted_ext a2 b2 fun z => ?_]
  have hz := h z
  simp only [List.mem_cons] at hz
  constructor
  ·intro hzl
   have := a1 z hzl
   rcases hz.1 (.inr hzl) with e | e
   ·omega
   ·exact e
  ·intro hzr
   have := b1 z hzr
   rcases hz.2 (.inr hzr) with e | e
   ·omega
   ·exact e
theorem mem_wrong {xs m ys : List F8} {pl : List Int} {z : Int} (hok : OkP xs.length pl) : z ∈ wrong xs m pl ys ↔ ∃ i, i < pl.length ∧ pl.getD i 0 = z ∧ eval m (coef (ptsAt xs pl) i) ≠ coef ys i := by
 have hpt : ∀ i, i < pl.length → ∃ q : Nat, q < xs.length ∧ pl.getD i 0 = (q : Int) ∧ coef (ptsAt xs pl) i = coef xs q := by
  intro i hi
  have hg : pl.getD i 0 = pl[i] := by simp [List.getD_eq_getElem?_getD, hi]
  have hb := hok.1 pl[i] (List.getElem_mem hi)
  refine ⟨pl[i].toNat, by omega, by rw [hg]; omega, ?_⟩
  rw [coef_of_lt (by rw [ptsAt_length]; exact hi)]
  simp [ptsAt]
 unfold wrong
 rw [List.mem_flatMap]
 constructor
 ·rintro ⟨p, hp, hz⟩
  obtain ⟨i, hi, rfl⟩ := List.mem_map.1 hz
  obtain ⟨h1, h2⟩ := List.mem_filter.1 hi
  have h1 := List.mem_range.1 h1
  have h2 : pl.getD i 0 = (p : Int) ∧ eval m (coef xs p) ≠ coef ys i := by simpa using h2
  obtain ⟨q, _, hq, he⟩ := hpt i h1
  have hqp : q = p := by have := h2.1; omega
  exact ⟨i, h1, h2.1, by rw [he, hqp]; exact h2.2⟩
 ·rintro ⟨i, hi, rfl, h⟩
  obtain ⟨q, hq1, hq, he⟩ := hpt i hi
  refine ⟨q, List.mem_range.2 hq1, List.mem_map.2 ⟨i, List.mem_filter.2 ⟨List.mem_range.2 hi, ?_⟩, hq.symm⟩⟩
  rw [he] at h
  simpa using ⟨hq, h⟩
theorem filter_one (n : Nat) (P : Nat → Bool) (h : ∀ i j, i < n → j < n → P i = true → P j = true → i = j) : ((List.range n).filter P).length ≤ 1 := by
 induction n with
 | zero => simp
 | succ n ih =>
  rw [List.range_succ, List.filter_append, List.length_append]
  have h1 := ih fun i j hi hj => h i j (by omega) (by omega)
  by_cases e : P n = true
  ·have : (List.range n).filter P = [] := by
    rw [List.filter_eq_nil_iff]
    intro i hi hp
    have hi := List.mem_range.1 hi
    have := h i n (by omega) (by omega) hp e
    omega
   simp [this, e]
  ·simp [e]; exact h1
theorem wrong_sorted {xs m ys : List F8} {pl : List Int} (hok : OkP xs.length pl) : (wrong xs m pl ys).Pairwise (· < ·) := by
 unfold wrong
 rw [List.pairwise_flatMap]
 refine ⟨fun p _ => ?_, ?_⟩
 ·have h1 := filter_one pl.length (fun i => decide (pl.getD i 0 = (p : Int) ∧ eval m (coef xs p) ≠ coef ys i)) fun i j hi hj h1 h2 => by
   have h1 := of_decide_eq_true h1
   have h2 := of_decide_eq_true h2
   have e : pl[i] = pl[j] := by
    have a := h1.1.trans h2.1.symm
    simpa [List.getD_eq_getElem?_getD, hi, hj] using a
   exact (List.getElem_inj hok.2).1 e
  generalize (List.range pl.length).filter (fun i => decide (pl.getD i 0 = (p : Int) ∧ eval m (coef xs p) ≠ coef ys i)) = l at h1
  match l, h1 with
  | [], _ => simp
  | [a], _ => simp
 ·refine List.pairwise_lt_range.imp fun {a b} hab x hx y hy => ?_
  obtain ⟨_, _, rfl⟩ := List.mem_map.1 hx
  obtain ⟨_, _, rfl⟩ := List.mem_map.1 hy
  omega
theorem mem_wrong_zip {xs m ys : List F8} {pl : List Int} {z : Int} (hok : OkP xs.length pl) (hl : pl.length = ys.length) : z ∈ wrong xs m pl ys ↔ ∃ y, (z, y) ∈ pl.zip ys ∧ eval m (coef xs z.toNat) ≠ y := by
 rw [mem_wrong hok]
 constructor
 ·rintro ⟨i, hi, rfl, h⟩
  refine ⟨coef ys i, List.mem_iff_getElem.2 ⟨i, by rw [List.length_zip]; omega, ?_⟩, ?_⟩
  ·rw [List.getElem_zip, coef_of_lt (by omega)]
   simp [List.getD_eq_getElem?_getD, hi]
  ·rw [coef_of_lt (by rw [ptsAt_length]; exact hi)] at h
   simpa [ptsAt, List.getD_eq_getElem?_getD, hi] using h
 ·rintro ⟨y, hy, h⟩
  obtain ⟨i, hi, e⟩ := List.mem_iff_getElem.1 hy
  rw [List.length_zip] at hi
  rw [List.getElem_zip] at e
  injection e with e1 e2
  have hi1 : i < pl.length := by omega
  refine ⟨i, hi1, by simp [List.getD_eq_getElem?_getD, hi1, e1], ?_⟩
  rw [coef_of_lt (by rw [ptsAt_length]; exact hi1), coef_of_lt (p := ys) (by omega), e2]
  simpa [ptsAt, e1] using h
end Go.Proofs.YtjoghbmedfmioaaGreat.Wl

namespace Go.Proofs.YtjoghbmedfmioaaGreat.Mat
open F8 Poly
def sum : Nat → (Nat → F8) → F8
 | 0, _ => 0
 | n + 1, f => sum n f + f n
theorem sum_congr {n : Nat} {f g : Nat → F8} (h : ∀ i, i < n → f i = g i) : sum n f = sum n g := by
 induction n with
 | zero => rfl
 | succ n ih => simp only [sum]; rw [ih (fun i hi => h i (by omega)), h n (by omega)]
theorem sum_zero (n : Nat) : sum n (fun _ => 0) = 0 := by
 induction n with
 | zero => rfl
 | succ n ih => simp only [sum]; rw [ih, add_zero]
theorem sum_zero' {n : Nat} {f : Nat → F8} (h : ∀ i, i < n → f i = 0) : sum n f = 0 := by rw [sum_congr h, sum_zero]
theorem sum_add (n : Nat) (f g : Nat → F8) : sum n (fun i => f i + g i) = sum n f + sum n g := by
 induction n with
 | zero => simp only [sum]; rw [add_zero]
 | succ n ih => simp only [sum]; rw [ih]; ac_rfl
theorem mul_sum (n : Nat) (c : F8) (f : Nat → F8) : sum n (fun i => c * f i) = c * sum n f := by
 induction n with
 | zero => simp only [sum]; rw [mul_zero]
 | succ n ih => simp only [sum]; rw [ih, mul_add]
theorem sum_mul (n : Nat) (c : F8) (f : Nat → F8) : sum n (fun i => f i * c) = sum n f * c := by
 rw [mul_comm, ← mul_sum]; exact sum_congr fun i _ => mul_comm _ _
theorem sum_comm (m n : Nat) (f : Nat → Nat → F8) : sum m (fun i => sum n (f i)) = sum n (fun j => sum m (fun i => f i j)) := by
 induction m with
 | zero => simp only [sum]; rw [sum_zero]
 | succ m ih => simp only [sum]; rw [ih, ← sum_add]
theorem sum_one {n k : Nat} (a : F8) (hk : k < n) : sum n (fun i => if i = k then a else 0) = a := by
 induction n with
 | zero => omega
 | succ n ih =>
  simp only [sum]
  by_cases e : n = k
  ·subst e
   rw [if_pos rfl, sum_zero' (fun i hi => if_neg (by omega)), zero_add]
  ·rw [if_neg e, ih (by omega), add_zero]
theorem sum_at {n k : Nat} (f : Nat → F8) (hk : k < n) (h : ∀ i, i < n → i ≠ k → f i = 0) : sum n f = f k := by
 rw [← sum_one (f k) hk]
 refine sum_congr fun i hi => ?_
 by_cases e : i = k
 ·rw [if_pos e, e]
 ·rw [if_neg e, h i hi e]
theorem sum_split (m n : Nat) (f : Nat → F8) : sum (m + n) f = sum m f + sum n (fun i => f (m + i)) := by
 induction n with
 | zero => simp only [sum]; rw [add_zero]; rfl
 | succ n ih => rw [← Nat.add_assoc]; simp only [sum]; rw [ih, add_assoc]
def ent (s : List F8) (c i j : Nat) : F8 := coef s (i * c + j)
def flat (r c : Nat) (f : Nat → Nat → F8) : List F8 := (List.range (r * c)).map fun k => f (k / c) (k % c)
theorem flat_length (r c : Nat) (f : Nat → Nat → F8) : (flat r c f).length = r * c := by simp [flat]
theorem idx_lt {r c i j : Nat} (hi : i < r) (hj : j < c) : i * c + j < r * c := by
 have := Nat.mul_le_mul_right c (show i + 1 ≤ r by omega)
 rw [Nat.succ_mul] at this
 omega
theorem idx_div {c i j : Nat} (hj : j < c) : (i * c + j) / c = i := by
 rw [Nat.mul_comm, Nat.mul_add_div (by omega), Nat.div_eq_of_lt hj, Nat.add_zero]
theorem idx_mod {c i j : Nat} (hj : j < c) : (i * c + j) % c = j := by
 rw [Nat.mul_comm, Nat.mul_add_mod, Nat.mod_eq_of_lt hj]
theorem idx_inj {c i j i' j' : Nat} (hj : j < c) (hj' : j' < c) : i * c + j = i' * c + j' ↔ i = i' ∧ j = j' := by
 constructor
 ·intro h
  exact ⟨by rw [← idx_div (i := i) hj, h, idx_div hj'], by rw [← idx_mod (i := i) hj, h, idx_mod hj']⟩
 ·rintro ⟨rfl, rfl⟩; rfl
theorem idx_row {c i i' j : Nat} (hj : j < c) : (i * c ≤ i' * c + j ∧ i' * c + j < i * c + c) ↔ i' = i := by
 constructor
 ·rintro ⟨h1, h2⟩
  have e1 : i' * c + j = i * c + (i' * c + j - i * c) := by omega
  exact ((idx_inj hj (show i' * c + j - i * c < c by omega)).1 e1).1
 ·rintro rfl; omega
theorem ent_flat {r c i j : Nat} {f : Nat → Nat → F8} (hi : i < r) (hj : j < c) : ent (flat r c f) c i j = f i j := by
 unfold ent
 rw [coef_of_lt (by rw [flat_length]; exact idx_lt hi hj)]
 simp only [flat, List.getElem_map, List.getElem_range]
 rw [idx_div hj, idx_mod hj]
structure IsM (r c : Nat) (s : List F8) (f : Nat → Nat → F8) : Prop where
 len : s.length = r * c
 ent : ∀ i j, i < r → j < c → ent s c i j = f i j
theorem isM_flat (r c : Nat) (f : Nat → Nat → F8) : IsM r c (flat r c f) f := ⟨flat_length r c f, fun _ _ hi hj => ent_flat hi hj⟩
theorem IsM.congr {r c : Nat} {s : List F8} {f g : Nat → Nat → F8} (h : IsM r c s f) (hg : ∀ i j, i < r → j < c → f i j = g i j) : IsM r c s g :=
 ⟨h.len, fun i j hi hj => (h.ent i j hi hj).trans (hg i j hi hj)⟩
theorem list_ext {s t : List F8} (hl : s.length = t.length) (h : ∀ k, k < s.length → coef s k = coef t k) : s = t := by
 refine List.ext_getElem hl fun k h1 h2 => ?_
 have := h k h1
 rwa [coef_of_lt h1, coef_of_lt h2] at this
theorem IsM.only {r c : Nat} {s t : List F8} {f g : Nat → Nat → F8} (h : IsM r c s f) (k : IsM r c t g) (hfg : ∀ i j, i < r → j < c → f i j = g i j) : s = t := by
 refine list_ext (by rw [h.len, k.len]) fun x hx => ?_
 rw [h.len] at hx
 have hc : 0 < c := by rcases Nat.eq_zero_or_pos c with rfl | hc; simp at hx; exact hc
 have h1 : x / c < r := Nat.div_lt_of_lt_mul (by rw [Nat.mul_comm]; exact hx)
 have h2 := Nat.mod_lt x hc
 have e : x = x / c * c + x % c := by rw [Nat.mul_comm]; exact (Nat.div_add_mod x c).symm
 have a := h.ent _ _ h1 h2
 have b := k.ent _ _ h1 h2
 unfold Mat.ent at a b
 rw [← e] at a b
 rw [a, b, hfg _ _ h1 h2]
theorem IsM.flat {r c : Nat} {s : List F8} {f : Nat → Nat → F8} (h : IsM r c s f) : s = flat r c f := h.only (isM_flat r c f) (fun _ _ _ _ => rfl)
theorem ent_replicate (n c i j : Nat) : ent (List.replicate n 0) c i j = 0 := by
 unfold ent
 by_cases h : i * c + j < n
 ·rw [coef_of_lt (by simpa using h)]; simp
 ·rw [coef_of_le (by simpa using h)]
theorem coef_set' (l : List F8) (k : Nat) (x : F8) (hk : k < l.length) (i : Nat) : coef (l.set k x) i = if i = k then x else coef l i := by
 unfold coef
 rw [List.getD_eq_getElem?_getD, List.getD_eq_getElem?_getD, List.getElem?_set]
 by_cases e : k = i
 ·subst e; rw [if_pos rfl, if_pos rfl, if_pos hk]; rfl
 ·rw [if_neg e, if_neg (fun h => e h.symm)]
theorem ent_set {r c i j : Nat} {s : List F8} (hs : s.length = r * c) (hi : i < r) (hj : j < c) (x : F8) (i' j' : Nat) (hj' : j' < c) : ent (s.set (i * c + j) x) c i' j' = if i' = i ∧ j' = j then x else ent s c i' j' := by
 unfold ent
 rw [coef_set' _ _ _ (by rw [hs]; exact idx_lt hi hj)]
 by_cases e : i' = i ∧ j' = j
 ·rw [if_pos e, if_pos ((idx_inj hj' hj).2 e)]
 ·rw [if_neg e, if_neg (fun h => e ((idx_inj hj' hj).1 h))]
def mulF (n : Nat) (a b : Nat → Nat → F8) (i k : Nat) : F8 := sum n fun j => a i j * b j k
def tr (a : Nat → Nat → F8) (i j : Nat) : F8 := a j i
theorem mulF_congr {n i k : Nat} {a a' b b' : Nat → Nat → F8} (ha : ∀ j, j < n → a i j = a' i j) (hb : ∀ j, j < n → b j k = b' j k) : mulF n a b i k = mulF n a' b' i k :=
 sum_congr fun j hj => by rw [ha j hj, hb j hj]
def app (C : Nat) (M : Nat → Nat → F8) (x : Nat → F8) (i : Nat) : F8 := sum C fun j => M i j * x j
def Ker (r C : Nat) (M : Nat → Nat → F8) (x : Nat → F8) : Prop := ∀ i, i < r → app C M x i = 0
def Piv (r C : Nat) (M : Nat → Nat → F8) (c : Nat) : Prop := ¬ ∃ x : Nat → F8, x c = 1 ∧ (∀ j, c < j → x j = 0) ∧ Ker r C M x
theorem app_congr {C i : Nat} {M M' : Nat → Nat → F8} (x : Nat → F8) (h : ∀ j, j < C → M i j = M' i j) : app C M x i = app C M' x i := sum_congr fun j hj => by rw [h j hj]
theorem ker_congr {r C : Nat} {M M' : Nat → Nat → F8} (x : Nat → F8) (h : ∀ i j, i < r → j < C → M i j = M' i j) : Ker r C M x ↔ Ker r C M' x :=
 ⟨fun k i hi => by rw [← app_congr x (fun j hj => h i j hi hj)]; exact k i hi, fun k i hi => by rw [app_congr x (fun j hj => h i j hi hj)]; exact k i hi⟩
structure Red (r C : Nat) (M0 M : Nat → Nat → F8) (ord : Nat → Nat) (bg : List Nat) (col : Nat) : Prop where
 ker : ∀ x, Ker r C M x ↔ Ker r C M0 x
 lt : ∀ t, t < r → ord t < r
 inj : ∀ t u, t < r → u < r → ord t = ord u → t = u
 sur : ∀ i, i < r → ∃ t, t < r ∧ ord t = i
 le : bg.length ≤ r
 up : bg.Pairwise (· < ·)
 in_ : ∀ c, c ∈ bg → c < col
 one : ∀ t u (hu : u < bg.length), t < r → M (ord t) bg[u] = if t = u then 1 else 0
 rest : ∀ t j, bg.length ≤ t → t < r → j < col → M (ord t) j = 0
 left : ∀ t (ht : t < bg.length) j, j < bg[t] → M (ord t) j = 0
theorem Red.start (r C : Nat) (M0 : Nat → Nat → F8) : Red r C M0 M0 (fun i => i) [] 0 where
 ker _ := Iff.rfl
 lt _ h := h
 inj _ _ _ _ h := h
 sur i h := ⟨i, h, rfl⟩
 le := Nat.zero_le _
 up := List.Pairwise.nil
 in_ _ h := by simp at h
 one _ _ h := by simp at h
 rest _ _ _ _ h := by omega
 left _ h := by simp at h
section
variable {r C : Nat} {M0 M M' : Nat → Nat → F8} {ord : Nat → Nat} {bg : List Nat} {col cols : Nat}
theorem Red.skip (h : Red r C M0 M ord bg col) (hz : ∀ t, bg.length ≤ t → t < r → M (ord t) col = 0) : Red r C M0 M ord bg (col + 1) where
 ker := h.ker
 lt := h.lt
 inj := h.inj
 sur := h.sur
 le := h.le
 up := h.up
 in_ c hc := by have := h.in_ c hc; omega
 one := h.one
 rest t j h1 h2 h3 := by
  rcases Nat.lt_or_ge j col with hj | hj
  ·exact h.rest t j h1 h2 hj
  ·obtain rfl : j = col := by omega
   exact hz t h1 h2
 left := h.left
theorem Red.skips (h : Red r C M0 M ord bg col) (hr : bg.length = r) (n : Nat) : Red r C M0 M ord bg (col + n) := by
 induction n with
 | zero => exact h
 | succ n ih => exact ih.skip (fun t h1 h2 => by omega)
theorem Red.finish (h : Red r C M0 M ord bg col) (hr : bg.length = r) (hc : col ≤ cols) : Red r C M0 M ord bg cols := by
 have := h.skips hr (cols - col)
 rwa [show col + (cols - col) = cols by omega] at this
def swp (ord : Nat → Nat) (k p : Nat) (t : Nat) : Nat := if t = k then ord p else if t = p then ord k else ord t
theorem swp_lt (h : ∀ t, t < r → ord t < r) {k p : Nat} (hk : k < r) (hp : p < r) : ∀ t, t < r → swp ord k p t < r := by
 intro t ht; unfold swp
 split
 ·exact h p hp
 ·split
  ·exact h k hk
  ·exact h t ht
theorem swp_inj (h : ∀ t u, t < r → u < r → ord t = ord u → t = u) {k p : Nat} (hk : k < r) (hp : p < r) : ∀ t u, t < r → u < r → swp ord k p t = swp ord k p u → t = u := by
 intro t u ht hu e
 unfold swp at e
 by_cases a : t = k
 ·rw [if_pos a] at e
  by_cases b : u = k
  ·omega
  ·rw [if_neg b] at e
   by_cases c : u = p
   ·rw [if_pos c] at e
    have := h _ _ hp hk e; omega
   ·rw [if_neg c] at e
    have := h _ _ hp hu e; omega
 ·rw [if_neg a] at e
  by_cases a2 : t = p
  ·rw [if_pos a2] at e
   by_cases b : u = k
   ·rw [if_pos b] at e
    have := h _ _ hk hp e; omega
   ·rw [if_neg b] at e
    by_cases c : u = p
    ·omega
    ·rw [if_neg c] at e
     have := h _ _ hk hu e; omega
  ·rw [if_neg a2] at e
   by_cases b : u = k
   ·rw [if_pos b] at e
    have := h _ _ ht hp e; omega
   ·rw [if_neg b] at e
    by_cases c : u = p
    ·rw [if_pos c] at e
     have := h _ _ ht hk e; omega
    ·rw [if_neg c] at e
     exact h _ _ ht hu e
theorem swp_sur (h : ∀ i, i < r → ∃ t, t < r ∧ ord t = i) {k p : Nat} (hk : k < r) (hp : p < r) : ∀ i, i < r → ∃ t, t < r ∧ swp ord k p t = i := by
 intro i hi
 obtain ⟨t, ht, rfl⟩ := h i hi
 unfold swp
 by_cases a : t = k
 ·subst a
  by_cases b : p = t
  ·subst b; exact ⟨p, ht, if_pos rfl⟩
  ·exact ⟨p, hp, by rw [if_neg b, if_pos rfl]⟩
 ·by_cases b : t = p
  ·subst b; exact ⟨k, hk, if_pos rfl⟩
  ·exact ⟨t, ht, by rw [if_neg a, if_neg b]⟩
theorem getElem_snoc {α : Type} (l : List α) (a : α) (u : Nat) (hu : u < (l ++ [a]).length) : (l ++ [a])[u] = if h : u < l.length then l[u] else a := by
 by_cases h : u < l.length
 ·rw [dif_pos h, List.getElem_append_left h]
 ·rw [dif_neg h, List.getElem_append_right (by omega)]
  simp
theorem Red.pivot (h : Red r C M0 M ord bg col) (hcC : col < C) {p : Nat} (hp1 : bg.length ≤ p) (hp : p < r) {v : F8} (hv : M (ord p) col = v) (hv0 : v ≠ 0)
  (hL : ∀ j, j < C → M' (ord p) j = M (ord p) j / v) (hO : ∀ i j, i < r → j < C → i ≠ ord p → M' i j = M i j + M i col * M' (ord p) j) :
  Red r C M0 M' (swp ord bg.length p) (bg ++ [col]) (col + 1) := by
 have hk : bg.length < r := by omega
 have hOp : ord p < r := h.lt p hp
 have e1 : swp ord bg.length p bg.length = ord p := by unfold swp; rw [if_pos rfl]
 have hne : ∀ t, t < r → t ≠ bg.length → swp ord bg.length p t ≠ ord p := fun t ht hn e => hn (swp_inj h.inj hk hp t _ ht hk (by rw [e, e1]))
 have hlt := swp_lt h.lt hk hp
 have hsm : ∀ t, t < bg.length → swp ord bg.length p t = ord t := fun t ht => by unfold swp; rw [if_neg (by omega), if_neg (by omega)]
 have hL0 : ∀ j, j < col → M' (ord p) j = 0 := fun j hj => by rw [hL j (by omega), h.rest p j hp1 hp hj, zero_div]
 have hL1 : M' (ord p) col = 1 := by rw [hL col hcC, hv]; exact (div_eq hv0).2 (one_mul v).symm
 have hold : ∀ t j, t < r → t ≠ bg.length → j < col → M' (swp ord bg.length p t) j = M (swp ord bg.length p t) j := fun t j ht hn hj => by
  rw [hO _ _ (hlt t ht) (by omega) (hne t ht hn), hL0 j hj, mul_zero, add_zero]
 have hfrom : ∀ t, bg.length ≤ t → t < r → ∃ s, bg.length ≤ s ∧ s < r ∧ swp ord bg.length p t = ord s := fun t h1 h2 => by
  unfold swp
  by_cases a : t = bg.length
  ·exact ⟨p, hp1, hp, by rw [if_pos a]⟩
  ·rw [if_neg a]
   by_cases b : t = p
   ·exact ⟨bg.length, Nat.le_refl _, hk, by rw [if_pos b]⟩
   ·exact ⟨t, h1, h2, by rw [if_neg b]⟩
 have hbgcol : ∀ (u : Nat) (hu : u < bg.length), bg[u] < col := fun u hu => h.in_ _ (List.getElem_mem hu)
 refine ⟨fun x => ?_, hlt, swp_inj h.inj hk hp, swp_sur h.sur hk hp, ?_, ?_, ?_, ?_, ?_, ?_⟩
 ·rw [← h.ker x]
  have a1 : app C M' x (ord p) = inv v * app C M x (ord p) := by
   unfold app
   rw [← mul_sum]
   exact sum_congr fun j hj => by rw [hL j hj, div_eq_mul_inv _ hv0, mul_comm (M _ _), mul_assoc]
  have a2 : ∀ i, i < r → i ≠ ord p → app C M' x i = app C M x i + M i col * app C M' x (ord p) := fun i hi hn => by
   unfold app
   rw [← mul_sum, ← sum_add]
   exact sum_congr fun j hj => by rw [hO i j hi hj hn, add_mul, mul_assoc]
  constructor
  ·intro hx i hi
   have h0 := hx _ hOp
   by_cases e : i = ord p
   ·subst e
    rw [a1] at h0
    exact (mul_eq_zero.1 h0).resolve_left (inv_ne hv0)
   ·have := hx i hi
    rw [a2 i hi e, h0, mul_zero, add_zero] at this; exact this
  ·intro hx i hi
   have h0 : app C M' x (ord p) = 0 := by rw [a1, hx _ hOp, mul_zero]
   by_cases e : i = ord p
   ·subst e; exact h0
   ·rw [a2 i hi e, h0, mul_zero, add_zero]; exact hx i hi
 ·rw [List.length_append]; simp; omega
 ·refine List.pairwise_append.2 ⟨h.up, by simp, fun a ha b hb => ?_⟩
  rw [List.mem_singleton] at hb; subst hb
  exact h.in_ a ha
 ·intro c hc
  rcases List.mem_append.1 hc with hc | hc
  ·have := h.in_ c hc; omega
  ·rw [List.mem_singleton] at hc; omega
 ·intro t u hu ht
  rw [getElem_snoc]
  by_cases hul : u < bg.length
  ·rw [dif_pos hul]
   by_cases e : t = bg.length
   ·subst e
    rw [e1, hL0 _ (hbgcol u hul), if_neg (by omega)]
   ·rw [hold t _ ht e (hbgcol u hul)]
    by_cases tl : t < bg.length
    ·rw [hsm t tl]; exact h.one t u hul ht
    ·obtain ⟨s, s1, s2, s3⟩ := hfrom t (by omega) ht
     rw [s3, h.one s u hul s2, if_neg (by omega), if_neg (by omega)]
  ·rw [dif_neg hul]
   have hue : u = bg.length := by simp at hu; omega
   by_cases e : t = bg.length
   ·subst e
    rw [e1, hL1, if_pos hue.symm]
   ·rw [hO _ _ (hlt t ht) hcC (hne t ht e), hL1, mul_one, add_self, if_neg (by omega)]
 ·intro t j h1 h2 h3
  simp only [List.length_append, List.length_cons, List.length_nil] at h1
  rcases Nat.lt_or_ge j col with hj | hj
  ·rw [hold t j h2 (by omega) hj]
   obtain ⟨s, s1, s2, s3⟩ := hfrom t (by omega) h2
   rw [s3]; exact h.rest s j s1 s2 hj
  ·obtain rfl : j = col := by omega
   rw [hO _ _ (hlt t h2) hcC (hne t h2 (by omega)), hL1, mul_one, add_self]
 ·intro t ht j hj
  rw [getElem_snoc] at hj
  by_cases tl : t < bg.length
  ·rw [dif_pos tl] at hj
   have := hbgcol t tl
   rw [hold t j (by omega) (by omega) (by omega), hsm t tl]
   exact h.left t tl j hj
  ·rw [dif_neg tl] at hj
   obtain rfl : t = bg.length := by simp at ht; omega
   rw [e1]; exact hL0 j hj
open Classical in
theorem exists_red (r C : Nat) (M0 : Nat → Nat → F8) : ∀ cols, cols ≤ C → ∃ M ord bg, Red r C M0 M ord bg cols
 | 0, _ => ⟨_, _, _, Red.start r C M0⟩
 | col + 1, hc => by
  obtain ⟨M, ord, bg, h⟩ := exists_red r C M0 col (by omega)
  by_cases hz : ∃ p, bg.length ≤ p ∧ p < r ∧ M (ord p) col ≠ 0
  ·obtain ⟨p, h1, h2, h3⟩ := hz
   refine ⟨fun i j => if i = ord p then M (ord p) j / M (ord p) col else M i j + M i col * (M (ord p) j / M (ord p) col), _, _, h.pivot (by omega) h1 h2 rfl h3 (fun j _ => if_pos rfl) (fun i j _ _ hn => ?_)⟩
   simp only [if_neg hn, if_true]
  ·exact ⟨M, ord, bg, h.skip fun t h1 h2 => Classical.byContradiction fun h3 => hz ⟨t, h1, h2, h3⟩⟩
theorem Red.piv (h : Red r C M0 M ord bg cols) (hc : cols ≤ C) (c : Nat) : c ∈ bg ↔ c < cols ∧ Piv r C M0 c := by
 constructor
 ·intro hm
  refine ⟨h.in_ c hm, ?_⟩
  rintro ⟨x, x1, x2, x3⟩
  obtain ⟨u, hu, rfl⟩ := List.getElem_of_mem hm
  have hur : u < r := by have := h.le; omega
  have hk := (h.ker x).2 x3 (ord u) (h.lt u hur)
  unfold app at hk
  rw [sum_at (k := bg[u]) _ (by have := h.in_ _ (List.getElem_mem hu); omega) (fun j _ e => by
   rcases Nat.lt_or_ge j bg[u] with hj | hj
   ·rw [h.left u hu j hj, zero_mul]
   ·rw [x2 j (by omega), mul_zero]), h.one u u hu hur, if_pos rfl, x1, mul_one] at hk
  exact one_ne_zero hk
 ·rintro ⟨hcc, hp⟩
  refine Classical.byContradiction fun hm => hp ?_
  refine ⟨fun j => (if j = c then 1 else 0) + sum bg.length (fun u => if bg.getD u 0 = j ∧ j < c then M (ord u) c else 0), ?_, ?_, ?_⟩
  ·simp only [if_true]
   rw [sum_zero' (fun u _ => if_neg (by omega)), add_zero]
  ·intro j hj
   simp only []
   rw [if_neg (by omega), sum_zero' (fun u _ => if_neg (by omega)), add_zero]
  ·refine (h.ker _).1 fun i hi => ?_
   obtain ⟨t, ht, rfl⟩ := h.sur i hi
   unfold app
   simp only [mul_add]
   rw [sum_add, sum_at (k := c) (fun j => M (ord t) j * if j = c then 1 else 0) (by omega) (fun j _ e => by rw [if_neg e, mul_zero]), if_pos rfl, mul_one]
   simp only [← mul_sum]
   rw [sum_comm]
   have hin : ∀ u (hu : u < bg.length), sum C (fun j => M (ord t) j * if bg.getD u 0 = j ∧ j < c then M (ord u) c else 0) = if t = u ∧ bg[u] < c then M (ord u) c else 0 := by
    intro u hu
    have hg : bg.getD u 0 = bg[u] := by rw [List.getD_eq_getElem?_getD, List.getElem?_eq_getElem hu]; rfl
    rw [hg, sum_at (k := bg[u]) _ (by have := h.in_ _ (List.getElem_mem hu); omega) (fun j _ e => by rw [if_neg (fun h => e h.1.symm), mul_zero]), h.one t u hu ht]
    by_cases e1 : t = u
    ·rw [if_pos e1, one_mul]
     by_cases e2 : bg[u] < c
     ·rw [if_pos ⟨rfl, e2⟩, if_pos ⟨e1, e2⟩]
     ·rw [if_neg (fun h => e2 h.2), if_neg (fun h => e2 h.2)]
    ·rw [if_neg e1, zero_mul, if_neg (fun h => e1 h.1)]
   rw [sum_congr (g := fun u => if t = u ∧ bg.getD u 0 < c then M (ord u) c else 0) (fun u hu => by
    rw [hin u hu]
    have hg : bg.getD u 0 = bg[u] := by rw [List.getD_eq_getElem?_getD, List.getElem?_eq_getElem hu]; rfl
    rw [hg])]
   by_cases htk : t < bg.length
   ·have hg : bg.getD t 0 = bg[t] := by rw [List.getD_eq_getElem?_getD, List.getElem?_eq_getElem htk]; rfl
    rw [sum_at (k := t) _ htk (fun u _ e => if_neg (fun h => e h.1.symm)), hg]
    by_cases e : bg[t] < c
    ·rw [if_pos ⟨rfl, e⟩, add_self]
    ·rw [if_neg (fun h => e h.2), add_zero]
     have hne : bg[t] ≠ c := fun e2 => hm (by rw [← e2]; exact List.getElem_mem htk)
     exact h.left t htk c (by omega)
   ·rw [sum_zero' (fun u hu => if_neg (by omega)), add_zero]
    exact h.rest t c (by omega) ht hcc
end
theorem rising_ext : ∀ {l l' : List Nat}, l.Pairwise (· < ·) → l'.Pairwise (· < ·) → (∀ c, c ∈ l ↔ c ∈ l') → l = l'
 | [], [], _, _, _ => rfl
 | [], b :: l', _, _, h => by have := (h b).2 (by simp); simp at this
 | a :: l, [], _, _, h => by have := (h a).1 (by simp); simp at this
 | a :: l, b :: l', h1, h2, h => by
  rw [List.pairwise_cons] at h1 h2
  have hab : a = b := by
   rcases List.mem_cons.1 ((h a).1 (by simp)) with e | e
   ·exact e
   ·rcases List.mem_cons.1 ((h b).2 (by simp)) with e2 | e2
    ·exact e2.symm
    ·have := h1.1 b e2; have := h2.1 a e; omega
  subst hab
  congr 1
  refine rising_ext h1.2 h2.2 fun c => ⟨fun hc => ?_, fun hc => ?_⟩
  ·rcases List.mem_cons.1 ((h c).1 (List.mem_cons_of_mem _ hc)) with e | e
   ·have := h1.1 c hc; omega
   ·exact e
  ·rcases List.mem_cons.1 ((h c).2 (List.mem_cons_of_mem _ hc)) with e | e
   ·have := h2.1 c hc; omega
   ·exact e
theorem rising_from : ∀ {l : List Nat} {b : Nat}, l.Pairwise (· < ·) → (∀ c, c ∈ l → b ≤ c) → ∀ u (hu : u < l.length), b + u ≤ l[u]
 | [], _, _, _, _, hu => by simp at hu
 | a :: l, b, h, hb, 0, _ => by simpa using hb a (by simp)
 | a :: l, b, h, hb, u + 1, hu => by
  rw [List.pairwise_cons] at h
  have := rising_from (b := b + 1) h.2 (fun c hc => by have := h.1 c hc; have := hb a (by simp); omega) u (by simpa using hu)
  simp only [List.getElem_cons_succ]; omega
theorem rising_up {l : List Nat} (h : l.Pairwise (· < ·)) {u v : Nat} (hv : v < l.length) (huv : u ≤ v) : l[u] + (v - u) ≤ l[v] := by
 induction v with
 | zero =>
  obtain rfl : u = 0 := by omega
  simp
 | succ v ih =>
  by_cases e : u = v + 1
  ·subst e; simp
  ·have := ih (by omega) (by omega)
   have := List.pairwise_iff_getElem.1 h v (v + 1) (by omega) hv (by omega)
   omega
theorem rising_full {l : List Nat} {n : Nat} (h : l.Pairwise (· < ·)) (hn : ∀ c, c ∈ l → c < n) (hl : l.length = n) (u : Nat) (hu : u < l.length) : l[u] = u := by
 have h1 := rising_from (b := 0) h (fun _ _ => Nat.zero_le _) u hu
 have h2 := rising_up h (u := u) (v := l.length - 1) (by omega) (by omega)
 have h3 := hn _ (List.getElem_mem (show l.length - 1 < l.length by omega))
 omega
def RankIs (r C : Nat) (M : Nat → Nat → F8) (cols k : Nat) : Prop := ∃ bg : List Nat, bg.length = k ∧ bg.Pairwise (· < ·) ∧ ∀ c, c ∈ bg ↔ c < cols ∧ Piv r C M c
section
variable {r C n q : Nat} {M0 M a b : Nat → Nat → F8} {ord : Nat → Nat} {bg : List Nat} {cols k k' : Nat}
theorem Red.rank (h : Red r C M0 M ord bg cols) (hc : cols ≤ C) : RankIs r C M0 cols bg.length := ⟨bg, rfl, h.up, h.piv hc⟩
theorem RankIs.le_cols (h : RankIs r C M cols k) : k ≤ cols := by
 obtain ⟨bg, rfl, h1, h2⟩ := h
 rcases Nat.eq_zero_or_pos bg.length with h0 | h0
 ·omega
 ·have h3 := rising_from (b := 0) h1 (fun _ _ => Nat.zero_le _) (bg.length - 1) (by omega)
  have h4 := ((h2 _).1 (List.getElem_mem (show bg.length - 1 < bg.length by omega))).1
  omega
theorem RankIs.exists (r : Nat) {C : Nat} (M : Nat → Nat → F8) {cols : Nat} (hc : cols ≤ C) : ∃ k, k ≤ r ∧ RankIs r C M cols k := by
 obtain ⟨M', ord, bg, h⟩ := exists_red r C M cols hc
 exact ⟨_, h.le, h.rank hc⟩
def KerT (r n : Nat) (a : Nat → Nat → F8) : Prop := ∀ x, Ker r n a x → ∀ j, j < n → x j = 0
theorem app_smul (C : Nat) (M : Nat → Nat → F8) (x : Nat → F8) (c : F8) (i : Nat) : app C M (fun j => c * x j) i = c * app C M x i := by
 unfold app; rw [← mul_sum]; exact sum_congr fun j _ => mul_left_comm _ _ _
theorem app_add (C : Nat) (M : Nat → Nat → F8) (x y : Nat → F8) (i : Nat) : app C M (fun j => x j + y j) i = app C M x i + app C M y i := by
 unfold app; rw [← sum_add]; exact sum_congr fun j _ => mul_add _ _ _
theorem app_cut {C : Nat} {M : Nat → Nat → F8} {x y : Nat → F8} (h : ∀ j, j < C → x j = y j) (i : Nat) : app C M x i = app C M y i := sum_congr fun j hj => by rw [h j hj]
theorem last_of (x : Nat → F8) : ∀ n, (∃ j, j < n ∧ x j ≠ 0) → ∃ c, c < n ∧ x c ≠ 0 ∧ ∀ j, c < j → j < n → x j = 0
 | 0, h => by obtain ⟨j, hj, _⟩ := h; omega
 | n + 1, h => by
  by_cases e : x n = 0
  ·obtain ⟨j, hj, hx⟩ := h
   have hjn : j ≠ n := fun e2 => hx (by rw [e2, e])
   obtain ⟨c, h1, h2, h3⟩ := last_of x n ⟨j, by omega, hx⟩
   refine ⟨c, by omega, h2, fun i hi1 hi2 => ?_⟩
   by_cases e3 : i = n
   ·rw [e3, e]
   ·exact h3 i hi1 (by omega)
  ·exact ⟨n, by omega, e, fun i h1 h2 => by omega⟩
theorem kerT_iff_piv : KerT r n a ↔ ∀ c, c < n → Piv r n a c := by
 constructor
 ·rintro h c hc ⟨x, h1, _, h3⟩
  have := h x h3 c hc
  rw [h1] at this; exact one_ne_zero this
 ·intro h x hx
  refine Classical.byContradiction fun hn => ?_
  have : ∃ j, j < n ∧ x j ≠ 0 := Classical.byContradiction fun h2 => hn fun j hj => Classical.byContradiction fun h3 => h2 ⟨j, hj, h3⟩
  obtain ⟨c, hc, h1, h2⟩ := last_of x n this
  refine h c hc ⟨fun j => if j < n then inv (x c) * x j else 0, ?_, ?_, ?_⟩
  ·simp only [if_pos hc]; exact inv_mul h1
  ·intro j hj
   by_cases e : j < n
   ·simp only [if_pos e]; rw [h2 j hj e, mul_zero]
   ·simp only [if_neg e]
  ·intro i hi
   rw [app_cut (y := fun j => inv (x c) * x j) (fun j hj => if_pos hj), app_smul, hx i hi, mul_zero]
theorem mem_range_of_full {n : Nat} (h1 : bg.Pairwise (· < ·)) (h2 : ∀ c, c ∈ bg → c < n) : bg.length = n ↔ ∀ c, c < n → c ∈ bg := by
 constructor
 ·intro hl c hc
  have := rising_full h1 h2 hl c (by omega)
  rw [← this]; exact List.getElem_mem _
 ·intro h
  have e : bg = List.range n := rising_ext h1 List.pairwise_lt_range (fun c => by rw [List.mem_range]; exact ⟨h2 c, h c⟩)
  rw [e, List.length_range]
theorem RankIs.full (h : RankIs r n a n k) : k = n ↔ KerT r n a := by
 obtain ⟨bg, rfl, h1, h2⟩ := h
 rw [mem_range_of_full h1 (fun c hc => ((h2 c).1 hc).1), kerT_iff_piv]
 exact ⟨fun h c hc => ((h2 c).1 (h c hc)).2, fun h c hc => (h2 c).2 ⟨hc, h c hc⟩⟩
def bes (n : Nat) (a b : Nat → Nat → F8) (i j : Nat) : F8 := if j < n then a i j else b i (j - n)
theorem app_bes (n q : Nat) (a b : Nat → Nat → F8) (x : Nat → F8) (i : Nat) : app (n + q) (bes n a b) x i = app n a x i + sum q (fun k => b i k * x (n + k)) := by
 unfold app
 rw [sum_split]
 congr 1
 ·exact sum_congr fun j hj => by unfold bes; rw [if_pos hj]
 ·exact sum_congr fun k _ => by unfold bes; rw [if_neg (by omega), show n + k - n = k by omega]
theorem piv_bes {c : Nat} (hc : c < n) : Piv r (n + q) (bes n a b) c ↔ Piv r n a c := by
 unfold Piv
 have key : ∀ x : Nat → F8, (∀ j, c < j → x j = 0) → (Ker r (n + q) (bes n a b) x ↔ Ker r n a x) := fun x hx => by
  have : ∀ i, app (n + q) (bes n a b) x i = app n a x i := fun i => by
   rw [app_bes, sum_zero' (fun k _ => by rw [hx (n + k) (by omega), mul_zero]), add_zero]
  exact ⟨fun h i hi => by rw [← this]; exact h i hi, fun h i hi => by rw [this]; exact h i hi⟩
 refine not_congr ⟨?_, ?_⟩ <;> rintro ⟨x, h1, h2, h3⟩
 ·exact ⟨x, h1, h2, (key x h2).1 h3⟩
 ·exact ⟨x, h1, h2, (key x h2).2 h3⟩
theorem RankIs.bes (h : RankIs r (n + q) (bes n a b) n k) : RankIs r n a n k := by
 obtain ⟨bg, h1, h2, h3⟩ := h
 exact ⟨bg, h1, h2, fun c => (h3 c).trans (and_congr_right fun hc => piv_bes hc)⟩
structure Sol (r n q : Nat) (a b X : Nat → Nat → F8) : Prop where
 ker : KerT r n a
 eq : ∀ i k, i < r → k < q → mulF n a X i k = b i k
theorem Sol.only {X Y : Nat → Nat → F8} (h : Sol r n q a b X) (h' : ∀ i k, i < r → k < q → mulF n a Y i k = b i k) {j k : Nat} (hj : j < n) (hk : k < q) : X j k = Y j k := by
 refine add_eq_zero.1 (h.ker (fun j => X j k + Y j k) (fun i hi => ?_) j hj)
 rw [app_add]
 have e1 : app n a (fun j => X j k) i = b i k := h.eq i k hi hk
 have e2 : app n a (fun j => Y j k) i = b i k := h' i k hi hk
 rw [e1, e2, add_self]
def vext (n k : Nat) (x : Nat → F8) (j : Nat) : F8 := if j < n then x j else if j = n + k then 1 else 0
theorem vext_lo {n k j : Nat} {x : Nat → F8} (h : j < n) : vext n k x j = x j := if_pos h
theorem vext_at (n k : Nat) (x : Nat → F8) : vext n k x (n + k) = 1 := by unfold vext; rw [if_neg (by omega), if_pos rfl]
theorem vext_ne {n k k' : Nat} {x : Nat → F8} (h : k' ≠ k) : vext n k x (n + k') = 0 := by unfold vext; rw [if_neg (by omega), if_neg (by omega)]
theorem app_vext {n q k : Nat} (M : Nat → Nat → F8) (x : Nat → F8) (i : Nat) (hk : k < q) : app (n + q) M (vext n k x) i = app n M x i + M i (n + k) := by
 unfold app
 rw [sum_split, sum_at (n := q) (k := k) _ hk (fun k' _ e => by rw [vext_ne e, mul_zero]), vext_at, mul_one]
 congr 1
 exact sum_congr fun j hj => by rw [vext_lo hj]
theorem app_bes_vext {n q k : Nat} (a b : Nat → Nat → F8) (x : Nat → F8) (i : Nat) (hk : k < q) : app (n + q) (Mat.bes n a b) (vext n k x) i = app n a x i + b i k := by
 rw [app_vext _ _ _ hk]
 have e : Mat.bes n a b i (n + k) = b i k := by unfold Mat.bes; rw [if_neg (by omega), show n + k - n = k by omega]
 rw [e]
 congr 1
 exact app_congr x fun j hj => by unfold Mat.bes; rw [if_pos hj]
theorem Red.sol (h : Red r (n + q) (Mat.bes n a b) M ord bg n) (hl : bg.length = n) (hz : ∀ t k, n ≤ t → t < r → k < q → M (ord t) (n + k) = 0) : Sol r n q a b fun j k => M (ord j) (n + k) := by
 have hker := (h.rank (Nat.le_add_right n q)).bes.full.1 hl
 refine ⟨hker, fun i k hi hk => ?_⟩
 have hx := (h.ker (vext n k fun j => M (ord j) (n + k))).1 (fun i hi => by
  obtain ⟨t, ht, rfl⟩ := h.sur i hi
  rw [app_vext _ _ _ hk]
  by_cases htn : t < n
  ·have e1 : app n M (fun j => M (ord j) (n + k)) (ord t) = M (ord t) (n + k) := by
    unfold app
    rw [sum_at (k := t) _ htn (fun j hj e => by
     have := h.one t j (by omega) ht
     rw [rising_full h.up h.in_ hl j (by omega), if_neg (fun e2 => e e2.symm)] at this
     rw [this, zero_mul])]
    have := h.one t t (by omega) ht
    rw [rising_full h.up h.in_ hl t (by omega), if_pos rfl] at this
    rw [this, one_mul]
   rw [e1, add_self]
  ·rw [hz t k (by omega) ht hk, add_zero]
   exact sum_zero' fun j hj => by rw [h.rest t j (by omega) ht hj, zero_mul]) i hi
 rw [app_bes_vext _ _ _ _ hk] at hx
 exact add_eq_zero.1 hx
theorem Red.sol_of {X : Nat → Nat → F8} (h : Red r (n + q) (Mat.bes n a b) M ord bg n) (hs : Sol r n q a b X) : bg.length = n ∧ ∀ t k, n ≤ t → t < r → k < q → M (ord t) (n + k) = 0 := by
 have hl := (h.rank (Nat.le_add_right n q)).bes.full.2 hs.ker
 refine ⟨hl, fun t k h1 h2 hk => ?_⟩
 have hx := (h.ker (vext n k fun j => X j k)).2 (fun i hi => by
  rw [app_bes_vext _ _ _ _ hk]
  exact add_eq_zero.2 (hs.eq i k hi hk)) (ord t) (h.lt t h2)
 rw [app_vext _ _ _ hk] at hx
 have e1 : app n M (fun j => X j k) (ord t) = 0 := sum_zero' fun j hj => by rw [h.rest t j (by omega) h2 hj, zero_mul]
 rwa [e1, zero_add] at hx
theorem sol_wide {X : Nat → Nat → F8} (hs : Sol r n q a b X) : n ≤ r := by
 obtain ⟨k, h1, h2⟩ := RankIs.exists r a (Nat.le_refl n)
 have := h2.full.2 hs.ker
 omega
end
end Go.Proofs.YtjoghbmedfmioaaGreat.Mat
