/- Of the program and its document, joined: WlMath2, WlFar, WlSpec, WlKit. -/
import Derived.Test.YtiapokojlkdddaaGreatPk19
import Derived.Test.YtiapokojlkdddaaGreatPk18
/- The places that are wrong: who they are; in whatever order symbols stand, the same is told. -/
namespace Go.Proofs.YtiapokojlkdddaaGreat.Wl
open F8 Poly Rd

theorem sorted_ext : ∀ {l r : List Int}, l.Pairwise (· < ·) → r.Pairwise (· < ·) → (∀ x, x ∈ l ↔ x ∈ r) → l = r
  | [], [], _, _, _ => rfl
  | [], y :: r, _, _, h => by have := (h y).2 (by simp); simp at this
  | x :: l, [], _, _, h => by have := (h x).1 (by simp); simp at this
  | x :: l, y :: r, h1, h2, h => by
    obtain ⟨a1, a2⟩ := List.pairwise_cons.1 h1
    obtain ⟨b1, b2⟩ := List.pairwise_cons.1 h2
    have hxy : x = y := by
      rcases List.mem_cons.1 ((h x).1 (by simp)) with e | e
      · exact e
      · rcases List.mem_cons.1 ((h y).2 (by simp)) with e2 | e2
        · exact e2.symm
        · have := b1 x e; have := a1 y e2; omega
    subst hxy
    rw [sorted_ext a2 b2 fun z => ?_]
    have hz := h z
    simp only [List.mem_cons] at hz
    constructor
    · intro hzl
      have := a1 z hzl
      rcases hz.1 (.inr hzl) with e | e
      · omega
      · exact e
    · intro hzr
      have := b1 z hzr
      rcases hz.2 (.inr hzr) with e | e
      · omega
      · exact e
theorem mem_wrong {xs m ys : List F8} {pl : List Int} {z : Int} (hok : OkP xs.length pl) : z ∈ wrong xs m pl ys ↔ ∃ i, i < pl.length ∧ pl.getD i 0 = z ∧ eval m (coef (ptsAt xs pl) i) ≠ coef ys i := by
  have hpt : ∀ i, i < pl.length → ∃ q : Nat, q < xs.length ∧ pl.getD i 0 = (q : Int) ∧ coef (ptsAt xs pl) i = coef xs q := by
    intro i hi
    have hg : pl.getD i 0 = pl[i] := by simp [List.getD_eq_getElem?_getD, hi]
    have hb := hok.1 pl[i] (List.getElem_mem hi)
    refine ⟨pl[i].toNat, by omega, by rw [hg]; omega, ?_⟩
    rw [coef_of_lt (by rw [ptsAt_length]; exact hi)]
    simp [ptsAt]
  unfold wrong
  rw [List.mem_flatMap]
  constructor
  · rintro ⟨p, hp, hz⟩
    obtain ⟨i, hi, rfl⟩ := List.mem_map.1 hz
    obtain ⟨h1, h2⟩ := List.mem_filter.1 hi
    have h1 := List.mem_range.1 h1
    have h2 : pl.getD i 0 = (p : Int) ∧ eval m (coef xs p) ≠ coef ys i := by simpa using h2
    obtain ⟨q, _, hq, he⟩ := hpt i h1
    have hqp : q = p := by have := h2.1; omega
    exact ⟨i, h1, h2.1, by rw [he, hqp]; exact h2.2⟩
  · rintro ⟨i, hi, rfl, h⟩
    obtain ⟨q, hq1, hq, he⟩ := hpt i hi
    refine ⟨q, List.mem_range.2 hq1, List.mem_map.2 ⟨i, List.mem_filter.2 ⟨List.mem_range.2 hi, ?_⟩, hq.symm⟩⟩
    rw [he] at h
    simpa using ⟨hq, h⟩
theorem filter_one (n : Nat) (P : Nat → Bool) (h : ∀ i j, i < n → j < n → P i = true → P j = true → i = j) : ((List.range n).filter P).length ≤ 1 := by
  induction n with
  | zero => simp
  | succ n ih =>
    rw [List.range_succ, List.filter_append, List.length_append]
    have h1 := ih fun i j hi hj => h i j (by omega) (by omega)
    by_cases e : P n = true
    · have : (List.range n).filter P = [] := by
        rw [List.filter_eq_nil_iff]
        intro i hi hp
        have hi := List.mem_range.1 hi
        have := h i n (by omega) (by omega) hp e
        omega
      simp [this, e]
    · simp [e]; exact h1
theorem wrong_sorted {xs m ys : List F8} {pl : List Int} (hok : OkP xs.length pl) : (wrong xs m pl ys).Pairwise (· < ·) := by
  unfold wrong
  rw [List.pairwise_flatMap]
  refine ⟨fun p _ => ?_, ?_⟩
  · have h1 := filter_one pl.length (fun i => decide (pl.getD i 0 = (p : Int) ∧ eval m (coef xs p) ≠ coef ys i)) fun i j hi hj h1 h2 => by
      have h1 := of_decide_eq_true h1
      have h2 := of_decide_eq_true h2
      have e : pl[i] = pl[j] := by
        have a := h1.1.trans h2.1.symm
        simpa [List.getD_eq_getElem?_getD, hi, hj] using a
      exact (List.getElem_inj hok.2).1 e
    generalize (List.range pl.length).filter (fun i => decide (pl.getD i 0 = (p : Int) ∧ eval m (coef xs p) ≠ coef ys i)) = l at h1
    match l, h1 with
    | [], _ => simp
    | [a], _ => simp
  · refine List.pairwise_lt_range.imp fun {a b} hab x hx y hy => ?_
    obtain ⟨_, _, rfl⟩ := List.mem_map.1 hx
    obtain ⟨_, _, rfl⟩ := List.mem_map.1 hy
    omega
/-- The places at which what is told is another one, where they rise. -/
def others (pl : List Int) (was ys : List F8) : List Int := ((List.range pl.length).filter fun i => decide (coef was i ≠ coef ys i)).map fun i => pl.getD i 0
theorem pairwise_getD {pl : List Int} (h : pl.Pairwise (· < ·)) {i j : Nat} (hij : i < j) (hj : j < pl.length) : pl.getD i 0 < pl.getD j 0 := by
  have := List.pairwise_iff_getElem.1 h i j (by omega) hj hij
  simpa [List.getD_eq_getElem?_getD, hj, (by omega : i < pl.length)] using this
theorem wrong_others {xs m ys : List F8} {pl : List Int} (hok : OkP xs.length pl) (hs : pl.Pairwise (· < ·)) : wrong xs m pl ys = others pl (word m (ptsAt xs pl)) ys := by
  refine sorted_ext (wrong_sorted hok) ?_ fun z => ?_
  · unfold others
    rw [List.pairwise_map]
    refine (List.pairwise_lt_range.sublist List.filter_sublist).imp_of_mem fun {a b} ha hb hab => ?_
    exact pairwise_getD hs hab (List.mem_range.1 (List.mem_filter.1 hb).1)
  · rw [mem_wrong hok]
    unfold others
    rw [List.mem_map]
    constructor
    · rintro ⟨i, hi, rfl, h⟩
      refine ⟨i, List.mem_filter.2 ⟨List.mem_range.2 hi, ?_⟩, rfl⟩
      rw [word_get (by rw [ptsAt_length]; exact hi)]
      simpa using h
    · rintro ⟨i, hi, rfl⟩
      obtain ⟨h1, h2⟩ := List.mem_filter.1 hi
      have h1 := List.mem_range.1 h1
      refine ⟨i, h1, rfl, ?_⟩
      rw [word_get (by rw [ptsAt_length]; exact h1)] at h2
      simpa using h2
/-- The same symbols, in another order. -/
theorem wr_perm {m : List F8} {xs ys xs' ys' : List F8} (h : (xs.zip ys).Perm (xs'.zip ys')) : wr m xs ys = wr m xs' ys' := (h.filter _).length_eq
theorem pts_perm {xs : List F8} {pl pl' : List Int} {ys ys' : List F8} (h : (pl.zip ys).Perm (pl'.zip ys')) : ((ptsAt xs pl).zip ys).Perm ((ptsAt xs pl').zip ys') := by
  have e : ∀ (l : List Int) (r : List F8), (ptsAt xs l).zip r = (l.zip r).map fun p => (coef xs p.1.toNat, p.2) := fun l r => by
    unfold ptsAt
    rw [List.zip_map_left]
    rfl
  rw [e, e]
  exact h.map _
theorem okP_perm {n : Nat} {pl pl' : List Int} (h : pl.Perm pl') : OkP n pl ↔ OkP n pl' :=
  ⟨fun k => ⟨fun i hi => k.1 i (h.mem_iff.2 hi), h.nodup_iff.1 k.2⟩, fun k => ⟨fun i hi => k.1 i (h.mem_iff.1 hi), h.nodup_iff.2 k.2⟩⟩
theorem mem_wrong_zip {xs m ys : List F8} {pl : List Int} {z : Int} (hok : OkP xs.length pl) (hl : pl.length = ys.length) : z ∈ wrong xs m pl ys ↔ ∃ y, (z, y) ∈ pl.zip ys ∧ eval m (coef xs z.toNat) ≠ y := by
  rw [mem_wrong hok]
  constructor
  · rintro ⟨i, hi, rfl, h⟩
    refine ⟨coef ys i, List.mem_iff_getElem.2 ⟨i, by rw [List.length_zip]; omega, ?_⟩, ?_⟩
    · rw [List.getElem_zip, coef_of_lt (by omega)]
      simp [List.getD_eq_getElem?_getD, hi]
    · rw [coef_of_lt (by rw [ptsAt_length]; exact hi)] at h
      simpa [ptsAt, List.getD_eq_getElem?_getD, hi] using h
  · rintro ⟨y, hy, h⟩
    obtain ⟨i, hi, e⟩ := List.mem_iff_getElem.1 hy
    rw [List.length_zip] at hi
    rw [List.getElem_zip] at e
    injection e with e1 e2
    have hi1 : i < pl.length := by omega
    refine ⟨i, hi1, by simp [List.getD_eq_getElem?_getD, hi1, e1], ?_⟩
    rw [coef_of_lt (by rw [ptsAt_length]; exact hi1), coef_of_lt (p := ys) (by omega), e2]
    simpa [ptsAt, e1] using h
theorem WIs.perm {xs : List F8} {k : Nat} {pl pl' : List Int} {ys ys' m : List F8} {t z : Int} {wl : List Int} (hl : pl.length = ys.length) (hl' : pl'.length = ys'.length) (h : (pl.zip ys).Perm (pl'.zip ys')) (hw : WIs xs k pl ys t m wl z) : WIs xs k pl' ys' t m wl z := by
  have hp : pl.Perm pl' := by
    have := h.map Prod.fst
    rwa [List.map_fst_zip (by omega), List.map_fst_zip (by omega)] at this
  have hlen := hp.length_eq
  have hok := okP_perm (n := xs.length) hp
  have hpp := pts_perm (xs := xs) h
  have hwr : ∀ m' : List F8, wr m' (ptsAt xs pl') ys' = wr m' (ptsAt xs pl) ys := fun m' => (wr_perm hpp).symm
  have hA : ((pl'.length = ys'.length ∧ OkP xs.length pl') ∧ 0 ≤ t) ↔ ((pl.length = ys.length ∧ OkP xs.length pl) ∧ 0 ≤ t) := by
    rw [hok]; exact ⟨fun h => ⟨⟨hl, h.1.2⟩, h.2⟩, fun h => ⟨⟨hl', h.1.2⟩, h.2⟩⟩
  unfold WIs
  rw [hA, ← hlen]
  rcases hw with ⟨a, h1⟩ | ⟨a, h1⟩ | ⟨a, b, h1, h2, h3, h4⟩ | ⟨a, b, h1, h2, h3, h4⟩
  · exact .inl ⟨a, h1⟩
  · exact .inr (.inl ⟨a, h1⟩)
  · refine .inr (.inr (.inl ⟨a, b, h1, h2, by rw [hwr]; exact h3, ?_⟩))
    rw [h4]
    have hok' := hok.1 a.1.2
    refine sorted_ext (wrong_sorted a.1.2) (wrong_sorted hok') fun x => ?_
    rw [mem_wrong_zip a.1.2 hl, mem_wrong_zip hok' hl']
    exact ⟨fun ⟨y, h5, h6⟩ => ⟨y, h.mem_iff.1 h5, h6⟩, fun ⟨y, h5, h6⟩ => ⟨y, h.mem_iff.2 h5, h6⟩⟩
  · exact .inr (.inr (.inr ⟨a, b, h1, h2, h3, fun m' hm' => by rw [hwr]; exact h4 m' hm'⟩))
end Go.Proofs.YtiapokojlkdddaaGreat.Wl

/- How far two lists are apart. -/
namespace Go.Proofs.YtiapokojlkdddaaGreat.Wl
open F8 Poly Rd

/-- At how many of the first n indices they differ. -/
def farN (a b : List F8) (n : Nat) : Nat := ((List.range n).filter fun i => decide (a[i]? ≠ b[i]?)).length
def far (a b : List F8) : Nat := farN a b (max a.length b.length)
theorem farN_zero (a b : List F8) : farN a b 0 = 0 := rfl
theorem farN_succ (a b : List F8) (n : Nat) : farN a b (n + 1) = farN a b n + if a[n]? ≠ b[n]? then 1 else 0 := by
  unfold farN
  rw [List.range_succ, List.filter_append, List.length_append]
  by_cases h : a[n]? = b[n]? <;> simp [h]
theorem farN_le (a b : List F8) (n : Nat) : farN a b n ≤ n := by
  induction n with
  | zero => exact Nat.le_refl _
  | succ n ih => rw [farN_succ]; split <;> omega
theorem farN_more (a b : List F8) {n : Nat} (h : max a.length b.length ≤ n) : farN a b n = far a b := by
  induction n with
  | zero => unfold far; congr 1; omega
  | succ n ih =>
    rcases Nat.lt_or_ge n (max a.length b.length) with h1 | h1
    · unfold far; congr 1; omega
    · rw [farN_succ, ih h1, List.getElem?_eq_none (by omega), List.getElem?_eq_none (by omega)]
      simp
theorem far_comm (a b : List F8) : far a b = far b a := by
  unfold far farN
  rw [Nat.max_comm]
  congr 1
  refine List.filter_congr fun i _ => ?_
  rw [Bool.eq_iff_iff]
  simp only [decide_eq_true_eq]
  exact ⟨fun h => h.symm, fun h => h.symm⟩
theorem farN_eq_zero {a b : List F8} {n : Nat} (h : farN a b n = 0) : ∀ i, i < n → a[i]? = b[i]? := by
  induction n with
  | zero => intro i hi; omega
  | succ n ih =>
    intro i hi
    rw [farN_succ] at h
    have h1 : farN a b n = 0 := by omega
    by_cases e : i = n
    · subst e
      rcases Classical.em (a[i]? = b[i]?) with h2 | h2
      · exact h2
      · rw [if_pos h2] at h; omega
    · exact ih h1 i (by omega)
theorem far_zero (a b : List F8) : far a b = 0 ↔ a = b := by
  constructor
  · intro h
    refine List.ext_getElem? fun i => ?_
    rcases Nat.lt_or_ge i (max a.length b.length) with h1 | h1
    · exact farN_eq_zero h i h1
    · rw [List.getElem?_eq_none (by omega), List.getElem?_eq_none (by omega)]
  · rintro rfl
    unfold far farN
    simp
theorem farN_tri (a b c : List F8) (n : Nat) : farN a b n ≤ farN a c n + farN c b n := by
  induction n with
  | zero => simp [farN]
  | succ n ih =>
    rw [farN_succ, farN_succ, farN_succ]
    by_cases h1 : a[n]? = b[n]?
    · rw [if_neg (by simpa using h1)]; split <;> split <;> omega
    · rw [if_pos h1]
      by_cases h2 : a[n]? = c[n]?
      · have h3 : c[n]? ≠ b[n]? := fun e => h1 (h2.trans e)
        rw [if_pos h3]; split <;> omega
      · rw [if_pos h2]; split <;> omega
theorem far_tri (a b c : List F8) : far a b ≤ far a c + far c b := by
  have h := farN_tri a b c (max a.length (max b.length c.length))
  rw [farN_more a b (by omega), farN_more a c (by omega), farN_more c b (by omega)] at h
  exact h
theorem far_le (a b : List F8) : far a b ≤ max a.length b.length := farN_le _ _ _
/-- What is asked at an index. -/
theorem differ (a b : List F8) (i : Nat) (hi : i < max a.length b.length) : a[i]? ≠ b[i]? ↔ (a.length ≤ i ∨ b.length ≤ i ∨ coef a i ≠ coef b i) := by
  rcases Nat.lt_or_ge i a.length with h1 | h1 <;> rcases Nat.lt_or_ge i b.length with h2 | h2
  · rw [List.getElem?_eq_getElem h1, List.getElem?_eq_getElem h2, coef_of_lt h1, coef_of_lt h2]
    constructor
    · intro h; exact .inr (.inr (fun e => h (by rw [e])))
    · rintro (h | h | h) e
      · omega
      · omega
      · exact h (by injection e)
  · rw [List.getElem?_eq_getElem h1, List.getElem?_eq_none h2]
    exact ⟨fun _ => .inr (.inl h2), fun _ e => by cases e⟩
  · rw [List.getElem?_eq_none h1, List.getElem?_eq_getElem h2]
    exact ⟨fun _ => .inl h1, fun _ e => by cases e⟩
  · omega
end Go.Proofs.YtiapokojlkdddaaGreat.Wl

/- What the program's decoder with wrong symbols owes; over a law's state. -/
namespace Go.Proofs.YtiapokojlkdddaaGreat.Wl
open Go.RowKit Go.Shelf F8 Poly GF Rd

/-- Two lists of one's own and an error's number, the field at g turned at most. -/
def WRes (g : Nat) (w : World) (m : List F8) (wl : List Int) (z : Int) (e : Ending) (w' : World) : Prop :=
  ∃ A c B d, e = .returned (.tuple #[.slice A m.length c, .slice B wl.length d, .int .i64 z]) ∧ m.length ≤ c ∧ wl.length ≤ d ∧ Own w' w.heap.size 5 (.slice A m.length c) (bv (bs m)) ∧ Own w' w.heap.size 3 (.slice B wl.length d) (zs wl) ∧ FldP w' (some ⟨g, 0, none⟩) ∧ Past w.heap.size g w w'
/-- What Word answers. -/
def wordOf (xs m : List F8) (z : Int) : List F8 := if z = 0 then word m xs else []
/-- The program's calls. -/
structure Spec : Prop where
  decodeP : ∀ {w : World} {b g : Nat} {A : Option Addr} {xs : List F8} {n c k : Nat} (_ : Cd w b g A xs n c k) (P : Option Addr) (pl : List Int) (m d : Nat) (_ : pl.length = m) (_ : Row w P (zs pl)) (_ : m ≤ 1000) (B : Option Addr) (ys : List F8) (o e : Nat) (_ : ys.length = o) (_ : Bytes w B (bs ys)) (_ : o ≤ e) (_ : o ≤ 1000) (_ : Far (some ⟨g, 0, none⟩) B ys) (t : Int) (_ : -9223372036854775808 ≤ t) (_ : t < 9223372036854775808),
    Calls Tryz.prog 13 #[.pointer (some ⟨b, 0, none⟩), .slice P m d, .slice B o e, .int .i64 t] w fun e w' => ∃ msg wl z, WIs xs k pl ys t msg wl z ∧ WRes g w msg wl z e w'
  decode0 : ∀ (P : Option Addr) (m d : Nat) (B : Option Addr) (o e : Nat) (t : Int) (w : World),
    Calls Tryz.prog 13 #[.pointer none, .slice P m d, .slice B o e, .int .i64 t] w fun e w' => e = .returned (.tuple #[.slice none 0 0, .slice none 0 0, .int .i64 1]) ∧ Below w.heap.size w w'
  wordP : ∀ {w : World} {b g : Nat} {A : Option Addr} {xs : List F8} {n c k : Nat} (_ : Cd w b g A xs n c k) (P : Option Addr) (pl : List Int) (m d : Nat) (_ : pl.length = m) (_ : Row w P (zs pl)) (_ : m ≤ 1000) (B : Option Addr) (ys : List F8) (o e : Nat) (_ : ys.length = o) (_ : Bytes w B (bs ys)) (_ : o ≤ e) (_ : o ≤ 1000) (_ : Far (some ⟨g, 0, none⟩) B ys) (t : Int) (_ : -9223372036854775808 ≤ t) (_ : t < 9223372036854775808),
    Calls Tryz.prog 14 #[.pointer (some ⟨b, 0, none⟩), .slice P m d, .slice B o e, .int .i64 t] w fun e w' => ∃ msg wl z, WIs xs k pl ys t msg wl z ∧ PolyResE (some ⟨g, 0, none⟩) w w' e (wordOf xs msg z) z
  word0 : ∀ (P : Option Addr) (m d : Nat) (B : Option Addr) (o e : Nat) (t : Int) (w : World),
    Calls Tryz.prog 14 #[.pointer none, .slice P m d, .slice B o e, .int .i64 t] w fun e w' => e = .returned (.tuple #[.slice none 0 0, .int .i64 1]) ∧ Below w.heap.size w w'
  farP : ∀ (A : Option Addr) (p : List F8) (m c : Nat) (B : Option Addr) (q : List F8) (n d : Nat) (w : World) (_ : p.length = m) (_ : Bytes w A (bs p)) (_ : m ≤ c) (_ : m ≤ 1000) (_ : q.length = n) (_ : Bytes w B (bs q)) (_ : n ≤ d) (_ : n ≤ 1000),
    Calls Tryz.prog 59 #[.slice A m c, .slice B n d] w fun e w' => e = .returned (.int .i64 (far p q : Nat)) ∧ Below w.heap.size w w'
section
variable {w0 w w' : World} {g b : Nat} {A : Option Addr} {xs : List F8} {n c k : Nat} {ls : List (Option Addr × List F8)}
/-- Two lists more, one's own, and what has been kept. -/
def MoreW (w0 : World) (g b : Nat) (A : Option Addr) (xs : List F8) (n c k : Nat) (ls : List (Option Addr × List F8)) (r : List F8) (wl : List Int) (z : Int) (w : World) (e : Ending) (w' : World) : Prop :=
  ∃ B d C f, e = .returned (.tuple #[.slice B r.length d, .slice C wl.length f, .int .i64 z]) ∧ r.length ≤ d ∧ wl.length ≤ f ∧ Own w' w.heap.size 3 (.slice C wl.length f) (zs wl) ∧ R w0 g b A xs n c k ((B, r) :: ls) w' ∧ Past w.heap.size g w w'
theorem wdecodeW (T : Spec) (h : R w0 g b A xs n c k ls w) (P : Option Addr) (pl : List Int) (m d : Nat) (hl : pl.length = m) (hr : Row w P (zs pl)) (hm : m ≤ 1000) (B : Option Addr) (q : List F8) (o e : Nat) (hB : (B, q) ∈ ls) (ho : q.length = o) (he : o ≤ e) (ho2 : o ≤ 1000) (t : Int) (ht : -9223372036854775808 ≤ t) (ht2 : t < 9223372036854775808) :
    Calls Tryz.prog 13 #[.pointer (some ⟨b, 0, none⟩), .slice P m d, .slice B o e, .int .i64 t] w fun e w' => ∃ r wl z, WIs xs k pl q t r wl z ∧ MoreW w0 g b A xs n c k ls r wl z w e w' :=
  (T.decodeP h.cd P pl m d hl hr hm B q o e ho (h.kw.bytes hB) he ho2 (h.kw.far hB) t ht ht2).mono fun _ _ ⟨r, wl, z, hx, A1, c1, B1, d1, h1, h2, h3, h4, h5, h6, h7⟩ =>
    ⟨r, wl, z, hx, A1, c1, B1, d1, h1, h2, h3, h5, (h.past h6 h7).own h4 h.kw.glt, h7⟩
/-- .. where the answer is known. -/
theorem wdecodeW' (T : Spec) (h : R w0 g b A xs n c k ls w) (P : Option Addr) (pl : List Int) (m d : Nat) (hl : pl.length = m) (hr : Row w P (zs pl)) (hm : m ≤ 1000) (B : Option Addr) (q : List F8) (o e : Nat) (hB : (B, q) ∈ ls) (ho : q.length = o) (he : o ≤ e) (ho2 : o ≤ 1000) (t : Int) (ht : -9223372036854775808 ≤ t) (ht2 : t < 9223372036854775808) (r : List F8) (wl : List Int) (z : Int) (hd : WIs xs k pl q t r wl z) :
    Calls Tryz.prog 13 #[.pointer (some ⟨b, 0, none⟩), .slice P m d, .slice B o e, .int .i64 t] w fun e w' => MoreW w0 g b A xs n c k ls r wl z w e w' :=
  (wdecodeW T h P pl m d hl hr hm B q o e hB ho he ho2 t ht ht2).mono fun e w' ⟨r', wl', z', hx, hy⟩ => by
    obtain ⟨rfl, rfl, rfl⟩ := hx.only h.cd.nd hd
    exact hy
theorem wwordW (T : Spec) (h : R w0 g b A xs n c k ls w) (P : Option Addr) (pl : List Int) (m d : Nat) (hl : pl.length = m) (hr : Row w P (zs pl)) (hm : m ≤ 1000) (B : Option Addr) (q : List F8) (o e : Nat) (hB : (B, q) ∈ ls) (ho : q.length = o) (he : o ≤ e) (ho2 : o ≤ 1000) (t : Int) (ht : -9223372036854775808 ≤ t) (ht2 : t < 9223372036854775808) (r : List F8) (wl : List Int) (z : Int) (hd : WIs xs k pl q t r wl z) (v : List F8) (hv : wordOf xs r z = v) :
    Calls Tryz.prog 14 #[.pointer (some ⟨b, 0, none⟩), .slice P m d, .slice B o e, .int .i64 t] w fun e w' => MoreR w0 g b A xs n c k ls v z e w' :=
  (T.wordP h.cd P pl m d hl hr hm B q o e ho (h.kw.bytes hB) he ho2 (h.kw.far hB) t ht ht2).mono fun e w' ⟨r', wl', z', hx, hy⟩ => by
    obtain ⟨rfl, rfl, rfl⟩ := hx.only h.cd.nd hd
    rw [hv] at hy
    exact MoreR.of (r := v) (z := z') h hy
end
end Go.Proofs.YtiapokojlkdddaaGreat.Wl

/- More of what laws with wrong symbols need: Some, rising; rows of places compared, cut. -/
namespace Go.Proofs.YtiapokojlkdddaaGreat.Wl
open Go.RowKit Go.Shelf F8 Poly GF Rd
attribute [local go_sem] Oper.semAt_some

/-- What Some gives: some of the places, rising. -/
def KSomeR (w : World) (n most : Nat) (e : Ending) (w' : World) : Prop :=
  ∃ (l : List Int) (A : Option Addr) (c : Nat), OkP n l ∧ l.Pairwise (· < ·) ∧ l.length ≤ most ∧ e = .returned (.slice A l.length c) ∧ l.length ≤ c ∧ Own w' w.heap.size 3 (.slice A l.length c) (zs l) ∧ Below w.heap.size w w'
set_option maxRecDepth 100000 in
set_option maxHeartbeats 4000000 in
theorem somer_calls (x n most : Nat) (hn : n ≤ 300) (hm : most ≤ 300) (w : World) : Calls Tryz.prog 52 #[.int .u64 x, .int .i64 n, .int .i64 most] w (KSomeR w n most) := by
  go_enter Tryz.func52, Tryz.ntmps52
  go_wp2
  go_loopw [7, 8] (fun out i wr => ∃ (j : Nat) (l : List Int) (A : Option Addr) (c m : Nat), j ≤ 64 ∧ j ≤ n ∧ i = .int .i64 j ∧ out = .slice A m c ∧ Hid (l.length = m) ∧ m ≤ c ∧ m ≤ j ∧ m ≤ most ∧ Hid (OkP j l) ∧ Hid (l.Pairwise (· < ·)) ∧ Hid (Own wr w.heap.size 3 (.slice A m c) (zs l)) ∧ Below w.heap.size w wr) (fun _ i _ => n - (intOf i).toNat)
  case atStart => exact ⟨0, [], none, 0, 0, by omega, by omega, rfl, rfl, Lib.hid rfl, by omega, by omega, by omega, Lib.hid ⟨by simp, by simp⟩, Lib.hid List.Pairwise.nil, Lib.hid (Own.nil _ _ _), Below.refl _ _⟩
  case round =>
    obtain ⟨j, l, A, c, m, hj, hjn, rfl, rfl, HM, hmc, hmj, hmm, HK, HPw, HO, HW⟩ := hrel
    have hsz := HW.size
    have HD : Hid (OkP n l ∧ l.Pairwise (· < ·) ∧ l.length ≤ most ∧ l.length ≤ c) := Lib.hid ⟨⟨fun i hi => by have := HK.out.1 i hi; omega, HK.out.2⟩, HPw.out, by rw [HM.out]; exact hmm, by rw [HM.out]; exact hmc⟩
    by_cases h1 : j < n
    · by_cases h2 : j < 64
      · by_cases h3 : m < most
        · cases hbit : (bits BinOp.and IntKind.u64 ((x : Int) / 2 ^ j) 1 == 1) with
          | true =>
            have HL : Hid ((zs l).length = m) := Lib.hid (by rw [zs_length, HM.out])
            have HT : Hid (zs l ++ zs [(j : Int)] = zs (l ++ [(j : Int)])) := Lib.hid (zs_append _ _).symm
            have HLL : Hid ((l ++ [(j : Int)]).length = m + 1) := Lib.hid (by rw [List.length_append, HM.out]; rfl)
            have HK2 : Hid (OkP (j + 1) (l ++ [(j : Int)])) := Lib.hid ⟨fun i hi => by
              rcases List.mem_append.1 hi with hi | hi
              · have := HK.out.1 i hi; omega
              · obtain rfl := List.mem_singleton.1 hi; omega, by
              rw [List.nodup_append]
              exact ⟨HK.out.2, by simp, fun a ha b hb e => by
                obtain rfl := List.mem_singleton.1 hb
                have := HK.out.1 a ha; omega⟩⟩
            have HPw2 : Hid ((l ++ [(j : Int)]).Pairwise (· < ·)) := Lib.hid (List.pairwise_append.2 ⟨HPw.out, by simp, fun a ha b hb => by
              obtain rfl := List.mem_singleton.1 hb
              exact (HK.out.1 a ha).2⟩)
            go_wp2_with (at_builtin; refine wpList_app _ rfl _ _ _ rfl w.heap.size 3 _ 8 Tryz.underlying23 info_i rfl (by omega) _ _ rfl (HO.out.alloc _) (some ⟨wr.heap.size, 0, none⟩) 1 1 (zs [(j : Int)]) rfl rfl (Row.new _ _ _ _) (zs_one _) (by rw [HL.out]; omega) (by simp; omega) ?_; rintro v2 w3 hown hg3 -)
            have hB2 := (HW.alloc hsz _).trans ((HO.out.alloc _).grew (by simp; omega) hg3)
            rw [HT.out] at hown
            obtain ⟨A3, c3, rfl, hr3, -⟩ := hown.form
            have hc3 := own_cap2 hown (by rw [zs_length])
            rw [zs_length, HLL.out] at hown hc3 ⊢
            have HO3 := Lib.hid hown
            clear hown hg3
            go_roundw
            case rel => exact ⟨j + 1, _, A3, c3, m + 1, by omega, by omega, by go_num, rfl, HLL, hc3, by omega, by omega, HK2, HPw2, HO3, hB2⟩
            case measure => simp [intOf]; omega
          | false =>
            have HK2 : Hid (OkP (j + 1) l) := Lib.hid ⟨fun i hi => by have := HK.out.1 i hi; omega, HK.out.2⟩
            go_wp2
            go_roundw
            case rel => exact ⟨j + 1, l, A, c, m, by omega, by omega, by go_num, rfl, HM, hmc, by omega, hmm, HK2, HPw, HO, HW⟩
            case measure => simp [intOf]; omega
        · go_wp2
          go_ret
          exact ⟨l, A, c, HD.out.1, HD.out.2.1, HD.out.2.2.1, by rw [HM.out]; rfl, HD.out.2.2.2, by rw [HM.out]; exact HO.out, HW⟩
      · go_wp2
        go_ret
        exact ⟨l, A, c, HD.out.1, HD.out.2.1, HD.out.2.2.1, by rw [HM.out]; rfl, HD.out.2.2.2, by rw [HM.out]; exact HO.out, HW⟩
    · go_wp2
      go_ret
      exact ⟨l, A, c, HD.out.1, HD.out.2.1, HD.out.2.2.1, by rw [HM.out]; rfl, HD.out.2.2.2, by rw [HM.out]; exact HO.out, HW⟩
set_option maxHeartbeats 1000000 in
theorem samez_calls (A B : Option Addr) (p q : List Int) (m n c d : Nat) (w : World) (hm : p.length = m) (hn : q.length = n) (hml : m ≤ 1000000) (hb : Row w A (zs p)) (hb2 : Row w B (zs q)) (b : Bool) (hbq : decide (p = q) = b) :
    Calls Tryz.prog 38 #[.slice A m c, .slice B n d] w fun e w' => e = .returned (.bool b) ∧ Below w.heap.size w w' := by
  by_cases hmn : m = n
  · subst hmn
    go_enter Tryz.func38, Tryz.ntmps38
    go_wp2
    go_loopw [5] (fun i wr => ∃ k : Nat, k ≤ m ∧ i = .int .i64 k ∧ Below w.heap.size w wr ∧ p.take k = q.take k) (fun i _ => m - (intOf i).toNat)
    case atStart => exact ⟨0, Nat.zero_le _, rfl, Below.refl _ _, rfl⟩
    case round =>
      obtain ⟨k, hk, rfl, hB, ht⟩ := hrel
      by_cases hkm : k < m
      · obtain ⟨b1, o1, rfl, h1⟩ := zs_at (hb.below hB) (k := k) (by omega)
        obtain ⟨b2, o2, rfl, h2⟩ := zs_at (hb2.below hB) (k := k) (by omega)
        have e1 := take_succ' p (k := k) (by omega)
        have e2 := take_succ' q (k := k) (by omega)
        obtain ⟨x, hx⟩ : ∃ x, p[k] = x := ⟨_, rfl⟩
        obtain ⟨y, hy⟩ : ∃ y, q[k] = y := ⟨_, rfl⟩
        rw [hx] at h1 e1
        rw [hy] at h2 e2
        clear hx hy
        by_cases hxy : x = y
        · subst hxy
          have HT : Hid (p.take (k + 1) = q.take (k + 1)) := Lib.hid (by rw [e1, e2, ht])
          clear e1 e2 ht
          go_wp2
          go_region
          go_wp2
          go_roundw
          case rel => exact ⟨k + 1, by omega, by go_num, hB.drew, HT.out⟩
          case measure => simp [intOf]; omega
        · have hne : b = false := by
            rw [← hbq, decide_eq_false_iff_not]
            rintro rfl
            rw [e1] at e2
            exact hxy (by simpa using e2)
          have hxy2 : (x == y) = false := by simpa using hxy
          subst hne
          clear e1 e2 ht
          go_wp2
          go_region
          go_wp2
          go_ret
          exact ⟨rfl, hB.drew⟩
      · obtain rfl : k = m := by omega
        have hpq : b = true := by
          rw [← hbq, decide_eq_true_iff]
          rw [List.take_of_length_le (by omega), List.take_of_length_le (by omega)] at ht
          exact ht
        subst hpq
        go_wp2
        go_ret
        exact ⟨rfl, hB⟩
  · have hne : b = false := by
      rw [← hbq, decide_eq_false_iff_not]
      rintro rfl
      omega
    subst hne
    have hmn2 : ¬ ((m : Int) = (n : Int)) := by omega
    go_enter Tryz.func38, Tryz.ntmps38
    go_wp2
    go_ret
    exact ⟨rfl, Below.refl _ _⟩
/-- 's[:k]' of numbers. -/
theorem cut_ints {w : World} {A : Option Addr} {l : List Int} (h : Row w A (zs l)) (c k : Nat) (hk : k ≤ l.length) (hc : l.length ≤ c) :
    ∃ A2, (∀ w, (Instr.slice 23 (.slice A l.length c) none (some (.int .i64 (k : Int))) none).run Tryz.prog w = .ok (.slice A2 k c) w) ∧ Row w A2 (zs (l.take k)) := by
  refine ⟨if c = 0 then A else A.map (·.add (0 * 1)), fun w => ?_, ?_⟩
  · obtain ⟨i, hi, _, hi2, _⟩ := info_parts info_i
    simp [Instr.slice, Instr.sliceBounds, Instr.sliceBound, run_underlying Tryz.underlying23, asIntOf, sizeOf, typeInfo, Sem.run_bind, hi]
    intro h; omega
  · by_cases hl : l = []
    · subst hl; simp only [List.take_nil]; exact Row.nil _ _
    · have h0 : 0 < l.length := List.length_pos_iff.2 hl
      obtain ⟨b, off, rfl, -⟩ := zs_at h h0
      rw [if_neg (by omega)]
      simp only [Option.map_some, Nat.zero_mul, addr_add, Nat.add_zero]
      intro i u hu
      refine h i u ?_
      simp only [zs, List.map_take, List.getElem?_take] at hu
      split at hu
      · exact hu
      · cases hu
end Go.Proofs.YtiapokojlkdddaaGreat.Wl
