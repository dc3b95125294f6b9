/- Of the program, joined: LoMath, LoMath2, RdRef, RdRef2, RdApp, PolyCode2, PolySt, PolyCode3, PolyCode4. -/
import Derived.Test.YtofihklinkpbiaaGreatPl07
import Derived.Test.YtofihklinkpbiaaGreatPl05
import Derived.Test.YtofihklinkpbiaaGreatPl04
import Derived.Lib.AppendZeros
import Derived.Lib.AppendStr
import Derived.Test.YtofihklinkpbiaaGreatPl03
import Derived.Laws.CopyOwn
namespace Go.Proofs.YtofihklinkpbiaaGreat.Lo
open F8 Poly Rd GF Ms
def cpts (s G : Nat) : List F8 := (List.range (G * s)).map fun k => ⟨gp (Pt.gidx s (255 / s) k), gp_lt _⟩
theorem cpts_length (s G : Nat) : (cpts s G).length = G * s := by simp [cpts]
theorem cpts_bs (s G : Nat) : bs (cpts s G) = Pt.gpts s (255 / s) G := by simp [bs, cpts, Pt.gpts, List.map_map, Function.comp_def]
theorem cpts_nodup {s G : Nat} (hst : s * (255 / s) = 255) (hG : G ≤ 255 / s) : (cpts s G).Nodup := by
 unfold cpts
 rw [List.nodup_iff_pairwise_ne, List.pairwise_map]
 refine (List.nodup_iff_pairwise_ne.1 List.nodup_range).imp_of_mem fun {a b} ha hb hne e => hne ?_
 exact Pt.pts_unlike hst hG (List.mem_range.1 ha) (List.mem_range.1 hb) (congrArg F8.n e)
structure Lp (n k r q G : Nat) : Prop where
 r1 : 1 ≤ r
 st : (r + 1) * (255 / (r + 1)) = 255
 en : n = G * (r + 1)
 gt : G ≤ 255 / (r + 1)
 ek : k = q * r
 q1 : 1 ≤ q
 le : q * (r + 1) ≤ n + 1
def pol (q r : Nat) (m : List F8) : List F8 := (List.range (q * (r + 1) - 1)).map fun p => if p % (r + 1) < r then coef m (p / (r + 1) * r + p % (r + 1)) else 0
def unpol (q r : Nat) (p : List F8) : List F8 := (List.range (q * r)).map fun i => coef p (i / r * (r + 1) + i % r)
def IsM (r : Nat) (p : List F8) : Prop := ∀ j, j % (r + 1) = r → coef p j = 0
theorem pol_length (q r : Nat) (m : List F8) : (pol q r m).length = q * (r + 1) - 1 := by simp [pol]
theorem unpol_length (q r : Nat) (p : List F8) : (unpol q r p).length = q * r := by simp [unpol]
theorem coef_map_range (n : Nat) (f : Nat → F8) {i : Nat} (h : i < n) : coef ((List.range n).map f) i = f i := by
 rw [coef_of_lt (by simpa using h)]; simp
theorem coef_pol {q r : Nat} (m : List F8) {j : Nat} (h : j < q * (r + 1) - 1) : coef (pol q r m) j = if j % (r + 1) < r then coef m (j / (r + 1) * r + j % (r + 1)) else 0 := coef_map_range _ _ h
theorem coef_unpol {q r : Nat} (p : List F8) {i : Nat} (h : i < q * r) : coef (unpol q r p) i = coef p (i / r * (r + 1) + i % r) := coef_map_range _ _ h
theorem pol_isM (q r : Nat) (m : List F8) : IsM r (pol q r m) := fun j hj => by
 rcases Nat.lt_or_ge j (q * (r + 1) - 1) with h | h
 ·rw [coef_pol m h, if_neg (by omega)]
 ·exact coef_of_le (by rw [pol_length]; exact h)
theorem place {q r i : Nat} (hr : 1 ≤ r) (hi : i < q * r) : (i / r * (r + 1) + i % r) % (r + 1) = i % r ∧ (i / r * (r + 1) + i % r) / (r + 1) = i / r ∧ i / r * (r + 1) + i % r < q * (r + 1) - 1 := by
 have h1 : i % r < r := Nat.mod_lt _ (by omega)
 have h2 : i / r < q := (Nat.div_lt_iff_lt_mul (by omega)).2 hi
 refine ⟨?_, ?_, ?_⟩
 ·rw [Nat.add_comm, Nat.add_mul_mod_self_right, Nat.mod_eq_of_lt (by omega)]
 ·rw [Nat.add_comm, Nat.add_mul_div_right _ _ (by omega), Nat.div_eq_of_lt (by omega), Nat.zero_add]
 ·have h3 := Nat.mul_le_mul_right (r + 1) (show i / r + 1 ≤ q by omega)
  rw [Nat.add_mul, Nat.one_mul] at h3
  omega
theorem place2 {q r j : Nat} (hr : 1 ≤ r) (hj : j < q * (r + 1) - 1) (hm : j % (r + 1) < r) : (j / (r + 1) * r + j % (r + 1)) % r = j % (r + 1) ∧ (j / (r + 1) * r + j % (r + 1)) / r = j / (r + 1) ∧ j / (r + 1) * r + j % (r + 1) < q * r := by
 have h2 : j / (r + 1) < q := (Nat.div_lt_iff_lt_mul (by omega)).2 (by omega)
 refine ⟨?_, ?_, ?_⟩
 ·rw [Nat.add_comm, Nat.add_mul_mod_self_right, Nat.mod_eq_of_lt hm]
 ·rw [Nat.add_comm, Nat.add_mul_div_right _ _ (by omega), Nat.div_eq_of_lt hm, Nat.zero_add]
 ·have h3 := Nat.mul_le_mul_right r (show j / (r + 1) + 1 ≤ q by omega)
  rw [Nat.add_mul, Nat.one_mul] at h3
  omega
theorem coef_pol_at {q r i : Nat} (hr : 1 ≤ r) (m : List F8) (hi : i < q * r) : coef (pol q r m) (i / r * (r + 1) + i % r) = coef m i := by
 obtain ⟨h1, h2, h3⟩ := place hr hi
 rw [coef_pol m h3, h1, h2, if_pos (Nat.mod_lt _ (by omega))]
 congr 1
 rw [Nat.mul_comm]
 exact Nat.div_add_mod i r
theorem unpol_pol {q r : Nat} (hr : 1 ≤ r) {m : List F8} (hm : m.length = q * r) : unpol q r (pol q r m) = m := by
 refine eq_of_eqv (by rw [unpol_length, hm]) fun i => ?_
 rcases Nat.lt_or_ge i (q * r) with h | h
 ·rw [coef_unpol _ h, coef_pol_at hr m h]
 ·rw [coef_of_le (by rw [unpol_length]; exact h), coef_of_le (by omega)]
theorem pol_unpol {q r : Nat} (hr : 1 ≤ r) {p : List F8} (hp : p.length = q * (r + 1) - 1) (h : IsM r p) : pol q r (unpol q r p) = p := by
 refine eq_of_eqv (by rw [pol_length, hp]) fun j => ?_
 rcases Nat.lt_or_ge j (q * (r + 1) - 1) with hj | hj
 ·rw [coef_pol _ hj]
  by_cases hm : j % (r + 1) < r
  ·obtain ⟨h1, h2, h3⟩ := place2 hr hj hm
   rw [if_pos hm, coef_unpol _ h3, h1, h2]
   congr 1
   rw [Nat.mul_comm]
   exact Nat.div_add_mod j (r + 1)
  ·rw [if_neg hm, h j (by have := Nat.mod_lt j (show 0 < r + 1 by omega); omega)]
 ·rw [coef_of_le (by rw [pol_length]; exact hj), coef_of_le (by omega)]
theorem pol_inj {q r : Nat} (hr : 1 ≤ r) {m m' : List F8} (hm : m.length = q * r) (hm' : m'.length = q * r) (h : pol q r m = pol q r m') : m = m' := by
 rw [← unpol_pol hr hm, ← unpol_pol hr hm', h]
theorem pol_add {q r : Nat} (a b s : List F8) (hs : ∀ i, coef s i = coef a i + coef b i) : Eqv (pol q r s) (padd (pol q r a) (pol q r b)) := fun j => by
 rw [coef_padd]
 rcases Nat.lt_or_ge j (q * (r + 1) - 1) with h | h
 ·rw [coef_pol _ h, coef_pol _ h, coef_pol _ h]
  split
  ·exact hs _
  ·rw [add_zero]
 ·rw [coef_of_le (by rw [pol_length]; exact h), coef_of_le (by rw [pol_length]; exact h), coef_of_le (by rw [pol_length]; exact h), add_zero]
theorem coef_take {p : List F8} {a j : Nat} (h : j < a) : coef (p.take a) j = coef p j := by simp [coef, List.getD_eq_getElem?_getD, h]
def LOk (n : Nat) (sh : List (Int × List F8)) : Prop := (sh.map Prod.fst).Nodup ∧ ∀ o ∈ sh, (0 ≤ o.1 ∧ o.1 < (n : Int)) ∧ o.2.length = 1
instance (n : Nat) (sh : List (Int × List F8)) : Decidable (LOk n sh) := inferInstanceAs (Decidable (_ ∧ _))
def plS (sh : List (Int × List F8)) : List Int := sh.map Prod.fst
def ysS (sh : List (Int × List F8)) : List F8 := sh.map fun o => coef o.2 0
theorem plS_length (sh : List (Int × List F8)) : (plS sh).length = sh.length := by simp [plS]
theorem ysS_length (sh : List (Int × List F8)) : (ysS sh).length = sh.length := by simp [ysS]
theorem LOk.okp {n : Nat} {sh : List (Int × List F8)} (h : LOk n sh) : OkP n (plS sh) := ⟨fun i hi => by
 obtain ⟨o, ho, rfl⟩ := List.mem_map.1 hi
 exact (h.2 o ho).1, h.1⟩
def LIs (xs : List F8) (q r : Nat) (sh : List (Int × List F8)) (t : Int) (m : List F8) (wl : List Int) (z : Int) : Prop :=
 (¬ (LOk xs.length sh ∧ 0 ≤ t) ∧ m = [] ∧ wl = [] ∧ z = 2) ∨
 ((LOk xs.length sh ∧ 0 ≤ t) ∧ (sh.length : Int) < (q * (r + 1) - 1 : Nat) + 2 * t ∧ m = [] ∧ wl = [] ∧ z = 70) ∨
 ((LOk xs.length sh ∧ 0 ≤ t) ∧ ((q * (r + 1) - 1 : Nat) : Int) + 2 * t ≤ (sh.length : Int) ∧ z = 0 ∧ m.length = q * r ∧ (Wl.wr (pol q r m) (ptsAt xs (plS sh)) (ysS sh) : Int) ≤ t ∧ wl = Wl.wrong xs (pol q r m) (plS sh) (ysS sh)) ∨
 ((LOk xs.length sh ∧ 0 ≤ t) ∧ ((q * (r + 1) - 1 : Nat) : Int) + 2 * t ≤ (sh.length : Int) ∧ z = 80 ∧ m = [] ∧ wl = [] ∧ ∀ m' : List F8, m'.length = q * r → t < (Wl.wr (pol q r m') (ptsAt xs (plS sh)) (ysS sh) : Int))
section
variable {xs : List F8} {q r : Nat} {sh : List (Int × List F8)} {t : Int}
theorem lis_good (h : LOk xs.length sh) (ht : 0 ≤ t) (hl : ((q * (r + 1) - 1 : Nat) : Int) + 2 * t ≤ (sh.length : Int)) {m : List F8} (_ : m.length = q * r) (hw : (Wl.wr (pol q r m) (ptsAt xs (plS sh)) (ysS sh) : Int) ≤ t) :
  Wl.WIs xs (q * (r + 1) - 1) (plS sh) (ysS sh) t (pol q r m) (Wl.wrong xs (pol q r m) (plS sh) (ysS sh)) 0 :=
 Wl.wis_ok (by rw [plS_length, ysS_length]) h.okp ht (by rw [plS_length]; exact hl) (pol_length q r m) hw
theorem LIs.only (hr : 1 ≤ r) (hn : xs.Nodup) {m m' : List F8} {wl wl' : List Int} {z z' : Int} (h : LIs xs q r sh t m wl z) (h' : LIs xs q r sh t m' wl' z') : m = m' ∧ wl = wl' ∧ z = z' := by
  rcases h with ⟨a, h1, h2, h3⟩ | ⟨a, b, h1, h2, h3⟩ | ⟨a, b, h1, h2, h3, h4⟩ | ⟨a, b, h1, h2, h3, h4⟩ <;>
  rcases h' with ⟨a', h1', h2', h3'⟩ | ⟨a', b', h1', h2', h3'⟩ | ⟨a', b', h1', h2', h3', h4'⟩ | ⟨a', b', h1', h2', h3', h4'⟩ <;>
  first
    | exact absurd a' a
    | exact absurd a a'
    | exact absurd b (by omega)
    | exact absurd b' (by omega)
    | exact ⟨h1.trans h1'.symm, h2.trans h2'.symm, h3.trans h3'.symm⟩
    | exact ⟨h2.trans h2'.symm, h3.trans h3'.symm, h1.trans h1'.symm⟩
    | exact absurd h3 (by have := h4' m h2; omega)
    | exact absurd h3' (by have := h4 m' h2'; omega)
    | (obtain ⟨e, -, -⟩ := (lis_good a.1 a.2 b h2 h3).only hn (lis_good a'.1 a'.2 b' h2' h3')
       have hm := pol_inj hr h2 h2' e
       subst hm
       exact ⟨rfl, h4.trans h4'.symm, h1.trans h1'.symm⟩)
theorem lis_of (hr : 1 ≤ r) (hn : xs.Nodup) (h : LOk xs.length sh) {p : List F8} {wl : List Int} {z : Int} (hw : Wl.WIs xs (q * (r + 1) - 1) (plS sh) (ysS sh) t p wl z) :
  (z ≠ 0 → LIs xs q r sh t [] [] z) ∧ (z = 0 → IsM r p → LIs xs q r sh t (unpol q r p) wl 0) ∧ (z = 0 → ¬ IsM r p → LIs xs q r sh t [] [] 80) := by
 have hl : (plS sh).length = (ysS sh).length := by rw [plS_length, ysS_length]
 have hw0 := hw
 rcases hw with ⟨a, -, -, h3⟩ | ⟨a, b, -, -, h3⟩ | ⟨a, b, h1, h2, h3, h4⟩ | ⟨a, b, h1, -, -, h4⟩
 ·subst h3
  refine ⟨fun _ => .inl ⟨fun e => a ⟨⟨hl, h.okp⟩, e.2⟩, rfl, rfl, rfl⟩, fun e => absurd e (by decide), fun e => absurd e (by decide)⟩
 ·subst h3
  rw [plS_length] at b
  exact ⟨fun _ => .inr (.inl ⟨⟨h, a.2⟩, b, rfl, rfl, rfl⟩), fun e => absurd e (by decide), fun e => absurd e (by decide)⟩
 ·subst h1
  rw [plS_length] at b
  refine ⟨fun e => absurd rfl e, fun _ hM => ?_, fun _ hM => ?_⟩
  ·have e := pol_unpol hr h2 hM
   exact .inr (.inr (.inl ⟨⟨h, a.2⟩, b, rfl, unpol_length _ _ _, by rw [e]; exact h3, by rw [e]; exact h4⟩))
  ·refine .inr (.inr (.inr ⟨⟨h, a.2⟩, b, rfl, rfl, rfl, fun m' hm' => ?_⟩))
   by_cases hc : (Wl.wr (pol q r m') (ptsAt xs (plS sh)) (ysS sh) : Int) ≤ t
   ·obtain ⟨e, -, -⟩ := hw0.only hn (lis_good h a.2 b hm' hc)
    exact absurd (e ▸ pol_isM q r m') hM
   ·omega
 ·subst h1
  rw [plS_length] at b
  exact ⟨fun _ => .inr (.inr (.inr ⟨⟨h, a.2⟩, b, rfl, rfl, rfl, fun m' hm' => h4 _ (pol_length q r m')⟩)), fun e => absurd e (by decide), fun e => absurd e (by decide)⟩
theorem LIs.ok {m : List F8} {wl : List Int} (h : LIs xs q r sh t m wl 0) : m.length = q * r := by
 rcases h with ⟨_, _, _, h1⟩ | ⟨_, _, _, _, h1⟩ | ⟨_, _, _, h1, _⟩ | ⟨_, _, h1, _⟩
 ·omega
 ·omega
 ·exact h1
 ·omega
end
def grpL (r i : Nat) : List Nat := Pt.othersL (i / (r + 1) * (r + 1)) (i % (r + 1)) r
theorem mem_grpL {r i j : Nat} : j ∈ grpL r i ↔ j / (r + 1) = i / (r + 1) ∧ j ≠ i := Pt.othersL_mem rfl
theorem grpL_length (r i : Nat) : (grpL r i).length = r := Pt.othersL_length _ _ _
def NOk (n : Nat) (to : Int) (sh : List (Int × List F8)) : Prop := (0 ≤ to ∧ to < (n : Int)) ∧ LOk n sh ∧ to ∉ plS sh
instance (n : Nat) (to : Int) (sh : List (Int × List F8)) : Decidable (NOk n to sh) := inferInstanceAs (Decidable (_ ∧ _))
def NIs (xs : List F8) (r : Nat) (to : Int) (sh : List (Int × List F8)) (v : F8) (z : Int) : Prop :=
 (¬ NOk xs.length to sh ∧ v = 0 ∧ z = 2) ∨
 (NOk xs.length to sh ∧ (∃ j ∈ grpL r to.toNat, (j : Int) ∉ plS sh) ∧ v = 0 ∧ z = 70) ∨
 (NOk xs.length to sh ∧ (∀ j ∈ grpL r to.toNat, (j : Int) ∈ plS sh) ∧ z = 0 ∧ ∃ g : List F8, g.length ≤ r ∧ (∀ o ∈ sh, o.1.toNat / (r + 1) = to.toNat / (r + 1) → eval g (coef xs o.1.toNat) = coef o.2 0) ∧ v = eval g (coef xs to.toNat))
theorem grpL_nodup (r i : Nat) : (grpL r i).Nodup := by
 unfold grpL Pt.othersL
 rw [List.nodup_iff_pairwise_ne, List.pairwise_map]
 refine (List.nodup_iff_pairwise_ne.1 List.nodup_range).imp_of_mem fun {a b} ha hb hne e => hne ?_
 split at e <;> split at e <;> omega
theorem coef_inj {xs : List F8} (hn : xs.Nodup) {i j : Nat} (hi : i < xs.length) (hj : j < xs.length) (h : coef xs i = coef xs j) : i = j := by
 rw [coef_of_lt hi, coef_of_lt hj] at h
 exact (List.getElem_inj hn).1 h
theorem grp_lt {r i j G : Nat} (hi : i < G * (r + 1)) (h : j / (r + 1) = i / (r + 1)) : j < G * (r + 1) := by
 rw [← Nat.div_lt_iff_lt_mul (by omega)] at hi ⊢
 omega
theorem NIs.only {xs : List F8} {r G : Nat} {to : Int} {sh : List (Int × List F8)} {v v' : F8} {z z' : Int} (hn : xs.Nodup) (hG : xs.length = G * (r + 1)) (h : NIs xs r to sh v z) (h' : NIs xs r to sh v' z') : v = v' ∧ z = z' := by
 rcases h with ⟨a, h1, h2⟩ | ⟨a, ⟨j, hj, hb⟩, h1, h2⟩ | ⟨a, b, h1, g, hg, hs, hv⟩ <;>
 rcases h' with ⟨a', h1', h2'⟩ | ⟨a', ⟨j', hj', hb'⟩, h1', h2'⟩ | ⟨a', b', h1', g', hg', hs', hv'⟩ <;>
 first
  | exact absurd a' a
  | exact absurd a a'
  | exact absurd (b' _ hj) hb
  | exact absurd (b _ hj') hb'
  | exact ⟨h1.trans h1'.symm, h2.trans h2'.symm⟩
  | skip
 refine ⟨?_, h1.trans h1'.symm⟩
 obtain ⟨i, hi⟩ : ∃ i : Nat, to = (i : Int) := ⟨to.toNat, by have := a.1; omega⟩
 have hin : i < G * (r + 1) := by have := a.1.2; omega
 have hit : to.toNat = i := by omega
 rw [hit] at hs hv hs' hv' b
 have key : Eqv g g' := by
  refine Poly.only (n := r) (xs := (grpL r i).map fun j => coef xs j) ((bdd_length g).mono hg) ((bdd_length g').mono hg') (by rw [List.length_map, grpL_length]; exact Nat.le_refl _) ?_ ?_
  ·rw [List.nodup_iff_pairwise_ne, List.pairwise_map]
   refine (List.nodup_iff_pairwise_ne.1 (grpL_nodup r i)).imp_of_mem fun {a b} ha hb hne e => hne ?_
   have ha := mem_grpL.1 ha
   have hb := mem_grpL.1 hb
   exact coef_inj hn (by rw [hG]; exact grp_lt hin ha.1) (by rw [hG]; exact grp_lt hin hb.1) e
  ·intro x hx
   obtain ⟨j, hj, rfl⟩ := List.mem_map.1 hx
   have hjp := b j hj
   obtain ⟨o, ho, he⟩ := List.mem_map.1 hjp
   have hjt : o.1.toNat = j := by omega
   have h1 := hs o ho (by rw [hjt]; exact (mem_grpL.1 hj).1)
   have h2 := hs' o ho (by rw [hjt]; exact (mem_grpL.1 hj).1)
   rw [hjt] at h1 h2
   rw [h1, h2]
 rw [hv, hv']
 exact eval_congr _ key
end Go.Proofs.YtofihklinkpbiaaGreat.Lo

namespace Go.Proofs.YtofihklinkpbiaaGreat.Lo
open F8 Poly Rd GF Ms
theorem wr_map (m : List F8) (f g : Int × List F8 → F8) : ∀ l : List (Int × List F8), Wl.wr m (l.map f) (l.map g) = (l.filter fun o => decide (eval m (f o) ≠ g o)).length
 | [] => rfl
 | o :: l => by
  rw [List.map_cons, List.map_cons, Wl.wr_cons, wr_map m f g l]
  by_cases h : eval m (f o) = g o
  ·rw [if_neg (fun e => e h), List.filter_cons_of_neg (by simpa using h), Nat.zero_add]
  ·rw [if_pos h, List.filter_cons_of_pos (by simpa using h), List.length_cons, Nat.add_comm]
def valF (xs p : List F8) (j : Nat) : List F8 := [eval p (coef xs j)]
theorem one_eq : ∀ {s : List F8}, s.length = 1 → ∀ y : F8, s = [y] ↔ coef s 0 = y
 | [a], _, y => by simp [coef]
section
variable {xs p : List F8} {sh : List (Int × List F8)}
theorem wr_nb (h : LOk xs.length sh) : Wl.wr p (ptsAt xs (plS sh)) (ysS sh) = nb (valF xs p) sh := by
 have e1 : ptsAt xs (plS sh) = sh.map fun o => coef xs o.1.toNat := by simp [ptsAt, plS, List.map_map, Function.comp_def]
 rw [e1]
 unfold ysS nb
 rw [wr_map]
 congr 1
 refine List.filter_congr fun o ho => ?_
 rw [decide_eq_decide]
 have := one_eq (h.2 o ho).2 (eval p (coef xs o.1.toNat))
 unfold valF
 rw [ne_eq, ne_eq, this]
 exact not_congr eq_comm
theorem wrongs_sorted (n : Nat) (S : Nat → List F8) (sh : List (Int × List F8)) : (wrongs n S sh).Pairwise (· < ·) := by
 unfold wrongs
 rw [List.pairwise_map]
 refine List.Pairwise.imp (R := (· < ·)) (fun {a b} h => Int.ofNat_lt.2 h) ?_
 exact List.pairwise_lt_range.sublist List.filter_sublist
theorem mem_wrongs {n : Nat} {S : Nat → List F8} (h : LOk n sh) {z : Int} : z ∈ wrongs n S sh ↔ ∃ o ∈ sh, o.1 = z ∧ o.2 ≠ S z.toNat := by
 unfold wrongs
 rw [List.mem_map]
 constructor
 ·rintro ⟨j, hj, rfl⟩
  obtain ⟨-, h2⟩ := List.mem_filter.1 hj
  obtain ⟨o, ho, he⟩ := List.any_eq_true.1 h2
  have he := of_decide_eq_true he
  exact ⟨o, ho, he.1, by rw [Int.toNat_natCast]; exact he.2⟩
 ·rintro ⟨o, ho, rfl, hne⟩
  have h1 := (h.2 o ho).1
  refine ⟨o.1.toNat, List.mem_filter.2 ⟨List.mem_range.2 (by omega), List.any_eq_true.2 ⟨o, ho, decide_eq_true ⟨by omega, hne⟩⟩⟩, by omega⟩
theorem wrong_wrongs (h : LOk xs.length sh) : Wl.wrong xs p (plS sh) (ysS sh) = wrongs xs.length (valF xs p) sh := by
 refine Wl.sorted_ext (Wl.wrong_sorted h.okp) (wrongs_sorted _ _ _) fun z => ?_
 rw [Wl.mem_wrong_zip h.okp (by rw [plS_length, ysS_length]), mem_wrongs h]
 have e1 : (plS sh).zip (ysS sh) = sh.map fun o => (o.1, coef o.2 0) := by
  unfold plS ysS
  rw [List.zip_map']
 rw [e1]
 constructor
 ·rintro ⟨y, hy, hne⟩
  obtain ⟨o, ho, he⟩ := List.mem_map.1 hy
  obtain ⟨rfl, rfl⟩ := Prod.mk.inj he
  exact ⟨o, ho, rfl, fun e => hne ((one_eq (h.2 o ho).2 _).1 e).symm⟩
 ·rintro ⟨o, ho, rfl, hne⟩
  exact ⟨coef o.2 0, List.mem_map.2 ⟨o, ho, rfl⟩, fun e => hne ((one_eq (h.2 o ho).2 _).2 e.symm)⟩
end
section
variable {xs : List F8} {q r : Nat} {sh : List (Int × List F8)} {t : Int}
theorem lis_ok (h : LOk xs.length sh) (ht : 0 ≤ t) (hl : ((q * (r + 1) - 1 : Nat) : Int) + 2 * t ≤ (sh.length : Int)) {m : List F8} (hm : m.length = q * r) (hw : (nb (valF xs (pol q r m)) sh : Int) ≤ t) :
  LIs xs q r sh t m (wrongs xs.length (valF xs (pol q r m)) sh) 0 :=
 .inr (.inr (.inl ⟨⟨h, ht⟩, hl, rfl, hm, by rw [wr_nb h]; exact hw, (wrong_wrongs h).symm⟩))
theorem lis_few (h : LOk xs.length sh) (ht : 0 ≤ t) (hl : (sh.length : Int) < ((q * (r + 1) - 1 : Nat) : Int) + 2 * t) : LIs xs q r sh t [] [] 70 := .inr (.inl ⟨⟨h, ht⟩, hl, rfl, rfl, rfl⟩)
end
def RepIs (xs : List F8) (q r : Nat) (to : Int) (sh : List (Int × List F8)) (t : Int) (v : F8) (z : Int) : Prop :=
 (¬ ((0 ≤ to ∧ to < (xs.length : Int)) ∧ to ∉ plS sh) ∧ v = 0 ∧ z = 2) ∨
 (((0 ≤ to ∧ to < (xs.length : Int)) ∧ to ∉ plS sh) ∧ ∃ m wl, LIs xs q r sh t m wl z ∧ ((z = 0 ∧ v = eval (pol q r m) (coef xs to.toNat)) ∨ (z ≠ 0 ∧ v = 0)))
theorem RepIs.only {xs : List F8} {q r : Nat} {to : Int} {sh : List (Int × List F8)} {t : Int} {v v' : F8} {z z' : Int} (hr : 1 ≤ r) (hn : xs.Nodup) (h : RepIs xs q r to sh t v z) (h' : RepIs xs q r to sh t v' z') : v = v' ∧ z = z' := by
 rcases h with ⟨a, h1, h2⟩ | ⟨a, m, wl, h1, h2⟩ <;> rcases h' with ⟨a', h1', h2'⟩ | ⟨a', m', wl', h1', h2'⟩
 ·exact ⟨h1.trans h1'.symm, h2.trans h2'.symm⟩
 ·exact absurd a' a
 ·exact absurd a a'
 ·obtain ⟨rfl, rfl, rfl⟩ := h1.only hr hn h1'
  rcases h2 with ⟨e, h2⟩ | ⟨e, h2⟩ <;> rcases h2' with ⟨e', h2'⟩ | ⟨e', h2'⟩
  ·exact ⟨h2.trans h2'.symm, rfl⟩
  ·exact absurd e e'
  ·exact absurd e' e
  ·exact ⟨h2.trans h2'.symm, rfl⟩
end Go.Proofs.YtofihklinkpbiaaGreat.Lo

namespace Go.Proofs.YtofihklinkpbiaaGreat.Rd
open Go.RowKit Go.Shelf F8 Poly GF
attribute [local go_sem] Oper.semAt_some
def ROwn (w : World) (r : List F8) (n : Nat) (e : Ending) (w' : World) : Prop :=
 ∃ A c, e = .returned (.slice A n c) ∧ n ≤ c ∧ Own w' w.heap.size 5 (.slice A n c) (bv (bs r)) ∧ Below w.heap.size w w'
theorem ptsAt_snoc {p : List F8} {pl : List Int} {k : Nat} (h : k < pl.length) : bv (bs (ptsAt p (pl.take (k + 1)))) = bv (bs (ptsAt p (pl.take k))) ++ bv [(coef p pl[k].toNat).n] := by
 rw [take_succ' pl h, ptsAt, List.map_append, List.map_cons, List.map_nil, bvs_snoc]; rfl
end Go.Proofs.YtofihklinkpbiaaGreat.Rd

namespace Go.Proofs.YtofihklinkpbiaaGreat.Rd
open Go.RowKit F8 Poly
def nuls (k : Nat) : ByteArray := str (List.replicate k 0)
theorem nuls_size (k : Nat) : (nuls k).size = k := by rw [nuls, str_size, List.length_replicate]
theorem nuls_cells (k : Nat) : Lib.strCells (nuls k) = bv (List.replicate k 0) := by
 simp [Lib.strCells, nuls, str, bv]
theorem nuls_zero (k : Nat) : (Lib.strCells (nuls k)).toArray = Builtin.zeroCells (Value.int .u8 0).cells k := by
 rw [nuls_cells]
 apply Array.ext
 ·simp [bv, size_zeroCells, Value.cells]
 ·intro i h1 h2
  simp [bv, Builtin.zeroCells, Value.cells, Nat.mod_one]
theorem app_zeros_eq (w : World) (ty : TypeId) (base : Option Addr) (n cap k : Nat) (hk : k ≤ 1000000000) (hn : n ≤ 1000000000) (hc : n ≤ cap) :
  (Builtin.append_ #[22, 3] ty #[.slice base n cap, .int .i64 (k : Int)]).run Tryz.prog w =
  (Builtin.append_ #[22, 9] ty #[.slice base n cap, .string (nuls k)]).run Tryz.prog w := by
 obtain ⟨i, hi, hi1, hi2, hi3⟩ := info_parts info_u8
 have hw : IntKind.i64.wrap (k : Int) = k := by rw [IntKind.wrap_i64]; omega
 have hneg : ¬ ((k : Int) < 0) := by omega
 have h48i : ¬ (281474976710656 < (k : Int)) := by omega
 have h63 : ¬ (9223372036854775807 < (n : Int) + (k : Int)) := by omega
 have hf : ∀ w, (Builtin.firstCells 1 k (.string (nuls k))).run Tryz.prog w = .ok (Builtin.zeroCells (Value.int .u8 0).cells k) w := fun w => by
  have := Lib.run_firstCells_string (P := Tryz.prog) w 1 (nuls k)
  rw [nuls_size, nuls_zero] at this; exact this
 by_cases hroom : n + k ≤ cap
 ·by_cases h0 : k = 0
  ·subst h0
   have hw0 : IntKind.i64.wrap 0 = 0 := rfl
   have hr0 : n ≤ cap := hroom
   have hs0 := nuls_size 0
   simp [Builtin.append_, run_underlying Tryz.underlying22, run_underlying Tryz.underlying3, run_underlying Tryz.underlying9, sizeOf, typeInfo, zeroValue, hi, hi1, hi2, hi3, asInt, asIntOf, hw0, hr0, Builtin.lenOf, hs0, hf, Builtin.zeroCells]
  ·simp [Builtin.append_, run_underlying Tryz.underlying22, run_underlying Tryz.underlying3, run_underlying Tryz.underlying9, sizeOf, typeInfo, zeroValue, hi, hi1, hi2, hi3, asInt, asIntOf, hw, hneg, h48i, Builtin.lenOf, nuls_size, hroom, hf, h0]
 ·have h0 : k ≠ 0 := by omega
  have hfit : Builtin.nextslicecap (n + k) cap * 1 ≤ 281474976710656 := growslice_fits (by omega) (by omega)
  have h48' : ¬ (281474976710656 < Builtin.nextslicecap (n + k) cap) := by omega
  simp [Builtin.append_, run_underlying Tryz.underlying22, run_underlying Tryz.underlying3, run_underlying Tryz.underlying9, sizeOf, typeInfo, zeroValue, hi, hi1, hi2, hi3, asInt, asIntOf, hw, hneg, h48i, h48', h63, Builtin.lenOf, nuls_size, hroom, hf, h0, Question.forced]
theorem run_app_zeros (w : World) (ty : TypeId) (B : Nat) (v : Value) (xs : List Value) (hown : Own w B 5 v xs) (k : Nat) (hk : k ≤ 1000000000) (hn : xs.length ≤ 1000000000) (hB : B ≤ w.heap.size) :
  ∃ v' w', (Builtin.append_ #[22, 3] ty #[v, .int .i64 (k : Int)]).run Tryz.prog w = .ok v' w' ∧ Own w' B 5 v' (xs ++ bv (List.replicate k 0)) ∧ w.grownBy w' v.ownBlock := by
 obtain ⟨i, hi, hi1, hi2, hi3⟩ := info_parts info_u8
 obtain ⟨v', w', hr, h2, h3, _⟩ := Lib.run_append_own_string (P := Tryz.prog) w B 22 9 ty 5 i Tryz.underlying22 Tryz.underlying9 hi hi1 hi2 hi3 v xs.length xs hown (nuls k) (by rw [nuls_size]; simp only [maxLen]; omega) (by rw [nuls_size]; omega) hB
 have he : (Builtin.append_ #[22, 3] ty #[v, .int .i64 (k : Int)]).run Tryz.prog w = (Builtin.append_ #[22, 9] ty #[v, .string (nuls k)]).run Tryz.prog w := by
  rcases hown.2 with ⟨rfl, h0⟩ | ⟨g, cap, cur, rfl, _, _, hnc, _⟩
  ·exact app_zeros_eq w ty none 0 0 k hk (by omega) (Nat.le_refl _)
  ·exact app_zeros_eq w ty _ xs.length cap k hk hn hnc
 refine ⟨v', w', he.trans hr, ?_, h3⟩
 rw [nuls_size, nuls_cells] at h2
 unfold Own
 rw [List.length_append, bv_length, List.length_replicate]
 exact h2
end Go.Proofs.YtofihklinkpbiaaGreat.Rd

namespace Go.Proofs.YtofihklinkpbiaaGreat.Poly
open Go.RowKit Go.Shelf F8 GF
attribute [local go_sem] Oper.semAt_some
set_option maxHeartbeats 1000000 in
theorem trim_calls (A : Option Addr) (p : List F8) (m c : Nat) (w : World) (hl : p.length = m) (hb : Bytes w A (bs p)) (hc : m ≤ c) (hm : m ≤ 5000) :
  Calls Tryz.prog 168 #[.slice A m c] w fun e w' => Res w w' e (trim p) := by
 have HB := Lib.hid hb
 have hle : len p ≤ m := by have := len_le p; omega
 obtain ⟨t, ht⟩ : ∃ t, trim p = t := ⟨_, rfl⟩
 obtain ⟨n, hn⟩ : ∃ n, len p = n := ⟨_, rfl⟩
 have htn : t.length = n := by rw [← ht, ← hn]; rfl
 rw [hn] at hle
 have HT := Lib.hid ht
 have HN := Lib.hid hn
 have HTN := Lib.hid htn
 clear hb ht hn htn
 go_enter Tryz.func168, Tryz.ntmps168
 go_wp2_with (first
  | (go_at_call 120; refine (trimmed_calls A p m c _ hl HB.out hc (by omega)).mono ?_; rintro e w1 ⟨A2, rfl, hcut, hB1⟩; have HB2 := Lib.hid (hcut.bytes (HB.out.below hB1)); rw [HN.out]; rw [HT.out] at HB2)
  | (go_at_call 99; refine (clone_calls A2 t n c _ HTN.out HB2.out (by omega) (by omega)).mono ?_; rintro e w2 ⟨A3, c3, rfl, hc3, hO3, hB3⟩))
 go_ret
 rw [HT.out]
 have hsz := hB1.size
 exact ⟨A3, c3, rfl, hc3, hO3.more hsz, hB1.trans (hB3.mono hsz)⟩
theorem Own.block {w : World} {B : Nat} {e : TypeId} {g n : Nat} {xs : List Value} (h : Own w B e (.slice (some ⟨g, 0, none⟩) n n) xs) : Block w g e xs.toArray := by
 rcases h.2 with ⟨h1, _⟩ | ⟨g', cap, cur, h1, h2, h3, h4, h5, h6, h7⟩
 ·cases h1
 ·injection h1 with h1 h8 h9
  injection h1 with h1
  injection h1 with h1
  subst h1 h9
  have : cur.toList = xs := by rw [← h7, List.take_of_length_le (by simp [h6, ← h8])]
  rw [← this]
  exact h3
theorem Own.of_block {w : World} {B : Nat} {e : TypeId} {g n : Nat} {xs : List Value} (h : Block w g e xs.toArray) (hB : B ≤ g) (hn : xs.length = n) (hm : n ≤ maxLen) : Own w B e (.slice (some ⟨g, 0, none⟩) n n) xs := by
 subst hn
 exact ⟨by simp, .inr ⟨g, xs.length, xs.toArray, rfl, hB, h, Nat.le_refl _, hm, by simp, by simp⟩⟩
theorem coef_set (s : List F8) (k : Nat) (x : F8) (hk : k < s.length) (i : Nat) : coef (s.set k x) i = if i = k then x else coef s i := by
 unfold coef
 rw [List.getD_eq_getElem?_getD, List.getD_eq_getElem?_getD, List.getElem?_set]
 by_cases e : i = k
 ·subst e; simp [hk]
 ·rw [if_neg (Ne.symm e), if_neg e]
theorem bvs_set (s : List F8) (k : Nat) (x : F8) : (bv (bs s)).toArray.setIfInBounds k (.int .u8 (x.n : Int)) = (bv (bs (s.set k x))).toArray := by
 simp [bv, bs, List.map_set]
theorem bvs_get (s : List F8) (k : Nat) (hk : k < s.length) : (bv (bs s)).toArray[k]? = some (.int .u8 ((coef s k).n : Int)) := by
 rw [coef_of_lt hk]
 simp [bv, bs, hk]
theorem add_still (x y : F8) (w : World) : Calls Tryz.prog 44 #[.int .u8 x.n, .int .u8 y.n] w fun e w' => e = .returned (.int .u8 (x + y).n) ∧ w' = w :=
 (add_calls x.n y.n x.h y.h w).mono fun _ _ ⟨h1, h2⟩ => ⟨h1, h2.symm⟩
end Go.Proofs.YtofihklinkpbiaaGreat.Poly

namespace Go.Proofs.YtofihklinkpbiaaGreat.Poly
open Go.RowKit F8 GF
section
variable {w0 w w' : World} {g : Nat} {ls : List (Option Addr × List F8)} {A B : Option Addr} {p q : List F8}
theorem bytes_far (h : Bytes w A (bs p)) (hg : p ≠ [] → ∀ a, A = some a → a.block ≠ g) (hp : Past w.heap.size g w w') : Bytes w' A (bs p) := by
 refine ⟨fun k u hu => ?_, bs_lt p⟩
 obtain ⟨b, off, rfl, hc⟩ := h.row k u hu
 refine ⟨b, off, rfl, ?_⟩
 rw [← hc]
 exact World.cell?_of_block (hp.block b (cell_lt hc) (hg (by rintro rfl; simp [bs, bv] at hu) _ rfl))
theorem own_block {B0 : Nat} {e : TypeId} {xs : List Value} {n c : Nat} (h : Own w B0 e (.slice A n c) xs) : ∀ a, A = some a → B0 ≤ a.block := by
 intro a ha
 rcases h.2 with ⟨h1, _⟩ | ⟨b, cap, cur, h1, h2, _⟩
 ·injection h1 with h1; rw [h1] at ha; cases ha
 ·injection h1 with h1; rw [h1] at ha; cases ha; exact h2
end
theorem own_ne {w : World} {g B : Nat} {e t : TypeId} {v : Value} {xs : List Value} {cs : Array Value} (h : Own w B e v xs) (hb : Block w g t cs) (hne : e ≠ t) : v.ownBlock ≠ some g := by
 rcases h.2 with ⟨rfl, _⟩ | ⟨b, cap, cur, rfl, _, hh, _⟩
 ·simp [Value.ownBlock]
 ·intro e1
  obtain rfl : b = g := by simpa [Value.ownBlock] using e1
  unfold Block at hb
  rw [hh] at hb
  simp only [Option.some.injEq, Obj.cells.injEq] at hb
  exact hne hb.2.1
theorem own_keep {w w' : World} {g B : Nat} {v : Value} {xs : List Value} (h : Own w B 5 v xs) (hf : FldP w (some ⟨g, 0, none⟩)) (hp : Past w.heap.size g w w') : Own w' B 5 v xs := by
 refine h.grown (row := some g) ⟨hp.os, hp.tape, hp.output, hp.size, fun k hk hn => hp.block k hk (fun e => hn (by rw [e]))⟩ (.inr ?_)
 rcases hf.fld with hb | hb
 ·exact own_ne h hb (by decide)
 ·exact own_ne h hb (by decide)
theorem _root_.Go.Proofs.YtofihklinkpbiaaGreat.GF.Fld.kept_grown {w w' : World} {g B : Nat} {row : Option Nat} (h : Fld w g) (hw : w.grownBy w' row) (hg : g < B) (hr : ∀ k, row = some k → B ≤ k) : Fld w' g :=
 have e := hw.block g h.lt (fun e => by have := hr g e.symm; omega)
 h.imp (fun h => e.trans h) (fun h => e.trans h)
end Go.Proofs.YtofihklinkpbiaaGreat.Poly

namespace Go.Proofs.YtofihklinkpbiaaGreat.Poly
open Go.RowKit Go.Shelf F8 GF
attribute [local go_sem] Oper.semAt_some
structure But (B : Nat) (S : Nat → Prop) (w w' : World) : Prop where
 os : w'.os = w.os
 tape : w'.tape = w.tape
 output : w'.output = w.output
 size : w.heap.size ≤ w'.heap.size
 block : ∀ k, k < B → ¬ S k → w'.heap[k]? = w.heap[k]?
section
variable {B : Nat} {S : Nat → Prop} {a w w' : World}
theorem But.refl (B : Nat) (S : Nat → Prop) (w : World) : But B S w w := ⟨rfl, rfl, rfl, Nat.le_refl _, fun _ _ _ => rfl⟩
theorem But.trans (h : But B S a w) (k : But B S w w') : But B S a w' :=
 ⟨k.os.trans h.os, k.tape.trans h.tape, k.output.trans h.output, Nat.le_trans h.size k.size, fun i hi hn => (k.block i hi hn).trans (h.block i hi hn)⟩
theorem But.of_past {g : Nat} (h : Past B g a w) (hg : S g) : But B S a w := ⟨h.os, h.tape, h.output, h.size, fun i hi hn => h.block i hi (fun e => hn (e ▸ hg))⟩
theorem But.of_below (h : Below B a w) : But B S a w := ⟨h.os, h.tape, h.output, h.size, fun i hi _ => h.block i hi⟩
theorem But.mono {B' : Nat} {S' : Nat → Prop} (h : But B S a w) (hB : B' ≤ B) (hS : ∀ k, k < B' → S k → S' k) : But B' S' a w := ⟨h.os, h.tape, h.output, h.size, fun i hi hn => h.block i (by omega) (fun e => hn (hS i hi e))⟩
theorem But.drew (h : But B S a w) : But B S a w.drew := ⟨h.os, h.tape, h.output, h.size, h.block⟩
theorem But.setCell (h : But B S a w) {p : Addr} (hp : S p.block ∨ B ≤ p.block) (u : Value) : But B S a (w.setCell p u) :=
 h.trans ⟨rfl, rfl, rfl, by simp [World.setCell], fun k hk hn => Below.heap_setCell _ _ _ _ (by rintro rfl; rcases hp with hp | hp; exact hn hp; omega)⟩
theorem But.bytes {A : Option Addr} {p : List F8} (h : But w.heap.size S w w') (hb : Bytes w A (bs p)) (hg : p ≠ [] → ∀ a, A = some a → ¬ S a.block) : Bytes w' A (bs p) := by
 refine ⟨fun k u hu => ?_, bs_lt p⟩
 obtain ⟨b, off, rfl, hc⟩ := hb.row k u hu
 refine ⟨b, off, rfl, ?_⟩
 rw [← hc]
 exact World.cell?_of_block (h.block b (cell_lt hc) (hg (by rintro rfl; simp [bs, bv] at hu) _ rfl))
end
theorem past_cell {B g : Nat} {w w' : World} (h : Past B g w w') (p : Addr) (hb : p.block < B) (hn : p.block ≠ g) : w'.cell? p = w.cell? p := World.cell?_of_block (h.block _ hb hn)
theorem Fld.ne_block {w : World} {gf g : Nat} {cs : Array Value} (hf : Fld w gf) (hb : Block w g 5 cs) : gf ≠ g := by
 rintro rfl
 rcases hf with h | h <;>
 ·unfold Block at h hb
  rw [h] at hb
  simp only [Option.some.injEq, Obj.cells.injEq] at hb
  exact absurd hb.2.1 (by decide)
theorem own_cell {w : World} {B g M C k : Nat} {s : List F8} (h : Own w B 5 (.slice (some ⟨g, 0, none⟩) M C) (bv (bs s))) (hs : s.length = M) (hk : k < M) : w.cell? ⟨g, k, none⟩ = some (.int .u8 ((coef s k).n : Int)) := by
 have hl : (bv (bs s)).length = M := by rw [bvs_length, hs]
 rw [Own.cellAt h hl k (by omega), coef_of_lt (by omega)]
 simp [bv, bs]
theorem own_set {w : World} {B g M C k : Nat} {s : List F8} {x : F8} (h : Own w B 5 (.slice (some ⟨g, 0, none⟩) M C) (bv (bs s))) (hs : s.length = M) : Own (w.setCell ⟨g, k, none⟩ (.int .u8 (x.n : Int))) B 5 (.slice (some ⟨g, 0, none⟩) M C) (bv (bs (s.set k x))) := by
 have hl : (bv (bs s)).length = M := by rw [bvs_length, hs]
 have := Own.set_ h hl k (.int .u8 (x.n : Int))
 rwa [show (bv (bs s)).set k (.int .u8 (x.n : Int)) = bv (bs (s.set k x)) by simp [bv, bs, List.map_set]] at this
theorem Fld.ne_own {w : World} {gf g B M C : Nat} {xs : List Value} (hf : Fld w gf) (h : Own w B 5 (.slice (some ⟨g, 0, none⟩) M C) xs) : gf ≠ g := by
 rintro rfl
 rcases hf with hb | hb <;> exact own_ne h hb (by decide) rfl
theorem mul_f (gf : Nat) (x y : F8) (w : World) (hf : Fld w gf) :
  Calls Tryz.prog 96 #[.pointer (some ⟨gf, 0, none⟩), .int .u8 x.n, .int .u8 y.n] w fun e w' => e = .returned (.int .u8 (x * y).n) ∧ Fld w' gf ∧ Past w.heap.size gf w w' :=
 (mul_calls (some ⟨gf, 0, none⟩) x.n y.n x.h y.h w (FldP.of hf)).mono fun _ _ ⟨h1, h2, h3⟩ => ⟨h1, h2.fld, h3⟩
def Added (Bo gf g1 M C off : Nat) (s q : List F8) (c : F8) (w : World) (e : Ending) (w' : World) : Prop :=
 e = .returned (.tuple #[]) ∧ (∃ s', s'.length = s.length ∧ Eqv s' (padd s (pmul (mono off c) q)) ∧ Own w' Bo 5 (.slice (some ⟨g1, 0, none⟩) M C) (bv (bs s'))) ∧ Fld w' gf ∧ But w.heap.size (fun k => k = g1 ∨ k = gf) w w'
def Sofar (s t q : List F8) (off k : Nat) (c : F8) : Prop := t.length = s.length ∧ ∀ i, coef t i = coef s i + if off ≤ i ∧ i < off + k then c * coef q (i - off) else 0
theorem Sofar.start (s q : List F8) (off : Nat) (c : F8) : Sofar s s q off 0 c := ⟨rfl, fun i => by rw [if_neg (by omega), add_zero]⟩
theorem Sofar.at_ {s t q : List F8} {off k : Nat} {c : F8} (h : Sofar s t q off k c) : coef t (off + k) = coef s (off + k) := by rw [h.2, if_neg (by omega), add_zero]
theorem Sofar.step {s t q : List F8} {off k : Nat} {c : F8} (h : Sofar s t q off k c) (hk : off + k < s.length) : Sofar s (t.set (off + k) (coef t (off + k) + coef q k * c)) q off (k + 1) c := by
 refine ⟨by rw [List.length_set, h.1], fun i => ?_⟩
 rw [coef_set t (off + k) _ (by rw [h.1]; exact hk) i]
 by_cases e : i = off + k
 ·subst e
  rw [if_pos rfl, if_pos (by omega), h.at_, show off + k - off = k by omega, mul_comm]
 ·rw [if_neg e, h.2]
  congr 1
  by_cases e2 : off ≤ i ∧ i < off + k
  ·rw [if_pos e2, if_pos (by omega)]
  ·rw [if_neg e2, if_neg (by omega)]
theorem Sofar.all {s t q : List F8} {off : Nat} {c : F8} (h : Sofar s t q off q.length c) : Eqv t (padd s (pmul (mono off c) q)) := fun i => by
 rw [h.2, coef_padd, coef_mono_pmul]
 congr 1
 by_cases e : i < off
 ·rw [if_pos e, if_neg (by omega)]
 ·rw [if_neg e]
  by_cases e2 : i < off + q.length
  ·rw [if_pos (by omega)]
  ·rw [if_neg (by omega), coef_of_le (p := q) (by omega), mul_zero]
theorem add_zero_mono (s q : List F8) (off : Nat) : Eqv s (padd s (pmul (mono off 0) q)) := fun i => by
 rw [coef_padd, coef_mono_pmul, zero_mul]
 split <;> rw [add_zero]
set_option maxRecDepth 100000 in
set_option maxHeartbeats 2000000 in
theorem addTimes_calls (Bo gf g1 M C off ls cs : Nat) (A1 B : Option Addr) (s q : List F8) (n d : Nat) (c : F8) (w : World) (hf : Fld w gf) (hS : Own w Bo 5 (.slice (some ⟨g1, 0, none⟩) M C) (bv (bs s))) (hsl : s.length = M) (hl : q.length = n) (hA : 0 < n → A1 = some ⟨g1, off, none⟩)
  (hoff : off + n ≤ s.length) (hls : n ≤ ls) (hb : Bytes w B (bs q)) (hfar : q ≠ [] → ∀ a, B = some a → a.block ≠ g1 ∧ a.block ≠ gf) (hn : n ≤ 1000000) (_ : s.length ≤ 1000000) :
  Calls Tryz.prog 121 #[.pointer (some ⟨gf, 0, none⟩), .slice A1 ls cs, .slice B n d, .int .u8 c.n] w (Added Bo gf g1 M C off s q c w) := by
 have hne := Fld.ne_own hf hS
 have hbk := Own.blk hS
 by_cases c0 : c = 0
 ·have hx0 : ((c.n : Int) == 0) = true := by rw [c0]; rfl
  go_enter Tryz.func121, Tryz.ntmps121
  go_wp2
  refine bodyPost_ret (results_none rfl _ _ _) rfl ?_
  exact ⟨rfl, ⟨s, rfl, by rw [c0]; exact add_zero_mono s q off, hS⟩, hf, But.refl _ _ _⟩
 ·have hx0 : ((c.n : Int) == 0) = false := n_beq0 c0
  have HB := Lib.hid hb
  have HL := Lib.hid hl
  have HF := Lib.hid hf
  have HS := Lib.hid hS
  have HSL := Lib.hid hsl
  have HFar := Lib.hid hfar
  have HA := Lib.hid hA
  clear hb hl hf hS hfar hA hsl
  go_enter Tryz.func121, Tryz.ntmps121
  go_wp2
  go_loopw [14] (fun i wr => ∃ (k : Nat) (t : List F8), k ≤ n ∧ i = .int .i64 k ∧ Hid (Sofar s t q off k c) ∧ Hid (Own wr Bo 5 (.slice (some ⟨g1, 0, none⟩) M C) (bv (bs t))) ∧ Hid (Fld wr gf) ∧ Hid (But w.heap.size (fun k => k = g1 ∨ k = gf) w wr)) (fun i _ => n - (intOf i).toNat)
  case atStart => exact ⟨0, s, by omega, rfl, Lib.hid (Sofar.start s q off c), HS, HF, Lib.hid (But.refl _ _ _)⟩
  case round =>
   obtain ⟨k, t, hk, rfl, HT, HSr, HFr, HU⟩ := hrel
   by_cases hkk : k < n
   ·have hq0 : q ≠ [] := by intro e; have := HL.out; rw [e] at this; simp at this; omega
    have hbq := HU.out.bytes HB.out (fun h a ha hS => by have := HFar.out h a ha; omega)
    obtain ⟨b, o, rfl⟩ := where_ HB.out (by have := HL.out; omega)
    have hcell := cellAt hbq k (by have := HL.out; omega)
    obtain ⟨x, hx⟩ : ∃ x, coef q k = x := ⟨_, rfl⟩
    obtain ⟨y, hy⟩ : ∃ y, coef t (off + k) = y := ⟨_, rfl⟩
    have htl : off + k < t.length := by rw [HT.out.1]; omega
    have htM : t.length = M := by rw [HT.out.1, HSL.out]
    have HTM := Lib.hid htM
    have hc2 := own_cell HSr.out htM (k := off + k) (by omega)
    have hf2 := Own.frozenAt HSr.out (by rw [bvs_length, htM]) (off + k)
    have hg1 := (Own.blk HSr.out).2
    clear htM
    have HT2 : Hid (Sofar s (t.set (off + k) (y + x * c)) q off (k + 1) c) := Lib.hid (by rw [← hx, ← hy]; exact HT.out.step (by omega))
    rw [hx] at hcell
    rw [hy] at hc2
    have hkl : k < ls := by omega
    obtain rfl : A1 = some ⟨g1, off, none⟩ := HA.out (by omega)
    clear hx hy hbq hq0
    go_wp2_with fail
    go_region_with (first
     | (go_at_call 96; refine (mul_f gf x c _ (show Fld wr.drew gf from HFr.out)).mono ?_; rintro e w2 ⟨rfl, hF2, hP2⟩; have hc3 := (past_cell hP2 ⟨g1, off + k, none⟩ hg1 (by simp; omega)).trans (show wr.drew.cell? ⟨g1, off + k, none⟩ = _ from hc2); have HS2 := Lib.hid (own_keep (w' := w2) (HSr.out.drew) (FldP.of (show Fld wr.drew gf from HFr.out)) hP2); have hf3 := Own.frozenAt HS2.out (by rw [bvs_length, HTM.out]) (off + k); have HF2 := Lib.hid hF2; have HP2 := Lib.hid hP2; clear hF2 hP2)
     | (go_at_call 44; refine (add_still y (x * c) _).mono ?_; rintro e w3 ⟨rfl, rfl⟩))
    all_goals
     have HS3 : Hid (Own (w3.setCell ⟨g1, off + k, none⟩ (.int .u8 ((y + x * c).n : Int))) Bo 5 (.slice (some ⟨g1, 0, none⟩) M C) (bv (bs (t.set (off + k) (y + x * c))))) := Lib.hid (own_set HS2.out HTM.out)
     have HF3 : Hid (Fld (w3.setCell ⟨g1, off + k, none⟩ (.int .u8 ((y + x * c).n : Int))) gf) := Lib.hid (HF2.out.imp (fun h => h.far hne _) (fun h => h.far hne _))
     have HU3 : Hid (But w.heap.size (fun k => k = g1 ∨ k = gf) w (w3.setCell ⟨g1, off + k, none⟩ (.int .u8 ((y + x * c).n : Int)))) := Lib.hid ((HU.out.drew.trans (But.of_past (HP2.out.mono HU.out.size) (.inr rfl))).setCell (p := ⟨g1, off + k, none⟩) (.inl (.inl rfl)) _)
     clear HA hc3 hf3 hc2 hf2 hcell
     go_wp2
     go_roundw
     case rel => exact ⟨k + 1, _, by omega, by go_num, HT2, HS3, HF3, HU3⟩
     case measure => simp [intOf]; omega
   ·obtain rfl : k = n := by omega
    go_wp2
    go_end0
    exact ⟨rfl, ⟨t, HT.out.1, by have := HT.out; rw [← HL.out] at this; exact this.all, HSr.out⟩, HFr.out, HU.out⟩
end Go.Proofs.YtofihklinkpbiaaGreat.Poly

namespace Go.Proofs.YtofihklinkpbiaaGreat.Poly
open Go.RowKit Go.Shelf F8 GF
attribute [local go_sem] Oper.semAt_some
def IsF (w0 w : World) (pf : Option Addr) (g : Nat) : Prop := (pf = none ∧ w.heap.size ≤ g) ∨ (pf = some ⟨g, 0, none⟩ ∧ g < w0.heap.size)
theorem IsF.ne {w0 w : World} {pf : Option Addr} {g k : Nat} (h : IsF w0 w pf g) (h1 : w0.heap.size ≤ k) (h2 : k < w.heap.size) : k ≠ g := by
 rcases h with ⟨_, h⟩ | ⟨_, h⟩ <;> omega
theorem IsF.past {w0 w a b : World} {pf : Option Addr} {g : Nat} (h : IsF w0 w pf g) (hw : w0.heap.size ≤ w.heap.size) (hp : Past w0.heap.size g a b) : Past w0.heap.size (rb w0 pf) a b := by
 rcases h with ⟨rfl, h⟩ | ⟨rfl, h⟩
 ·exact Past.of_below (hp.below (by omega)) _
 ·exact hp
theorem IsF.fldP {w0 w w' : World} {pf : Option Addr} {g : Nat} (h : IsF w0 w pf g) (hf : Fld w' g) : FldP w' pf := by
 rcases h with ⟨rfl, h⟩ | ⟨rfl, h⟩
 ·exact .inl rfl
 ·exact FldP.of hf
theorem IsF.far {w0 w : World} {pf A : Option Addr} {p : List F8} {g : Nat} (h : IsF w0 w pf g) (hw : w0.heap.size ≤ w.heap.size) (hfar : Far pf A p) (hb : Bytes w0 A (bs p)) : p ≠ [] → ∀ a, A = some a → a.block ≠ g ∧ a.block < w0.heap.size := by
 intro hp a ha
 obtain ⟨b, off, e⟩ := where_ hb (List.length_pos_iff.2 hp)
 obtain ⟨b', off', e', hc⟩ := cellF hb 0 (List.length_pos_iff.2 hp)
 rw [ha] at e e'
 cases e; cases e'
 have hlt := cell_lt hc
 refine ⟨?_, hlt⟩
 rcases h with ⟨rfl, h⟩ | ⟨rfl, h⟩
 ·simp at hlt ⊢; omega
 ·exact hfar hp _ _ ha rfl
def NewF (w0 : World) (pf : Option Addr) (w : World) (e : Ending) (w' : World) : Prop :=
 ∃ g, e = .returned (.pointer (some ⟨g, 0, none⟩)) ∧ IsF w0 w pf g ∧ Fld w' g ∧ Below w.heap.size w w'
theorem orNew_f (pf : Option Addr) (w0 w : World) (hf : FldP w0 pf) (hb : Below w0.heap.size w0 w) : Calls Tryz.prog 97 #[.pointer pf] w (NewF w0 pf w) := by
 have hfw : FldP w pf := hf.below hb
 refine (orNew_calls pf w hfw).mono ?_
 rintro e w' ⟨g, h1, ⟨h2, rfl⟩ | ⟨h2, h3, h4⟩⟩
 ·subst h2
  exact ⟨g, h1, .inr ⟨rfl, hf.fld.lt⟩, hfw.fld, Below.refl _ _⟩
 ·subst h3 h4
  exact ⟨_, h1, .inl ⟨h2, Nat.le_refl _⟩, Fld.new w, (Below.refl _ _).alloc (Nat.le_refl _) _⟩
theorem eval_drop (p : List F8) (x : F8) (k : Nat) : eval (p.drop k) x = eval (p.drop (k + 1)) x * x + coef p k := by
 by_cases h : k < p.length
 ·rw [List.drop_eq_getElem_cons h, coef_of_lt h, mul_comm, F8.add_comm]
  rfl
 ·rw [List.drop_eq_nil_of_le (by omega), List.drop_eq_nil_of_le (by omega), coef_of_le (by omega)]
  show (0 : F8) = 0 * x + 0
  rw [zero_mul, add_zero]
def AtRes (pf : Option Addr) (y : F8) (w : World) (e : Ending) (w' : World) : Prop := e = .returned (.int .u8 y.n) ∧ FldP w' pf ∧ Past w.heap.size (rb w pf) w w'
set_option maxRecDepth 100000 in
set_option maxHeartbeats 2000000 in
theorem at_calls (A : Option Addr) (p : List F8) (m c : Nat) (w : World) (hl : p.length = m) (hb : Bytes w A (bs p)) (hm : m ≤ 5000) (pf : Option Addr) (hf : FldP w pf) (hfar : Far pf A p) (x : F8) :
  Calls Tryz.prog 58 #[.pointer pf, .slice A m c, .int .u8 x.n] w (AtRes pf (eval p x) w) := by
 have HB := Lib.hid hb
 have HL := Lib.hid hl
 have hB0 : Below w.heap.size w ((w.alloc (.cells #[.pointer pf] 30)).alloc (.cells #[.int .u8 x.n] 5)) := ((Below.refl _ w).alloc (Nat.le_refl _) _).alloc (by simp) _
 have hbf0 : Block ((w.alloc (.cells #[.pointer pf] 30)).alloc (.cells #[.int .u8 x.n] 5)) w.heap.size 30 #[.pointer pf] := (Block.new w _ _).alloc _
 have hbx0 : Block ((w.alloc (.cells #[.pointer pf] 30)).alloc (.cells #[.int .u8 x.n] 5)) (w.heap.size + 1) 5 #[.int .u8 x.n] := by
  have := Block.new (w.alloc (.cells #[.pointer pf] 30)) 5 #[.int .u8 x.n]; rwa [World.size_alloc] at this
 clear hb hl
 refine (callsIn_wide (n := 9)).1 (callsIn_of_wp_marks Tryz.func58 rfl trivial ?_ rfl)
 simp only [Tryz.ntmps58, List.size_toArray, List.length_cons, List.length_nil, Nat.reduceAdd, Nat.reduceSub, Array.replicate_succ, Array.replicate_zero, List.push_toArray, List.append_toArray, List.nil_append, List.cons_append]
 refine wpIn_wide.2 ?_
 go_wp2_with (first
  | (go_at_call 97; refine (orNew_f pf w _ hf hB0).mono ?_; rintro e w1 ⟨g, rfl, hg, hF1, hB1⟩; have hbf1 := hbf0.below hB1 (by simp; omega); have hbx1 := hbx0.below hB1 (by simp); have hcf1 := hbf1.cell 0; have hff1 := hbf1.frozen 0)
  | (go_at_call 113; refine (downward_calls _ _ _ _).mono ?_; rintro e w' ⟨rfl, rfl⟩))
 have hs1 : w.heap.size + 2 ≤ w1.heap.size := by have := hB1.size; simp at this; omega
 have hgne : ∀ k, w.heap.size ≤ k → k < w.heap.size + 2 → k ≠ g := fun k h1 h2 => hg.ne h1 (by simp; omega)
 have hglt := hF1.lt
 obtain ⟨w3, hw3⟩ : ∃ w3, ((w1.setCell ⟨w.heap.size, 0, none⟩ (.pointer (some ⟨g, 0, none⟩))).alloc (.cells #[.int .u8 0] 5)).alloc (.cells #[.slice A m c] 22) = w3 := ⟨_, rfl⟩
 have hbf3 : Block w3 w.heap.size 30 #[.pointer (some ⟨g, 0, none⟩)] := by rw [← hw3]; exact ((hbf1.set_ 0 _).alloc _).alloc _
 have hbx3 : Block w3 (w.heap.size + 1) 5 #[.int .u8 x.n] := by rw [← hw3]; exact ((hbx1.far (by simp) _).alloc _).alloc _
 have hF3 : Fld w3 g := by
  rw [← hw3]
  have : g ≠ w.heap.size := fun e => hgne g (by omega) (by omega) rfl
  exact (show Fld (w1.setCell ⟨w.heap.size, 0, none⟩ (.pointer (some ⟨g, 0, none⟩))) g from hF1.imp (fun h => h.far this _) (fun h => h.far this _)).alloc _ |>.alloc _
 have hz : (w1.setCell ⟨w.heap.size, 0, none⟩ (.pointer (some ⟨g, 0, none⟩))).heap.size = w1.heap.size := by simp [World.setCell]
 have hbv3 : Block w3 w1.heap.size 5 #[.int .u8 0] := by
  rw [← hw3]
  have := Block.new (w1.setCell ⟨w.heap.size, 0, none⟩ (.pointer (some ⟨g, 0, none⟩))) 5 #[.int .u8 0]
  rw [hz] at this
  exact this.alloc _
 have hba3 : Block w3 (w1.heap.size + 1) 22 #[.slice A m c] := by
  rw [← hw3]
  have := Block.new ((w1.setCell ⟨w.heap.size, 0, none⟩ (.pointer (some ⟨g, 0, none⟩))).alloc (.cells #[.int .u8 0] 5)) 22 #[.slice A m c]
  rwa [World.size_alloc, hz] at this
 have hB3 : Below w.heap.size w w3 := by
  rw [← hw3]
  exact (((hB0.trans (hB1.mono (by simp; omega))).setCell (p := ⟨w.heap.size, 0, none⟩) (Nat.le_refl _) _).alloc (by rw [hz]; omega) _).alloc (by simp [hz]; omega) _
 have hs3 : w1.heap.size + 2 ≤ w3.heap.size ∧ w3.heap.size ≤ w1.heap.size + 2 := by rw [← hw3]; simp [hz]
 have hfar2 := hg.far (by simp; omega) hfar HB.out
 rw [hw3]
 clear hw3 hz hcf1 hff1 hbf1 hbx1 hbf0 hbx0 hB0 hB1 hF1 hfar hf
 refine wpIn_wide.1 (wpIn_down (n := 9) (by omega) (Bn := w1.heap.size + 1) (m := m) (c := c) (A := A) (by omega) rfl
  (fun k r V => r = p ∧ Bytes V A (bs p) ∧ Block V (w1.heap.size + 1) 22 #[.slice A m c] ∧ Block V w.heap.size 30 #[.pointer (some ⟨g, 0, none⟩)] ∧ Block V (w.heap.size + 1) 5 #[.int .u8 x.n] ∧ Block V w1.heap.size 5 #[.int .u8 (eval (p.drop k) x).n] ∧ Fld V g ∧ Past w.heap.size g w V)
  (fun _ _ => False)
  (fun k r V V' ⟨h1, h2, h3, h4, h5, h6, h7, h8⟩ ht => ⟨h1, ht.bytes h2, ht.block h3, ht.block h4, ht.block h5, ht.block h6, h7.imp ht.block ht.block, ht.past h8 (by omega)⟩)
  (fun _ _ _ h _ => h)
  (fun k r V ⟨h1, h2, h3, _⟩ => ⟨by rw [h1, HL.out], by rw [h1]; exact h2, h3.cell 0⟩)
  p ⟨rfl, HB.out.below hB3, hba3, hbf3, hbx3, by rw [List.drop_eq_nil_of_le (by rw [HL.out]; omega)]; exact hbv3, hF3, Past.of_below hB3 _⟩
  ?a1 ?assign ?body ?done (fun _ _ h => h.elim))
 case assign =>
  intro l k y V K hK
  gi_wp2
  exact hK
 case body =>
  rintro l k r V hk ⟨rfl, h2, h3, h4, h5, h6, h7, h8⟩ hsV
  have hc4 := h4.cell 0
  have hc5 := h5.cell 0
  have hc6 := h6.cell 0
  obtain ⟨v, hv⟩ : ∃ v, eval (r.drop (k + 1)) x = v := ⟨_, rfl⟩
  obtain ⟨y, hy⟩ : ∃ y, coef r k = y := ⟨_, rfl⟩
  have HV : Hid (eval (r.drop k) x = v * x + y) := Lib.hid (by rw [eval_drop, hv, hy])
  rw [hv] at h6 hc6
  rw [hy]
  clear hv hy
  gi_wp2_with (first
   | (refine ⟨trivial, ?_⟩; gi_at_call 96; refine (callsIn_round (mul_f g v x _ h7)).mono ?_; rintro e V2 ⟨rfl, hF2, hP2⟩; have g6 := h6.past hP2 h6.lt (by omega); have gc6 := g6.cell 0; have gf6 := g6.frozen 0)
   | (refine ⟨trivial, ?_⟩; gi_at_call 44; refine (callsIn_round (add_still (v * x) y _)).mono ?_; rintro e V3 ⟨rfl, rfl⟩))
  have hcl : ∃ cs t fr, V.heap[g]? = some (Obj.cells cs t fr) := by rcases h7 with h | h <;> exact ⟨_, _, _, h⟩
  have g8 : Past w.heap.size g w (V3.setCell ⟨w1.heap.size, 0, none⟩ (.int .u8 ((v * x + y).n : Int))) := (h8.trans (hP2.mono (by omega))).setCell (p := ⟨w1.heap.size, 0, none⟩) (.inr (by simp; omega)) _
  refine ⟨(keeps_past hP2 (.inr hcl)).trans ((KeepsOthers.setCell _ _ _).from _), r, rfl, bytes_far HB.out (fun hp a ha => (hfar2 hp a ha).1) g8,
   (h3.past hP2 h3.lt (by omega)).far (by simp) _, (h4.past hP2 h4.lt (hgne _ (by omega) (by omega))).far (by simp; omega) _, (h5.past hP2 h5.lt (hgne _ (by omega) (by omega))).far (by simp; omega) _, ?_, ?_, g8⟩
  ·rw [HV.out]; exact g6.set_ 0 _
  ·exact hF2.imp (fun h => h.far (by simp; omega) _) (fun h => h.far (by simp; omega) _)
 case done =>
  rintro r V ⟨rfl, h2, h3, h4, h5, h6, h7, h8⟩ hD
  have hc6 := h6.cell 0
  go_wp2
  refine ⟨by simp, .inl ⟨_, _, rfl, run_takeDeferred hD, ?_⟩⟩
  have ht : Turn w.heap.size V _ := Turn.put hD rfl (by omega) (.deferred none)
  exact ⟨_, results_tmp rfl _ _ _, rfl, hg.fldP (h7.imp ht.block ht.block), hg.past (by simp; omega) (ht.past h8 (Nat.le_refl _))⟩
end Go.Proofs.YtofihklinkpbiaaGreat.Poly
