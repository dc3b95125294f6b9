/- Of the program, joined: MsMath6, PtGroup, PtOps, MsMath7, MsCodeH. -/
import Derived.Test.YtjoghbmedfmioaaGreatPb18
import Derived.Test.YtjoghbmedfmioaaGreatPb02
import Derived.Test.YtjoghbmedfmioaaGreatPb03
import Derived.Test.YtjoghbmedfmioaaGreatPb12
import Derived.Test.YtjoghbmedfmioaaGreatPb16
import Derived.Test.YtjoghbmedfmioaaGreatPb21
namespace Go.Proofs.YtjoghbmedfmioaaGreat.Ms
open F8 Poly Rd Mat Wl
theorem one_eq : ∀ {s : List F8}, s.length = 1 → ∀ y : F8, s = [y] ↔ coef s 0 = y
 | [x], _, y => by simp [coef]
theorem root_div : ∀ {rs p : List F8} {n : Nat}, rs.Nodup → Bdd p (n + rs.length) → (∀ x ∈ rs, Poly.eval p x = 0) → ∃ q, Bdd q n ∧ Eqv p (pmul (roots rs) q)
 | [], p, _, _, hb, _ => ⟨p, hb, (one_pmul p).symm⟩
 | x :: rs, p, n, hn, hb, h => by
  have hs : Eqv p (pmul [x, 1] (synth x p)) := by
   have h1 := synth_eqv x p
   rw [h x (List.mem_cons_self ..)] at h1
   refine h1.trans fun i => ?_
   rw [coef_padd]
   cases i with
   | zero => rw [coef_cons_zero, zero_add]
   | succ i => rw [coef_cons_succ, coef_nil, zero_add]
  obtain ⟨q, hq, he⟩ := root_div (rs := rs) (p := synth x p) (n := n) (List.nodup_cons.1 hn).2 (synth_bdd x p _ (hb.mono (by rw [List.length_cons]; omega))) fun y hy => by
   have h1 := h y (List.mem_cons_of_mem _ hy)
   rw [eval_congr y hs, eval_pmul, eval_root] at h1
   rcases F8.mul_eq_zero.1 h1 with h2 | h2
   ·exact absurd (add_eq_zero.1 h2) (fun e => (List.nodup_cons.1 hn).1 (e ▸ hy))
   ·exact h2
  exact ⟨q, hq, hs.trans ((pmul_congr_right _ he).trans (pmul_assoc _ _ _).symm)⟩
def mend (a : Nat) (l : F8) (p : List F8) : List F8 := (List.range a).map fun c => coef p c + l * coef p (a + c)
theorem mend_length (a : Nat) (l : F8) (p : List F8) : (mend a l p).length = a := by simp [mend]
structure Zp (xs : List F8) (a v : Nat) (p : List F8) : Prop where
 len : p.length = 2 * a
 z : ∀ i, i < v → Poly.eval p (coef xs i) = 0
def sends (xs : List F8) (v : Nat) (p : List F8) (j : Nat) : List F8 := [Poly.eval p (coef xs (v + j))]
def ArgR (n : Nat) (to : Int) (sh : List (Int × List F8)) (t : Int) : Prop := (0 ≤ to ∧ to < (n : Int)) ∧ (∀ o ∈ sh, o.1 ≠ to) ∧ ArgOk n 1 sh t
def RIs (xs : List F8) (n d a v : Nat) (to : Int) (sh : List (Int × List F8)) (t : Int) (m : List F8) (wl : List Int) (z : Int) : Prop :=
 (¬ ArgR n to sh t ∧ m = [] ∧ wl = [] ∧ z = 2) ∨ (ArgR n to sh t ∧ (sh.length : Int) < d + 2 * t ∧ m = [] ∧ wl = [] ∧ z = 70) ∨
 (ArgR n to sh t ∧ d + 2 * t ≤ (sh.length : Int) ∧ ∃ p, Zp xs a v p ∧ ((wrongs n (sends xs v p) sh).length : Int) ≤ t ∧ z = 0 ∧ m = mend a (xpow (coef xs (v + to.toNat)) a) p ∧ wl = wrongs n (sends xs v p) sh) ∨
 (ArgR n to sh t ∧ d + 2 * t ≤ (sh.length : Int) ∧ z = 80 ∧ m = [] ∧ wl = [] ∧ ∀ p, Zp xs a v p → t < ((wrongs n (sends xs v p) sh).length : Int))
section
variable {xs : List F8} {n k d a v : Nat} {sh : List (Int × List F8)} {t to : Int}
theorem wrongs_len {s : Nat} (h : ArgOk n s sh t) (S : Nat → List F8) : (sh.filter fun o => decide (o.2 ≠ S o.1.toNat)).length = (wrongs n S sh).length := by
 have hnd : ((sh.filter fun o => decide (o.2 ≠ S o.1.toNat)).map Prod.fst).Nodup := h.1.sublist (List.filter_sublist.map _)
 have hmem : ∀ z : Int, z ∈ (sh.filter fun o => decide (o.2 ≠ S o.1.toNat)).map Prod.fst ↔ z ∈ wrongs n S sh := fun z => by
  rw [mem_wrongs h, List.mem_map]
  constructor
  ·rintro ⟨o, ho, rfl⟩
   obtain ⟨h1, h2⟩ := List.mem_filter.1 ho
   exact ⟨o, h1, rfl, of_decide_eq_true h2⟩
  ·rintro ⟨o, ho, rfl, hne⟩
   exact ⟨o, List.mem_filter.2 ⟨ho, decide_eq_true hne⟩, rfl⟩
 have h1 := sub_le hnd fun x hx => (hmem x).1 hx
 have h2 := sub_le (sorted_nodup (wrongs_sorted n S sh)) fun x hx => (hmem x).2 hx
 rw [List.length_map] at h1 h2
 omega
theorem zp_only (hP : Par xs n k d a v) (hA : ArgOk n 1 sh t) (hk : d + 2 * t ≤ (sh.length : Int)) {p q : List F8} (hp : Zp xs a v p) (hq : Zp xs a v q)
  (hw : ((wrongs n (sends xs v p) sh).length : Int) ≤ t) (hw' : ((wrongs n (sends xs v q) sh).length : Int) ≤ t) : p = q := by
 rw [← wrongs_len hA] at hw hw'
 obtain ⟨l, hl⟩ : ∃ l, sh.filter (fun o => !decide (o.2 ≠ sends xs v p o.1.toNat) && !decide (o.2 ≠ sends xs v q o.1.toNat)) = l := ⟨_, rfl⟩
 have h2 : sh.length ≤ l.length + (sh.filter fun o => decide (o.2 ≠ sends xs v p o.1.toNat)).length + (sh.filter fun o => decide (o.2 ≠ sends xs v q o.1.toNat)).length := by
  have h1 := len_split (fun o : Int × List F8 => !decide (o.2 ≠ sends xs v p o.1.toNat) && !decide (o.2 ≠ sends xs v q o.1.toNat)) sh
  have h3 := filter_and (fun o : Int × List F8 => !decide (o.2 ≠ sends xs v p o.1.toNat)) (fun o => !decide (o.2 ≠ sends xs v q o.1.toNat)) sh
  simp only [Bool.not_not] at h3
  rw [hl] at h1
  omega
 have hls : l.Sublist sh := hl ▸ List.filter_sublist
 have hmem : ∀ o ∈ l, Poly.eval p (coef xs (v + o.1.toNat)) = Poly.eval q (coef xs (v + o.1.toNat)) := fun o ho => by
  rw [← hl] at ho
  have h3 := (List.mem_filter.1 ho).2
  simp only [Bool.and_eq_true, Bool.not_eq_true', decide_eq_false_iff_not, Classical.not_not] at h3
  have e := h3.1.symm.trans h3.2
  unfold sends at e
  exact (List.cons.injEq .. ▸ e).1
 have hA2 : ArgOk n 1 l t := ⟨hA.1.sublist (hls.map _), fun o ho => hA.2.1 o (hls.subset ho), hA.2.2⟩
 have hok := okl_any (s := 1) hP.len hA2
 have hnd : ((vir v 1 ++ told v l).map fun u => coef xs u.1).Nodup := by rw [← pts_plI]; exact ptsAt_nodup hP.P.nd hok.okP
 have hvk := hP.vk; have hak := hP.ak
 refine same_of hp.len hq.len (xs := (vir v 1 ++ told v l).map fun u => coef xs u.1) (by rw [List.length_map, List.length_append, vir_length, told_length]; omega) hnd fun x hx => ?_
 obtain ⟨u, hu, rfl⟩ := List.mem_map.1 hx
 rcases List.mem_append.1 hu with hu | hu
 ·obtain ⟨i, hi, rfl⟩ := List.mem_map.1 hu
  have hi := List.mem_range.1 hi
  rw [hp.z i hi, hq.z i hi]
 ·obtain ⟨o, ho, rfl⟩ := List.mem_map.1 hu
  exact hmem o ho
theorem RIs.only (hP : Par xs n k d a v) {m m' : List F8} {wl wl' : List Int} {z z' : Int} (h : RIs xs n d a v to sh t m wl z) (h' : RIs xs n d a v to sh t m' wl' z') : m = m' ∧ wl = wl' ∧ z = z' := by
  rcases h with ⟨A, h1, h2, h3⟩ | ⟨A, b, h1, h2, h3⟩ | ⟨A, b, p, hc, hw, h1, h2, h3⟩ | ⟨A, b, h1, h2, h3, hno⟩ <;>
  rcases h' with ⟨A', h1', h2', h3'⟩ | ⟨A', b', h1', h2', h3'⟩ | ⟨A', b', p', hc', hw', h1', h2', h3'⟩ | ⟨A', b', h1', h2', h3', hno'⟩ <;>
  first
    | exact absurd A' A
    | exact absurd A A'
    | exact absurd b (by omega)
    | exact absurd b' (by omega)
    | exact ⟨h1.trans h1'.symm, h2.trans h2'.symm, h3.trans h3'.symm⟩
    | exact ⟨h2.trans h2'.symm, h3.trans h3'.symm, h1.trans h1'.symm⟩
    | exact absurd hw (by have := hno' p hc; omega)
    | exact absurd hw' (by have := hno p' hc'; omega)
    | (have e := zp_only hP A.2.2 b hc hc' hw hw'
       rw [e] at h2 h3
       exact ⟨h2.trans h2'.symm, h3.trans h3'.symm, h1.trans h1'.symm⟩)
theorem wr_mapI (m : List F8) (f g : Int × List F8 → F8) : ∀ l : List (Int × List F8), Wl.wr m (l.map f) (l.map g) = (l.filter fun o => decide (Poly.eval m (f o) ≠ g o)).length
 | [] => rfl
 | o :: l => by
  rw [List.map_cons, List.map_cons, wr_cons, wr_mapI m f g l, List.filter_cons]
  by_cases e : Poly.eval m (f o) = g o
  ·rw [if_neg (fun h => h e), if_neg (by simp [e])]; omega
  ·rw [if_pos e, if_pos (by simp [e]), List.length_cons]; omega
theorem coef_drop (l : List F8) (v j : Nat) : coef (l.drop v) j = coef l (v + j) := by simp [coef, List.getD_eq_getElem?_getD]
def ylds (xs : List F8) (v : Nat) (sh : List (Int × List F8)) : List F8 := sh.map fun o => coef o.2 0 / Poly.eval (trim (roots (xs.take v))) (coef xs (v + o.1.toNat))
theorem ylds_length (xs : List F8) (v : Nat) (sh : List (Int × List F8)) : (ylds xs v sh).length = sh.length := by simp [ylds]
theorem factor_ne (hP : Par xs n k d a v) {j : Nat} (hj : j < n) : Poly.eval (trim (roots (xs.take v))) (coef xs (v + j)) ≠ 0 := by
 rw [eval_trim]
 intro e
 have h1 := (eval_roots _ _).1 e
 obtain ⟨i, hi, he⟩ := List.mem_iff_getElem.1 h1
 rw [List.length_take] at hi
 rw [List.getElem_take] at he
 have h2 : v + j < xs.length := by rw [hP.len]; omega
 rw [coef_of_lt h2] at he
 have := (List.getElem_inj hP.P.nd).1 he
 omega
theorem okp_of (hP : Par xs n k d a v) (hA : ArgOk n 1 sh t) : OkP (xs.drop v).length (sh.map Prod.fst) := by
 refine ⟨fun i hi => ?_, hA.1⟩
 obtain ⟨o, ho, rfl⟩ := List.mem_map.1 hi
 have := hA.2.1 o ho
 rw [List.length_drop, hP.len]
 omega
theorem same_wrongs (hP : Par xs n k d a v) (hA : ArgOk n 1 sh t) {p q : List F8} (he : Eqv p (pmul (trim (roots (xs.take v))) q)) :
  Wl.wr q (ptsAt (xs.drop v) (sh.map Prod.fst)) (ylds xs v sh) = (wrongs n (sends xs v p) sh).length ∧ wrong (xs.drop v) q (sh.map Prod.fst) (ylds xs v sh) = wrongs n (sends xs v p) sh := by
 have key : ∀ o ∈ sh, (Poly.eval q (coef (xs.drop v) o.1.toNat) ≠ coef o.2 0 / Poly.eval (trim (roots (xs.take v))) (coef xs (v + o.1.toNat)) ↔ o.2 ≠ sends xs v p o.1.toNat) := fun o ho => by
  have h1 := hA.2.1 o ho
  have hf := factor_ne hP (j := o.1.toNat) (by omega)
  rw [coef_drop]
  refine not_congr ?_
  unfold sends
  rw [one_eq h1.2.2, eval_congr _ he, eval_pmul]
  constructor
  ·intro e; rw [e, mul_div' _ hf]
  ·intro e; rw [e, mul_comm, mul_div _ hf]
 constructor
 ·rw [← wrongs_len hA]
  unfold ptsAt ylds
  rw [List.map_map, wr_mapI]
  congr 1
  refine List.filter_congr fun o ho => ?_
  rw [decide_eq_decide]
  exact key o ho
 ·have hok := okp_of hP hA
  refine sorted_ext (wrong_sorted hok) (wrongs_sorted _ _ _) fun z => ?_
  rw [mem_wrong_zip hok (by rw [ylds_length, List.length_map]), mem_wrongs hA]
  unfold ylds
  rw [List.zip_map']
  constructor
  ·rintro ⟨y, hy, hne⟩
   obtain ⟨o, ho, e⟩ := List.mem_map.1 hy
   injection e with e1 e2
   subst e1; subst e2
   exact ⟨o, ho, rfl, (key o ho).1 hne⟩
  ·rintro ⟨o, ho, rfl, hne⟩
   exact ⟨_, List.mem_map.2 ⟨o, ho, rfl⟩, (key o ho).2 hne⟩
theorem factor_len (hP : Par xs n k d a v) : len (trim (roots (xs.take v))) = v + 1 := by
 rw [len_trim, len_roots, List.length_take, hP.len]; congr 1; omega
theorem prod_bdd (hP : Par xs n k d a v) {q : List F8} (hq : q.length = d) : Bdd (pmul (trim (roots (xs.take v))) q) (2 * a) := by
 have h1 : Bdd (trim (roots (xs.take v))) (v + 1) := bdd_iff.2 (Nat.le_of_eq (factor_len hP))
 have h2 : Bdd q d := hq ▸ bdd_length q
 have hvk := hP.vk; have hak := hP.ak
 exact fun i hi => bdd_pmul h1 h2 i (by omega)
theorem prod_len (hP : Par xs n k d a v) {q : List F8} (hq : q.length = d) : (trim (pmul (trim (roots (xs.take v))) q)).length ≤ 2 * a := len_le_of_bdd (prod_bdd hP hq)
theorem zp_of (hP : Par xs n k d a v) {q : List F8} (hq : q.length = d) : Zp xs a v (full (trim (pmul (trim (roots (xs.take v))) q)) (2 * a)) ∧ Eqv (full (trim (pmul (trim (roots (xs.take v))) q)) (2 * a)) (pmul (trim (roots (xs.take v))) q) := by
 have he := (full_eqv (prod_len hP hq)).trans (trim_eqv (pmul (trim (roots (xs.take v))) q))
 refine ⟨⟨full_length _ _, fun i hi => ?_⟩, he⟩
 rw [eval_congr _ he, eval_pmul, eval_trim]
 have hlt : i < xs.length := by rw [hP.len]; omega
 have hm : coef xs i ∈ xs.take v := by
  rw [coef_of_lt hlt]
  exact List.mem_take_iff_getElem.2 ⟨i, by omega, rfl⟩
 rw [(eval_roots _ _).2 hm, zero_mul]
theorem of_zp (hP : Par xs n k d a v) {p : List F8} (hp : Zp xs a v p) : ∃ q : List F8, q.length = d ∧ Eqv p (pmul (trim (roots (xs.take v))) q) := by
 have hvk := hP.vk; have hak := hP.ak
 obtain ⟨q, hq, he⟩ := root_div (rs := xs.take v) (p := p) (n := d) (hP.P.nd.sublist (List.take_sublist _ _)) ((bdd_length p).mono (by rw [hp.len, List.length_take, hP.len]; omega)) fun x hx => by
  obtain ⟨i, hi, rfl⟩ := List.mem_take_iff_getElem.1 hx
  have := hp.z i (by omega)
  rwa [coef_of_lt (by omega)] at this
 have hl : (trim q).length ≤ d := len_le_of_bdd hq
 exact ⟨full (trim q) d, full_length _ _, he.trans (pmul_congr (trim_eqv _).symm ((full_eqv hl).trans (trim_eqv q)).symm)⟩
theorem ris_of (hP : Par xs n k d a v) (hA : ArgR n to sh t) {q : List F8} {wl : List Int} {z : Int} (h : WIs (xs.drop v) d (sh.map Prod.fst) (ylds xs v sh) t q wl z) :
  (z = 0 → q.length = d ∧ RIs xs n d a v to sh t (mend a (xpow (coef xs (v + to.toNat)) a) (full (trim (pmul (trim (roots (xs.take v))) q)) (2 * a))) wl 0) ∧ (z ≠ 0 → RIs xs n d a v to sh t [] [] z) := by
 have hok := okp_of hP hA.2.2
 have hall : ((sh.map Prod.fst).length = (ylds xs v sh).length ∧ OkP (xs.drop v).length (sh.map Prod.fst)) ∧ 0 ≤ t := ⟨⟨by rw [List.length_map, ylds_length], hok⟩, hA.2.2.2.2⟩
 rcases h with ⟨hn, _⟩ | ⟨_, hb, rfl, rfl, rfl⟩ | ⟨_, hb, rfl, hq, hw, rfl⟩ | ⟨_, hb, rfl, rfl, rfl, hno⟩
 ·exact absurd hall hn
 ·rw [List.length_map] at hb
  exact ⟨fun e => absurd e (by decide), fun _ => .inr (.inl ⟨hA, hb, rfl, rfl, rfl⟩)⟩
 ·rw [List.length_map] at hb
  obtain ⟨hz, he⟩ := zp_of hP hq
  obtain ⟨e1, e2⟩ := same_wrongs hP hA.2.2 he
  exact ⟨fun _ => ⟨hq, .inr (.inr (.inl ⟨hA, hb, _, hz, by rw [← e1]; exact hw, rfl, rfl, e2⟩))⟩, fun e => absurd rfl e⟩
 ·rw [List.length_map] at hb
  refine ⟨fun e => absurd e (by decide), fun _ => .inr (.inr (.inr ⟨hA, hb, rfl, rfl, rfl, fun p hp => ?_⟩))⟩
  obtain ⟨q, hq, he⟩ := of_zp hP hp
  rw [← (same_wrongs hP hA.2.2 he).1]
  exact hno q hq
theorem mend_node (M N : Nat → List F8) (x : F8) : mend a (xpow x a) (row a M x ++ row a N x) = shr a M N x := by
 unfold mend shr
 refine List.map_congr_left fun c hc => ?_
 have hc := List.mem_range.1 hc
 have h1 : coef (row a M x ++ row a N x) c = coef (row a M x) c := coef_lo (by rw [row_length]; exact hc)
 have h2 : coef (row a M x ++ row a N x) (a + c) = coef (row a N x) c := by
  have := coef_hi (s := row a M x) (t := row a N x) (i := c)
  rwa [row_length] at this
 rw [h1, h2, coef_row hc, coef_row hc]
theorem eval_app (p q : List F8) (x : F8) : Poly.eval (p ++ q) x = Poly.eval p x + xpow x p.length * Poly.eval q x := by
 induction p with
 | nil => show Poly.eval q x = 0 + 1 * Poly.eval q x; rw [one_mul, zero_add]
 | cons a p ih =>
  show a + x * Poly.eval (p ++ q) x = a + x * Poly.eval p x + xpow x (p.length + 1) * Poly.eval q x
  rw [ih, mul_add, Wl.xpow_succ, add_assoc, mul_assoc]
theorem sends_help {M N : Nat → List F8} (hM : Sym a M) (hN : Sym a N) (x y : F8) : Poly.eval (row a M x ++ row a N x) y = Poly.eval (shr a M N y) x := by
 rw [eval_app, row_length, eval_shr, hM.eval x y, hN.eval x y]
end
end Go.Proofs.YtjoghbmedfmioaaGreat.Ms

namespace Go.Proofs.YtjoghbmedfmioaaGreat.Pt
open Go.RowKit Go.Shelf Poly GF
attribute [local go_sem] Oper.semAt_some
def gidx (s t k : Nat) : Nat := k / s + k % s * t
def gpts (s t G : Nat) : List Nat := (List.range (G * s)).map fun k => gp (gidx s t k)
theorem gpts_length (s t G : Nat) : (gpts s t G).length = G * s := by simp [gpts]
theorem gpts_at {s t G c e : Nat} (hc : c < G) (he : e < s) : (bv (gpts s t G))[c * s + e]? = some (.int .u8 (gp (c + e * t) : Nat)) := by
 have h1 : c * s + e < G * s := by
  have : (c + 1) * s ≤ G * s := Nat.mul_le_mul_right s (by omega)
  rw [Nat.add_mul] at this; omega
 have hg : gidx s t (c * s + e) = c + e * t := by
  unfold gidx
  rw [Nat.add_comm (c * s) e, Nat.add_mul_div_right _ _ (by omega), Nat.div_eq_of_lt he, Nat.add_mul_mod_self_right, Nat.mod_eq_of_lt he, Nat.zero_add]
 simp only [bv, gpts, List.getElem?_map, List.getElem?_range h1, Option.map_some, hg]
structure Grp (b1 b2 b3 b4 g G s t : Nat) (W : World) : Prop where
 c1 : Block W b1 3 #[.int .i64 (G : Nat)]
 c2 : Block W b2 3 #[.int .i64 (s : Nat)]
 c3 : Block W b3 28 #[.pointer (some ⟨g, 0, none⟩)]
 c4 : Block W b4 3 #[.int .i64 (t : Nat)]
 fld : Fld W g
theorem fld_ne {W : World} {g b : Nat} {t : TypeId} {u : Value} (h : Fld W g) (hb : Block W b t #[u]) : b ≠ g := fun e => by
 subst e
 rcases h with hf | hf
 all_goals
  have h1 := hb.cell 1
  rw [hf.cell 1, fcells_get _ _ _ _ (by decide)] at h1
  simp at h1
theorem fld_far {W : World} {g : Nat} {p : Addr} (h : Fld W g) (hp : g ≠ p.block) (u : Value) : Fld (W.setCell p u) g := h.imp (fun h => h.far hp u) (fun h => h.far hp u)
theorem block_last (W : World) (p : Addr) (u : Value) (t : TypeId) (cs : Array Value) : Block ((W.setCell p u).alloc (.cells cs t)) W.heap.size t cs := by
 have h := Block.new (W.setCell p u) t cs
 rwa [show (W.setCell p u).heap.size = W.heap.size by simp [World.setCell]] at h
theorem Grp.ne {b1 b2 b3 b4 g G s t : Nat} {W : World} (h : Grp b1 b2 b3 b4 g G s t W) : b1 ≠ g ∧ b2 ≠ g ∧ b3 ≠ g ∧ b4 ≠ g := by
 exact ⟨fld_ne h.fld h.c1, fld_ne h.fld h.c2, fld_ne h.fld h.c3, fld_ne h.fld h.c4⟩
theorem Grp.past {b1 b2 b3 b4 g G s t : Nat} {W W' : World} (h : Grp b1 b2 b3 b4 g G s t W) (hp : Past W.heap.size g W W') (hf : Fld W' g) : Grp b1 b2 b3 b4 g G s t W' :=
 have n := h.ne
 ⟨h.c1.past hp h.c1.lt n.1, h.c2.past hp h.c2.lt n.2.1, h.c3.past hp h.c3.lt n.2.2.1, h.c4.past hp h.c4.lt n.2.2.2, hf⟩
theorem Grp.below {b1 b2 b3 b4 g G s t B : Nat} {W W' : World} (h : Grp b1 b2 b3 b4 g G s t W) (hp : Below B W W') (h1 : b1 < B) (h2 : b2 < B) (h3 : b3 < B) (h4 : b4 < B) (h5 : g < B) : Grp b1 b2 b3 b4 g G s t W' :=
 ⟨h.c1.below hp h1, h.c2.below hp h2, h.c3.below hp h3, h.c4.below hp h4, h.fld.below hp h5⟩
set_option maxRecDepth 100000 in
set_option maxHeartbeats 2000000 in
theorem grouped_visits (b1 b2 b3 b4 g G s t : Nat) (hG : G ≤ 1000) (hs : s ≤ 1000) (ht : t ≤ 1000) :
  Visits 166 #[.pointer (some ⟨b1, 0, none⟩), .pointer (some ⟨b2, 0, none⟩), .pointer (some ⟨b3, 0, none⟩), .pointer (some ⟨b4, 0, none⟩)] g (Grp b1 b2 b3 b4 g G s t) (bv (gpts s t G)) := by
 intro n hn l J Jx hJ hT hY W h0
 rw [bv_length, gpts_length]
 refine callsIn_of_wp Tryz.func166 rfl trivial ?_ rfl
 simp only [Tryz.ntmps166, List.size_toArray, List.length_cons, List.length_nil, Nat.reduceAdd, Nat.reduceSub, Array.replicate_succ, Array.replicate_zero, List.push_toArray, List.append_toArray, List.nil_append, List.cons_append]
 have hb0 := (hJ _ _ h0).c1.cell 0
 gi_wp2
 gi_loopw [9] (fun i wr => ∃ c : Nat, c ≤ G ∧ i = .int .i64 c ∧ J (c * s) wr) (fun i _ => G - (intOf i).toNat)
 case atStart => exact ⟨0, Nat.zero_le _, rfl, by rw [Nat.zero_mul]; exact h0⟩
 case round =>
  obtain ⟨c, hc, rfl, hj⟩ := hrel
  by_cases hcG : c < G
  ·have hb1 := (hJ _ _ hj).c2.cell 0
   gi_wp2
   gi_loopw [13] (fun i wr2 => ∃ e : Nat, e ≤ s ∧ i = .int .i64 e ∧ J (c * s + e) wr2) (fun i _ => s - (intOf i).toNat)
   case atStart => exact ⟨0, Nat.zero_le _, rfl, hj⟩
   case round =>
    obtain ⟨e, he, rfl, hj2⟩ := hrel
    by_cases hes : e < s
    ·have hK := hJ _ _ hj2
     have d3 := hK.c3.cell 0
     have d4 := hK.c4.cell 0
     obtain ⟨p, hp⟩ : ∃ p, e * t = p := ⟨_, rfl⟩
     have hpt : (e : Int) * (t : Int) = (p : Int) := by rw [← hp]; simp
     have hpb : p ≤ 1000000 := by rw [← hp]; exact Nat.mul_le_mul (show e ≤ 1000 by omega) ht
     have hv := gpts_at (t := t) hcG hes
     rw [hp] at hv
     have HG : Hid (ge ((c : Int) + (p : Int)) = gp (c + p)) := Lib.hid (by rw [← ge_nat, Int.natCast_add])
     clear hp
     gi_wp2_with fail
     refine ⟨trivial, (callsIn_wide.2 (exp_calls (some ⟨g, 0, none⟩) ((c : Int) + (p : Int)) (by omega) (by omega) _ (FldP.of hK.fld))).mono ?_⟩
     rintro ee W2 ⟨rfl, hf2, hP2⟩
     rw [HG.out]
     clear hpt
     have hj3 := hT _ _ _ hj2 hP2 (hK.past hP2 hf2.fld)
     obtain ⟨fn, tmps, assign, body, hy, hR⟩ := hY _ _ _ hv hj3
     gi_wp2
     refine hR.mono ?_
     rintro ee W3 (⟨rfl, hJ3⟩ | ⟨rfl, hJx3⟩)
     ·gi_wp2
      go_roundw
      case rel => exact ⟨e + 1, by omega, by go_num, hJ3⟩
      case measure => simp [intOf]; omega
     ·gi_wp2
      refine bodyPost_ret (results_none rfl _ _ _) rfl ?_
      exact ⟨⟨_, rfl⟩, .inr hJx3⟩
    ·obtain rfl : e = s := by omega
     rw [show c * e + e = (c + 1) * e by rw [Nat.add_mul, Nat.one_mul]] at hj2
     gi_wp2
     go_roundw
     case rel => exact ⟨c + 1, by omega, by go_num, hj2⟩
     case measure => simp [intOf]; omega
  ·obtain rfl : c = G := by omega
   gi_wp2
   go_end0
   exact ⟨⟨_, rfl⟩, .inl hj⟩
def NewF (pf : Option Addr) (w : World) (e : Ending) (w' : World) : Prop :=
 ∃ g, e = .returned (.pointer (some ⟨g, 0, none⟩)) ∧ ((pf = none ∧ w.heap.size ≤ g) ∨ pf = some ⟨g, 0, none⟩) ∧ Fld w' g ∧ Below w.heap.size w w'
theorem orNew_p (pf : Option Addr) (w : World) (hf : FldP w pf) : Calls Tryz.prog 165 #[.pointer pf] w (NewF pf w) := by
 rcases hf with rfl | ⟨g, rfl, hg⟩
 ·go_enter Tryz.func165, Tryz.ntmps165
  go_wp2_with (go_at_call 12; refine (new_calls _).mono ?_; rintro e w' ⟨rfl, rfl⟩)
  go_ret
  exact ⟨w.heap.size, rfl, .inl ⟨rfl, Nat.le_refl _⟩, Fld.new w, (Below.refl _ _).alloc (Nat.le_refl _) _⟩
 ·go_enter Tryz.func165, Tryz.ntmps165
  go_wp2
  go_ret
  exact ⟨g, rfl, .inr rfl, hg, Below.refl _ _⟩
set_option maxRecDepth 100000 in
set_option maxHeartbeats 2000000 in
theorem grouped_calls (pf : Option Addr) (s G : Nat) (hs : 1 ≤ s) (hs2 : s ≤ 255) (w : World) (hf : FldP w pf) :
  Calls Tryz.prog 135 #[.pointer pf, .int .i64 s, .int .i64 G] w fun e w' => ∃ g b1 b2 b3 b4,
   e = .returned (.func (.func 166) #[] #[.pointer (some ⟨b1, 0, none⟩), .pointer (some ⟨b2, 0, none⟩), .pointer (some ⟨b3, 0, none⟩), .pointer (some ⟨b4, 0, none⟩)]) ∧
   Grp b1 b2 b3 b4 g G s (255 / s) w' ∧ ((pf = none ∧ w.heap.size ≤ g) ∨ pf = some ⟨g, 0, none⟩) ∧ Below w.heap.size w w' := by
 have hq : (255 : Int).tdiv (s : Int) = ((255 / s : Nat) : Int) := by rw [Int.tdiv_eq_ediv_of_nonneg (by decide)]; simp
 have hq2 : 255 / s ≤ 255 := Nat.div_le_self _ _
 obtain ⟨t, ht⟩ : ∃ t, 255 / s = t := ⟨_, rfl⟩
 rw [ht] at hq hq2 ⊢
 clear ht
 have hne : (s : Int) ≠ 0 := by omega
 go_enter Tryz.func135, Tryz.ntmps135
 have hB0 := (((Below.refl w.heap.size w).alloc (Nat.le_refl _) (.cells #[Value.pointer pf] 28)).alloc (by simp) (.cells #[Value.int .i64 s] 3)).alloc (by simp; omega) (.cells #[Value.int .i64 G] 3)
 have e1 := ((Block.new w 28 #[Value.pointer pf]).alloc (.cells #[Value.int .i64 s] 3)).alloc (.cells #[Value.int .i64 G] 3)
 have e2 := (Block.new (w.alloc (.cells #[Value.pointer pf] 28)) 3 #[Value.int .i64 s]).alloc (.cells #[Value.int .i64 G] 3)
 have e3 := Block.new ((w.alloc (.cells #[Value.pointer pf] 28)).alloc (.cells #[Value.int .i64 s] 3)) 3 #[Value.int .i64 G]
 simp only [World.size_alloc] at e2 e3
 go_wp2_with (go_at_call 165; refine (orNew_p pf _ (hf.below hB0)).mono ?_; rintro e w1 ⟨g, rfl, hg, hF, hB⟩; replace e1 := e1.below hB e1.lt; replace e2 := e2.below hB e2.lt; replace e3 := e3.below hB e3.lt; have c1 := e1.cell 0; have f1 := e1.frozen 0; have c2 := e2.cell 0; have f2 := e2.frozen 0; have c3 := e3.cell 0)
 go_ret
 have hg0 : w.heap.size ≠ g := fld_ne hF e1
 have hsz := hB.size
 simp only [World.size_alloc] at hsz hg
 refine ⟨g, _, _, _, _, rfl, ⟨(e3.far (by simp; omega) _).alloc _, (e2.far (by simp) _).alloc _, (e1.set_ 0 _).alloc _, block_last _ _ _ _ _, (fld_far hF (by simp; omega) _).alloc _⟩, hg.imp (fun h => ⟨h.1, by omega⟩) id, ?_⟩
 exact ((hB0.trans (hB.mono (by simp; omega))).setCell (p := ⟨w.heap.size, 0, none⟩) (Nat.le_refl _) _).alloc (by simp [World.setCell]; omega) _
end Go.Proofs.YtjoghbmedfmioaaGreat.Pt

namespace Go.Proofs.YtjoghbmedfmioaaGreat.Pt
open Go.RowKit Go.Shelf Poly GF
attribute [local go_sem] Oper.semAt_some
def pts (n : Nat) : List Nat := (List.range n).map gp
theorem pts_length (n : Nat) : (pts n).length = n := by simp [pts]
theorem pts_of (n : Nat) : gpts 1 255 n = pts n := by
 unfold gpts pts gidx
 rw [Nat.mul_one]
 refine List.map_congr_left fun k _ => ?_
 rw [Nat.div_one, Nat.mod_one, Nat.zero_mul, Nat.add_zero]
def Pts (pf : Option Addr) (w : World) (r : List Nat × Int) (e : Ending) (w' : World) : Prop :=
 ∃ v, e = .returned (.tuple #[v, .int .i64 r.2]) ∧ Own w' w.heap.size 5 v (bv r.1) ∧ FldP w' pf ∧ Past w.heap.size (rb w pf) w w'
theorem Pts.bad {pf : Option Addr} {w w' : World} (hf : FldP w' pf) (hP : Past w.heap.size (rb w pf) w w') : Pts pf w ([], 2) (.returned (.tuple #[.slice none 0 0, .int .i64 2])) w' :=
 ⟨_, rfl, Own.nil _ _ _, hf, hP⟩
theorem grp_list (pf : Option Addr) (s G : Nat) (hs : 1 ≤ s) (hs2 : s ≤ 255) (hG : G ≤ 255) (hl : G * s ≤ 255) {w w1 : World} {g b1 b2 b3 b4 : Nat} (hf : FldP w pf)
  (hK : Grp b1 b2 b3 b4 g G s (255 / s) w1) (hg : (pf = none ∧ w.heap.size ≤ g) ∨ pf = some ⟨g, 0, none⟩) (hB : Below w.heap.size w w1) :
  Calls Tryz.prog 134 #[.func (.func 166) #[] #[.pointer (some ⟨b1, 0, none⟩), .pointer (some ⟨b2, 0, none⟩), .pointer (some ⟨b3, 0, none⟩), .pointer (some ⟨b4, 0, none⟩)]] w1 fun e w' =>
   ∃ v, e = .returned v ∧ Own w' w.heap.size 5 v (bv (gpts s (255 / s) G)) ∧ FldP w' pf ∧ Past w.heap.size (rb w pf) w w' := by
 have hd : 255 / s ≤ 255 := Nat.div_le_self _ _
 have hsz := hB.size
 refine (listB_calls _ g _ (Grp b1 b2 b3 b4 g G s (255 / s)) _ (by rw [gpts_length]; omega) w1 (grouped_visits b1 b2 b3 b4 g G s (255 / s) (by omega) (by omega) (by omega)) (fun _ _ => by kernel_rfl) hK.fld.lt
  (fun W W' h hb => h.below hb hK.c1.lt hK.c2.lt hK.c3.lt hK.c4.lt hK.fld.lt) hK).mono ?_
 rintro e w' ⟨v, rfl, hO, hP, hK2⟩
 refine ⟨v, rfl, hO.more hsz, ?_⟩
 rcases hg with ⟨rfl, hg⟩ | rfl
 ·exact ⟨.inl rfl, Past.of_below (hB.trans ((hP.mono hsz).below hg)) _⟩
 ·exact ⟨FldP.of hK2.fld, (Past.of_below hB _).trans (hP.mono hsz)⟩
def ofR (n : Int) : List Nat × Int := if 0 ≤ n ∧ n ≤ 255 then (pts n.toNat, 0) else ([], 2)
set_option maxRecDepth 100000 in
set_option maxHeartbeats 2000000 in
theorem of_calls (pf : Option Addr) (n : Int) (w : World) (hf : FldP w pf) : Calls Tryz.prog 90 #[.pointer pf, .int .i64 n] w (Pts pf w (ofR n)) := by
 by_cases h0 : n < 0
 ·have e1 : ofR n = ([], 2) := if_neg (by omega)
  rw [e1]
  go_enter Tryz.func90, Tryz.ntmps90
  go_wp2
  go_ret2
  exact Pts.bad hf (Past.refl _ _ _)
 by_cases h1 : 255 < n
 ·have e1 : ofR n = ([], 2) := if_neg (by omega)
  rw [e1]
  go_enter Tryz.func90, Tryz.ntmps90
  go_wp2
  go_ret2
  exact Pts.bad hf (Past.refl _ _ _)
 obtain ⟨m, rfl⟩ : ∃ m : Nat, n = (m : Int) := ⟨n.toNat, by omega⟩
 have e1 : ofR (m : Int) = (gpts 1 255 m, 0) := by
  unfold ofR
  rw [if_pos (by omega), Int.toNat_natCast, pts_of]
 rw [e1]
 go_enter Tryz.func90, Tryz.ntmps90
 go_wp2_with (go_at_call 135; refine (grouped_calls pf 1 m (by decide) (by decide) _ hf).mono ?_; rintro e w1 ⟨g, b1, b2, b3, b4, rfl, hK, hg, hB⟩)
 go_wp2_with (go_at_call 134; refine (grp_list pf 1 m (by decide) (by decide) (by omega) (by omega) hf hK hg hB).mono ?_; rintro e w2 ⟨v, rfl, hO, hF, hP⟩)
 go_ret2
 exact ⟨v, rfl, hO, hF, hP⟩
theorem past_next {pf : Option Addr} {w w1 w2 : World} (h1 : Past w.heap.size (rb w pf) w w1) (h2 : Past w1.heap.size (rb w1 pf) w1 w2) : Past w.heap.size (rb w pf) w w2 := by
 cases pf with
 | none => exact h1.trans (Past.of_below ((h2.below (Nat.le_refl _)).mono h1.size) _)
 | some a => exact h1.trans (h2.mono h1.size)
theorem Pts.next {pf : Option Addr} {w w1 w2 : World} {r : List Nat × Int} {e : Ending} (h1 : Past w.heap.size (rb w pf) w w1) (h : Pts pf w1 r e w2) : Pts pf w r e w2 := by
 obtain ⟨v, h2, h3, h4, h5⟩ := h
 exact ⟨v, h2, h3.more h1.size, h4, past_next h1 h5⟩
def lim (a : Nat) : Nat := 255 / Nat.gcd 255 a
theorem lim_order (a : Nat) : gord (gp a) = lim a := by
 unfold gord lim
 rw [if_neg (gp_ne a), gl_gp]
 congr 1
 rw [Nat.gcd_comm, Nat.gcd_comm 255 a, ← Nat.gcd_rec 255 a, Nat.gcd_comm]
theorem lim_le (a : Nat) : lim a ≤ 255 := Nat.div_le_self _ _
def spreadR (n a : Int) : List Nat × Int := if 1 ≤ a ∧ a ≤ 255 ∧ 0 ≤ n ∧ n ≤ lim a.toNat then (pts n.toNat, 0) else ([], 2)
set_option maxRecDepth 100000 in
set_option maxHeartbeats 2000000 in
theorem spread_calls (pf : Option Addr) (n a : Int) (w : World) (hf : FldP w pf) : Calls Tryz.prog 53 #[.pointer pf, .int .i64 n, .int .i64 a] w (Pts pf w (spreadR n a)) := by
 by_cases h0 : a < 1
 ·have e1 : spreadR n a = ([], 2) := if_neg (by omega)
  rw [e1]
  go_enter Tryz.func53, Tryz.ntmps53
  go_wp2
  go_ret2
  exact Pts.bad hf (Past.refl _ _ _)
 by_cases h1 : 255 < a
 ·have e1 : spreadR n a = ([], 2) := if_neg (by omega)
  rw [e1]
  go_enter Tryz.func53, Tryz.ntmps53
  go_wp2
  go_ret2
  exact Pts.bad hf (Past.refl _ _ _)
 obtain ⟨b, rfl⟩ : ∃ b : Nat, a = (b : Int) := ⟨a.toNat, by omega⟩
 have hl := lim_le b
 by_cases h2 : (lim b : Int) < n
 ·have e1 : spreadR n (b : Int) = ([], 2) := if_neg (by rw [Int.toNat_natCast]; omega)
  rw [e1]
  obtain ⟨L, hL⟩ : ∃ L, lim b = L := ⟨_, rfl⟩
  rw [hL] at h2 hl
  have HL := Lib.hid hL
  clear hL
  go_enter Tryz.func53, Tryz.ntmps53
  go_wp2_with fail
  refine (exp_calls pf b (by omega) (by omega) _ hf).mono ?_
  rintro e w1 ⟨rfl, hf1, hP1⟩
  rw [ge_nat]
  go_wp2_with fail
  refine (order_calls pf (gp b) (gp_lt b) (gp_ne b) _ hf1).mono ?_
  rintro e w2 ⟨rfl, hf2, hP2⟩
  rw [lim_order, HL.out]
  go_wp2
  go_ret2
  exact Pts.bad hf2 (past_next hP1 hP2)
 ·have e1 : spreadR n (b : Int) = ofR n := by
   unfold spreadR ofR
   rw [Int.toNat_natCast]
   by_cases h3 : 0 ≤ n
   ·rw [if_pos (by omega), if_pos (by omega)]
   ·rw [if_neg (by omega), if_neg (by omega)]
  rw [e1]
  obtain ⟨L, hL⟩ : ∃ L, lim b = L := ⟨_, rfl⟩
  rw [hL] at h2 hl
  have HL := Lib.hid hL
  clear hL e1
  go_enter Tryz.func53, Tryz.ntmps53
  go_wp2_with fail
  refine (exp_calls pf b (by omega) (by omega) _ hf).mono ?_
  rintro e w1 ⟨rfl, hf1, hP1⟩
  rw [ge_nat]
  go_wp2_with fail
  refine (order_calls pf (gp b) (gp_lt b) (gp_ne b) _ hf1).mono ?_
  rintro e w2 ⟨rfl, hf2, hP2⟩
  rw [lim_order, HL.out]
  go_wp2_with (go_at_call 90; refine (of_calls pf n _ hf2).mono ?_; rintro e w3 h3; obtain ⟨v, rfl, hO, hF, hP⟩ := h3.next (past_next hP1 hP2); obtain ⟨A, c, rfl, _⟩ := hO.form)
  go_ret2
  exact ⟨_, rfl, hO, hF, hP⟩
end Go.Proofs.YtjoghbmedfmioaaGreat.Pt

namespace Go.Proofs.YtjoghbmedfmioaaGreat.Ms
open F8 Poly Rd Mat Wl GF
theorem gp_eq {m n : Nat} (h : gp m = gp n) : m % 255 = n % 255 := gp_inj (Nat.mod_lt _ (by omega)) (Nat.mod_lt _ (by omega)) (by rw [gp_mod, gp_mod, h])
theorem gp_add (m n : Nat) : gp (m + n) = gm (gp m) (gp n) := by
 have h := ge_add (m : Int) (n : Int)
 rw [ge_nat, ge_nat, ← Int.natCast_add, ge_nat] at h
 exact h
theorem xpow_gp (i : Nat) : ∀ a, xpow (⟨gp i, gp_lt i⟩ : F8) a = ⟨gp (i * a), gp_lt _⟩
 | 0 => by apply F8.ext; show (1 : Nat) = gp (i * 0); rw [Nat.mul_zero]; rfl
 | a + 1 => by
  rw [Wl.xpow_succ, xpow_gp i a]
  apply F8.ext
  show gm (gp i) (gp (i * a)) = gp (i * (a + 1))
  rw [← gp_add, Nat.mul_succ, Nat.add_comm]
theorem lim_apart {a i j : Nat} (hi : i < Pt.lim a) (hj : j < Pt.lim a) (h : (i * a) % 255 = (j * a) % 255) : i = j := by
 have key : ∀ i j, i ≤ j → j < Pt.lim a → (i * a) % 255 = (j * a) % 255 → i = j := fun i j hij hj h => by
  have hg : 0 < Nat.gcd 255 a := Nat.gcd_pos_of_pos_left _ (by omega)
  have h1 : 255 ∣ (j - i) * a := by
   rw [Nat.sub_mul]
   exact Nat.dvd_of_mod_eq_zero (Nat.sub_mod_eq_zero_of_mod_eq h.symm)
  obtain ⟨g, hgg⟩ : ∃ g, Nat.gcd 255 a = g := ⟨_, rfl⟩
  have d1 : g ∣ 255 := hgg ▸ Nat.gcd_dvd_left 255 a
  have d2 : g ∣ a := hgg ▸ Nat.gcd_dvd_right 255 a
  have h5 : Nat.Coprime (255 / g) (a / g) := hgg ▸ Nat.coprime_div_gcd_div_gcd hg
  have h4 : 255 / g ∣ (j - i) * (a / g) := by
   refine Nat.dvd_of_mul_dvd_mul_right (hgg ▸ hg) ?_
   rw [Nat.mul_assoc, Nat.div_mul_cancel d2, Nat.div_mul_cancel d1]; exact h1
  have h6 := h5.dvd_of_dvd_mul_right h4
  rcases Nat.eq_zero_or_pos (j - i) with h7 | h7
  ·omega
  ·have := Nat.le_of_dvd h7 h6
   unfold Pt.lim at hj
   rw [hgg] at hj
   omega
 rcases Nat.le_total i j with hij | hij
 ·exact key i j hij hj h
 ·exact (key j i hij hi h.symm).symm
theorem coef_pts {n i : Nat} (h : i < n) : coef (Rd.pts n) i = ⟨gp i, gp_lt i⟩ := by
 rw [coef_of_lt (by rw [Rd.pts_length]; exact h)]; simp [Rd.pts]
theorem pts_ok {a n : Nat} (h : n ≤ Pt.lim a) : Pts (Rd.pts n) a := by
 have h255 := Pt.lim_le a
 refine ⟨Rd.pts_nodup (by omega), fun i hi => ?_, fun i j hi hj hne e => hne ?_⟩
 ·rw [Rd.pts_length] at hi
  rw [coef_pts hi]
  exact fun e => gp_ne i (congrArg F8.n e)
 ·rw [Rd.pts_length] at hi hj
  rw [coef_pts hi, coef_pts hj, xpow_gp, xpow_gp] at e
  exact lim_apart (by omega) (by omega) (gp_eq (congrArg F8.n e))
theorem par_of {n k d : Nat} (hk2 : 2 ≤ k) (hd : 2 * k ≤ d + 2) (hdn : d < n) (hl : n + (d + 2 - 2 * k) ≤ Pt.lim (d + 1 - k)) : Par (Rd.pts (n + (d + 2 - 2 * k))) n k d (d + 1 - k) (d + 2 - 2 * k) := by
 have := Pt.lim_le (d + 1 - k)
 exact ⟨pts_ok hl, Rd.pts_length _, by omega, by omega, hk2, hdn, by omega⟩
section
variable {xs : List F8} {n k d a v : Nat} {sh : List (Int × List F8)} {t to : Int} {M N : Nat → List F8}
theorem wrongs_congr {S S' : Nat → List F8} (h : ∀ j, j < n → S j = S' j) : wrongs n S sh = wrongs n S' sh := by
 unfold wrongs
 congr 1
 refine List.filter_congr fun j hj => ?_
 rw [h j (List.mem_range.1 hj)]
def helpsOf (xs : List F8) (v a : Nat) (M N : Nat → List F8) (to : Nat) (j : Nat) : List F8 := [Poly.eval (node xs v a M N j) (coef xs (v + to))]
theorem ris_good (hc : Cw xs a v M N) (hA : ArgR n to sh t) (hk : d + 2 * t ≤ (sh.length : Int)) (hw : ((wrongs n (helpsOf xs v a M N to.toNat) sh).length : Int) ≤ t) :
  RIs xs n d a v to sh t (node xs v a M N to.toNat) (wrongs n (helpsOf xs v a M N to.toNat) sh) 0 := by
 have e : ∀ j, sends xs v (row a M (coef xs (v + to.toNat)) ++ row a N (coef xs (v + to.toNat))) j = helpsOf xs v a M N to.toNat j := fun j => by
  unfold sends helpsOf node
  rw [sends_help hc.sm hc.sn]
 have e2 := wrongs_congr (n := n) (sh := sh) (S := sends xs v (row a M (coef xs (v + to.toNat)) ++ row a N (coef xs (v + to.toNat)))) (S' := helpsOf xs v a M N to.toNat) fun j _ => e j
 refine .inr (.inr (.inl ⟨hA, hk, row a M (coef xs (v + to.toNat)) ++ row a N (coef xs (v + to.toNat)), ⟨by rw [List.length_append, row_length, row_length]; omega, fun i hi => ?_⟩, by rw [e2]; exact hw, rfl, (mend_node _ _ _).symm, e2.symm⟩))
 rw [sends_help hc.sm hc.sn, hc.z i hi]
 exact eval_zero _ fun i => by
  rw [coef_nil]
  unfold coef
  rw [List.getD_eq_getElem?_getD, List.getElem?_replicate]
  split <;> rfl
theorem ris_few (hA : ArgR n to sh t) (hk : (sh.length : Int) < d + 2 * t) : RIs xs n d a v to sh t [] [] 70 := .inr (.inl ⟨hA, hk, rfl, rfl, rfl⟩)
theorem dis_good (hc : Cw xs a v M N) (hA : ArgOk n a sh t) (hk : k + 2 * t ≤ (sh.length : Int)) (hw : ((wrongs n (node xs v a M N) sh).length : Int) ≤ t) :
  DIs xs n k a v sh t (msgOf k (node xs v a M N)) (wrongs n (node xs v a M N) sh) 0 := .inr (.inr (.inl ⟨hA, hk, M, N, hc, hw, rfl, rfl, rfl⟩))
end
end Go.Proofs.YtjoghbmedfmioaaGreat.Ms

namespace Go.Proofs.YtjoghbmedfmioaaGreat.Ms
open Go.RowKit Go.Shelf F8 Poly GF Rd
attribute [local go_sem] Oper.semAt_some
def fillU (vs lo : List F8) (j : Nat) : List F8 := vs.take j ++ lo.drop j
section
variable {vs lo : List F8} {j : Nat}
theorem fillU_length (h : vs.length = lo.length) : (fillU vs lo j).length = lo.length := by simp [fillU]; omega
theorem fillU_zero (vs lo : List F8) : fillU vs lo 0 = lo := by simp [fillU]
theorem fillU_all (h : vs.length = lo.length) : fillU vs lo lo.length = vs := by simp [fillU, ← h]
theorem fillU_at (h : vs.length = lo.length) (hj : j < lo.length) : coef (fillU vs lo j) j = coef lo j := by
 have e : (vs.take j).length = j := by rw [List.length_take]; omega
 have := coef_hi (s := vs.take j) (t := lo.drop j) (i := 0)
 rw [e, Nat.add_zero] at this
 unfold fillU
 rw [this, coef_drop, Nat.add_zero]
theorem fillU_set (h : vs.length = lo.length) (hj : j < lo.length) : (fillU vs lo j).set j (coef vs j) = fillU vs lo (j + 1) := by
 have e : (vs.take j).length = j := by rw [List.length_take]; omega
 unfold fillU
 rw [List.set_append_right _ _ (by omega), e, Nat.sub_self, List.drop_eq_getElem_cons hj, List.set_cons_zero, List.take_succ_eq_append_getElem (by omega), List.append_assoc, coef_of_lt (by omega)]
 rfl
end
theorem mul_f (gf : Nat) (x y : F8) (w : World) (hf : FldP w (some ⟨gf, 0, none⟩)) : Calls Tryz.prog 71 #[.pointer (some ⟨gf, 0, none⟩), .int .u8 x.n, .int .u8 y.n] w fun e w' => e = .returned (.int .u8 (x * y).n) ∧ FldP w' (some ⟨gf, 0, none⟩) ∧ Past w.heap.size gf w w' :=
 (mul_calls (some ⟨gf, 0, none⟩) x.n y.n x.h y.h w hf).mono fun _ _ ⟨h1, h2, h3⟩ => ⟨h1, h2, ⟨h3.os, h3.tape, h3.output, h3.size, h3.block⟩⟩
def RepPost (S : Co) (w : World) (m : List F8) (e : Ending) (w' : World) : Prop := ∃ A c, e = .returned (.slice A S.a c) ∧ S.a ≤ c ∧ Own w' w.heap.size 5 (.slice A S.a c) (bv (bs m)) ∧ FldP w' (some ⟨S.g, 0, none⟩) ∧ Past w.heap.size S.g w w'
set_option maxRecDepth 100000 in
set_option maxHeartbeats 16000000 in
theorem repaired_calls {S : Co} {w : World} (h : S.Ok w) (to : Nat) (hto : to < S.n) (P : Option Addr) (pl : List F8) (pn pc : Nat) (hl : pl.length = pn) (hpn : pn ≤ 2 * S.a) (hP : BF S.g w P pl) :
  Calls Tryz.prog 61 #[.pointer (some ⟨S.b, 0, none⟩), .int .i64 (to : Nat), .slice P pn pc] w (RepPost S w (mend S.a (xpow (coef S.xs (S.v + to)) S.a) (full pl (2 * S.a)))) := by
 have hmx : Tryz.prog.follows .mixedOrders = true := by kernel_rfl
 have hn := h.nums
 obtain ⟨an, han⟩ : ∃ an, 2 * S.a = an := ⟨_, rfl⟩
 rw [han] at hpn
 have han32 : an ≤ 32 := by omega
 obtain ⟨w1, hmk, hO1, hB1⟩ := make_run w an (by omega)
 have hk1 := (Kp.start h).below hB1
 obtain ⟨-, -, -, -, c4, c5, -⟩ := h.cells
 obtain ⟨-, -, -, -, d4, d5, -⟩ := hk1.ok.cells
 have hblk := Own.block hO1
 have hw2 : IntKind.i64.wrap (2 * (S.a : Int)) = (an : Int) := by rw [show 2 * (S.a : Int) = (an : Int) by omega]; exact IntWalk.i64_in _ (by omega)
 have hw3 : IntKind.i64.wrap ((S.v : Int) + (to : Int)) = ((S.v + to : Nat) : Int) := by rw [show (S.v : Int) + (to : Int) = ((S.v + to : Nat) : Int) by simp]; exact IntWalk.i64_in _ (by omega)
 have hp1 := (hP.past hk1.past).by_
 have HP1 := Lib.hid hp1
 have H := Lib.hid h
 have HN := Lib.hid hn
 have HPl := Lib.hid hl
 have HK1 := Lib.hid hk1
 have HB1 := Lib.hid hB1
 have HAn := Lib.hid han
 have hgw := h.fld.fld.lt
 rw [han]
 obtain ⟨pf, hpf⟩ : ∃ pf, full pl an = pf := ⟨_, rfl⟩
 have hpfl : pf.length = an := by rw [← hpf, full_length]
 have hcp : pl ++ (List.replicate an (0 : F8)).drop pn = pf := by
  rw [← hpf, full, List.take_of_length_le (by omega), List.drop_replicate, hl]
 have HCp := Lib.hid hcp
 have HPf := Lib.hid hpfl
 rw [hpf]
 clear h hn hP hl hk1 hB1 hO1 hp1 han hpf hpfl hcp
 go_enter Tryz.func61, Tryz.ntmps61
 have hz1 := HK1.out.size
 have hz1' : w.heap.size < w1.heap.size := hblk.lt
 go_wp2_with (
  (with_reducible refine wpList_copy_bytes rfl (.tmp 18) (.tmp 19) rfl w.heap.size an an P pn pc rfl rfl _ pl hblk HPl.out HP1.out hpn (by simp) ?_); intro w2 hBlk2 hP2 hs2; have HK2 := Lib.hid (Kp.later H.out HK1.out ((hP2.mono hz1).below (Nat.le_refl _))); have HBlk2 := Lib.hid (HCp.out ▸ hBlk2); obtain ⟨-, -, -, -, e4, e5, -⟩ := HK2.out.ok.cells; have HLam := Lib.hid (lambda_calls HK2.out.ok (S.v + to) (by have := HN.out; omega)); clear hBlk2 hP2)
 refine HLam.out.mono ?_
 rintro e w3 ⟨rfl, hf3, hp3⟩
 obtain ⟨la, hla⟩ : ∃ la, xpow (coef S.xs (S.v + to)) S.a = la := ⟨_, rfl⟩
 rw [hla]
 have HLa := Lib.hid hla
 have hz2 : w.heap.size < w2.heap.size := by omega
 have HK3 := Lib.hid (HK2.out.go hf3 hp3)
 have hb3 := HBlk2.out.past hp3 hz2 (by omega)
 have ho3 : Own w3 w.heap.size 5 (.slice (some ⟨w.heap.size, 0, none⟩) an an) (bv (bs pf)) := Own.of_block hb3 (Nat.le_refl _) (by rw [bvs_length, HPf.out]) (by simp only [maxLen]; omega)
 have HO3 := Lib.hid ho3
 have hz3 : w.heap.size < w3.heap.size := hb3.lt
 obtain ⟨-, -, -, -, f4, f5, -⟩ := HK3.out.ok.cells
 have htk : pf.length = an := HPf.out
 have HCl := Lib.hid (Mat.clone_calls (some ⟨w.heap.size, 0, none⟩) (pf.take S.a) S.a an w3 (by rw [List.length_take]; have := HAn.out; omega) (by have := HN.out; omega) (bytes_take (Own.bytes ho3) S.a))
 have ha1 : (S.a : Int) ≤ (an : Int) := by have := HAn.out; omega
 have ha0 : (0 : Int) ≤ (S.a : Int) := by omega
 have ha2 : (S.a : Int) < (an : Int) := by have := HAn.out; have := HN.out; omega
 clear c4 c5 d4 d5 e4 e5 hblk hmk hw2 hw3 hf3 hp3 hb3 ho3 htk hs2 hz1' hz1 HK1 HK2 HBlk2 HLam HB1 HP1
 go_wp2_with fail
 refine HCl.out.mono ?_
 rintro e w4 ⟨A4, c4, rfl, hc4, hO4, hb4⟩
 obtain ⟨vs, hvs⟩ : ∃ vs, mend S.a la pf = vs := ⟨_, rfl⟩
 obtain ⟨lo, hlo⟩ : ∃ lo, pf.take S.a = lo := ⟨_, rfl⟩
 obtain ⟨a, ha⟩ : ∃ a, S.a = a := ⟨_, rfl⟩
 have hvl : vs.length = a := by rw [← hvs, mend_length, ha]
 have hll : lo.length = a := by rw [← hlo, List.length_take, HPf.out, ha]; have := HAn.out; omega
 have hco : ∀ j, j < a → coef vs j = coef lo j + la * coef pf (a + j) := fun j hj => by
  rw [← hvs, ← hlo, ← ha]
  rw [← ha] at hj
  unfold mend
  rw [Wl.coef_range, if_pos hj]
  congr 1
  unfold coef
  rw [List.getD_eq_getElem?_getD, List.getD_eq_getElem?_getD, List.getElem?_take, if_pos hj]
 rw [hvs]
 rw [hlo] at hO4
 have HK4 := Lib.hid (HK3.out.below hb4)
 have HO4 := Lib.hid (hO4.more (Nat.le_of_lt hz3))
 have HO3b := Lib.hid (HO3.out.below hb4)
 obtain ⟨g4, hg4, hg4b⟩ : ∃ g4, A4 = some ⟨g4, 0, none⟩ ∧ w.heap.size < g4 := by
  obtain ⟨g, c, e, h1, h2, h3⟩ := hO4.form1 (by rw [bvs_length, hll]; have := HN.out; omega)
  injection e with e1 e2 e3
  exact ⟨g, e1, by omega⟩
 have hw0 : w.heap.size ≤ w4.heap.size := HK4.out.size
 obtain ⟨-, -, -, -, s4, -⟩ := HK4.out.ok.cells
 rw [ha] at s4 ha0 ha1 ha2 hc4 HO4 ⊢
 have HVs := Lib.hid hvs
 have HCo := Lib.hid hco
 have HVl := Lib.hid hvl
 have HLl := Lib.hid hll
 have HA := Lib.hid ha
 have ha16 : a ≤ 16 := by have := HN.out; omega
 have ha1' : 1 ≤ a := by have := HN.out; omega
 have hAn : 2 * a = an := by have := HAn.out; omega
 have hsub : an - a = a := by omega
 have hsub2 : (an : Int) - (a : Int) = (a : Int) := by omega
 have HO4s : Hid (Own w4 w.heap.size 5 (.slice (some ⟨g4, 0, none⟩) a c4) (bv (bs (fillU vs lo 0)))) := Lib.hid (by rw [fillU_zero, ← hg4]; exact HO4.out)
 rw [hg4]
 clear hvs hlo hvl hll hco hO4 hb4 HK3 HO3 HO4 HCl f4 f5 hg4 ha
 go_wp2_with fail
 clear s4 hsub hsub2 ha0 ha1 ha2
 go_loopw [43] (fun iv wr => ∃ j : Nat, j ≤ a ∧ iv = .int .i64 j ∧ Hid (Kp S w wr) ∧ Hid (Own wr w.heap.size 5 (.slice (some ⟨w.heap.size, 0, none⟩) an an) (bv (bs pf))) ∧ Hid (Own wr w.heap.size 5 (.slice (some ⟨g4, 0, none⟩) a c4) (bv (bs (fillU vs lo j))))) (fun iv _ => a - (intOf iv).toNat)
 case atStart => exact ⟨0, by omega, rfl, HK4, HO3b, HO4s⟩
 case round =>
  clear HK4 HO3b HO4s
  obtain ⟨j, hj, rfl, HK, HO3, HO⟩ := hrel
  by_cases hjm : j < a
  ·have hset := fillU_set (vs := vs) (lo := lo) (j := j) (by rw [HVl.out, HLl.out]) (by rw [HLl.out]; exact hjm)
   rw [HCo.out j hjm] at hset
   have hat := fillU_at (vs := vs) (lo := lo) (j := j) (by rw [HVl.out, HLl.out]) (by rw [HLl.out]; exact hjm)
   have HFl : Hid ((fillU vs lo j).length = a) := Lib.hid (by rw [fillU_length (by rw [HVl.out, HLl.out]), HLl.out])
   obtain ⟨x1, hx1⟩ : ∃ x, coef lo j = x := ⟨_, rfl⟩
   obtain ⟨x2, hx2⟩ : ∃ x, coef pf (a + j) = x := ⟨_, rfl⟩
   rw [hx1, hx2] at hset
   rw [hx1] at hat
   have k2 := own_cell HO3.out HPf.out (show a + j < an by omega)
   rw [hx2] at k2
   have HSet := Lib.hid hset
   have HSc : Hid (∀ V, Kp S w V → Own V w.heap.size 5 (.slice (some ⟨g4, 0, none⟩) a c4) (bv (bs (fillU vs lo j))) → V.cell? ⟨S.b, 0, none⟩ = some (.pointer (some ⟨S.g, 0, none⟩)) ∧ V.cell? ⟨g4, j, none⟩ = some (.int .u8 (x1.n : Int))) := Lib.hid fun V hV hO => by
    obtain ⟨x0, -⟩ := hV.ok.cells
    have k1 := own_cell hO HFl.out hjm
    rw [hat] at k1
    exact ⟨x0, k1⟩
   have hjm1 : (j : Int) < (a : Int) := by omega
   have hj0 : (0 : Int) ≤ (j : Int) := by omega
   clear hset hx1 hx2
   have HKd := Lib.hid HK.out.drew
   have HO3d := Lib.hid HO3.out.drew
   have HOd := Lib.hid HO.out.drew
   clear HK HO3 HO
   have HK := HKd
   have HO3 := HO3d
   have HO := HOd
   clear HKd HO3d HOd
   have k7 := (HSc.out _ HK.out HO.out).2
   go_wp2_with fail
   obtain ⟨Sp, hSd⟩ : ∃ Sp : World → Prop, Sp = fun V => V.cell? ⟨S.b, 0, none⟩ = some (.pointer (some ⟨S.g, 0, none⟩)) := ⟨_, rfl⟩
   have hSi : ∀ V, Kp S w V → Sp V := fun V h => by rw [hSd]; exact h.ok.cells.1
   have hSc : ∀ V, Sp V → V.cell? ⟨S.b, 0, none⟩ = some (.pointer (some ⟨S.g, 0, none⟩)) := fun V hV => by rw [hSd] at hV; exact hV
   have hS0 : Sp wr.drew := hSi _ HK.out
   clear hSd
   refine wp_region_held (S := Sp) hmx ?_
   refine Mat.wpAnyH_takeD (i := 0) (some 48) (.slice (some ⟨g4, 0, none⟩) a c4) rfl rfl (by kernel_rfl) (by kernel_rfl) (by kernel_rfl) (fun _ _ _ h => h) (Or.inl ⟨by kernel_rfl, fun W hW => by go_simp⟩) hS0 ?_
   simp only [Act.put, List.setIfInBounds_toArray, List.set_cons_zero, List.set_cons_succ]
   refine Mat.wpAnyH_takeD (i := 1) (some 49) (.int .i64 (j : Int)) rfl rfl (by kernel_rfl) (by kernel_rfl) (by kernel_rfl) (fun _ _ _ h => h) (Or.inl ⟨by kernel_rfl, fun W hW => by go_simp⟩) hS0 ?_
   simp only [Act.put, List.setIfInBounds_toArray, List.set_cons_zero, List.set_cons_succ]
   refine Mat.wpAnyH_takeD (i := 2) (some 50) (.slice (some ⟨g4, 0, none⟩) a c4) rfl rfl (by kernel_rfl) (by kernel_rfl) (by kernel_rfl) (fun _ _ _ h => h) (Or.inl ⟨by kernel_rfl, fun W hW => by go_simp⟩) hS0 ?_
   simp only [Act.put, List.setIfInBounds_toArray, List.set_cons_zero, List.set_cons_succ]
   refine Mat.wpAnyH_takeD (i := 3) (some 51) (.int .i64 (j : Int)) rfl rfl (by kernel_rfl) (by kernel_rfl) (by kernel_rfl) (fun _ _ _ h => h) (Or.inl ⟨by kernel_rfl, fun W hW => by go_simp⟩) hS0 ?_
   simp only [Act.put, List.setIfInBounds_toArray, List.set_cons_zero, List.set_cons_succ]
   refine Mat.wpAnyH_takeD (i := 4) (some 52) (.pointer (some ⟨g4, j, none⟩)) rfl rfl (by kernel_rfl) (by kernel_rfl) (by kernel_rfl) (fun _ _ _ h => h) (Or.inl ⟨by kernel_rfl, fun W hW => by go_simp⟩) hS0 ?_
   simp only [Act.put, List.setIfInBounds_toArray, List.set_cons_zero, List.set_cons_succ]
   refine Mat.wpAnyH_takeD (i := 6) (some 54) (.pointer (some ⟨S.b, 0, none⟩)) rfl rfl (by kernel_rfl) (by kernel_rfl) (by kernel_rfl) (fun _ _ _ h => h) (Or.inl ⟨by kernel_rfl, fun W hW => by go_simp⟩) hS0 ?_
   simp only [Act.put, List.setIfInBounds_toArray, List.set_cons_zero, List.set_cons_succ]
   refine Mat.wpAnyH_takeD (i := 7) (some 55) (.pointer (some ⟨S.b, 0, none⟩)) rfl rfl (by kernel_rfl) (by kernel_rfl) (by kernel_rfl) (fun _ _ _ h => h) (Or.inl ⟨by kernel_rfl, fun W hW => by go_simp⟩) hS0 ?_
   simp only [Act.put, List.setIfInBounds_toArray, List.set_cons_zero, List.set_cons_succ]
   refine Mat.wpAnyH_takeD (i := 8) (some 56) (.pointer (some ⟨S.b, 0, none⟩)) rfl rfl (by kernel_rfl) (by kernel_rfl) (by kernel_rfl) (fun _ _ _ h => h) (Or.inl ⟨by kernel_rfl, fun W hW => by go_simp⟩) hS0 ?_
   simp only [Act.put, List.setIfInBounds_toArray, List.set_cons_zero, List.set_cons_succ]
   refine Mat.wpAnyH_takeD (i := 9) (some 57) (.pointer (some ⟨S.g, 0, none⟩)) rfl rfl (by kernel_rfl) (by kernel_rfl) (by kernel_rfl) (fun _ _ _ h => h) (Or.inl ⟨by kernel_rfl, fun W hW => by have s1 := hSc W hW; go_simp⟩) hS0 ?_
   simp only [Act.put, List.setIfInBounds_toArray, List.set_cons_zero, List.set_cons_succ]
   refine Mat.wpAnyH_takeD (i := 10) (some 58) (.int .u8 (la.n : Int)) rfl rfl (by kernel_rfl) (by kernel_rfl) (by kernel_rfl) (fun _ _ _ h => h) (Or.inl ⟨by kernel_rfl, fun W hW => by go_simp⟩) hS0 ?_
   simp only [Act.put, List.setIfInBounds_toArray, List.set_cons_zero, List.set_cons_succ]
   refine Mat.wpAnyH_takeD (i := 11) (some 59) (.int .u8 (x2.n : Int)) rfl rfl (by kernel_rfl) (by kernel_rfl) (by kernel_rfl) (fun _ _ _ h => h) (Or.inl ⟨by kernel_rfl, fun W hW => by go_simp⟩) hS0 ?_
   simp only [Act.put, List.setIfInBounds_toArray, List.set_cons_zero, List.set_cons_succ]
   refine Mat.wpAnyH_two (i := 5) (j := 12) (by kernel_rfl) rfl rfl (by kernel_rfl) (by kernel_rfl) ?_ ?_
   ·go_simp
    refine ⟨hS0, Mat.wpAnyH_one (i := 12) (by kernel_rfl) rfl (by kernel_rfl) ?_⟩
    go_simp
    refine (mul_f S.g la x2 _ HK.out.fldp).mono ?_
    rintro e wl ⟨rfl, hf, hp8⟩
    have HO3 := Lib.hid (own_keep HO3.out HK.out.fldp hp8)
    have HO := Lib.hid (own_keep HO.out HK.out.fldp hp8)
    have HK := Lib.hid (HK.out.go hf hp8)
    clear hf hp8
    have k8 := (HSc.out _ HK.out HO.out).2
    have f7 := Own.frozenAt HO.out (by rw [bvs_length, HFl.out]) j
    have HK9 : Hid (Kp S w (wl.setCell ⟨g4, j, none⟩ (.int .u8 ((x1 + la * x2).n : Int)))) := Lib.hid (Kp.later H.out HK.out ((Below.refl _ _).setCell (p := ⟨g4, j, none⟩) (Nat.le_of_lt hg4b) _))
    have HO39 : Hid (Own (wl.setCell ⟨g4, j, none⟩ (.int .u8 ((x1 + la * x2).n : Int))) w.heap.size 5 (.slice (some ⟨w.heap.size, 0, none⟩) an an) (bv (bs pf))) := Lib.hid (Own.far HO3.out (p := ⟨g4, j, none⟩) (by simp [Value.ownBlock]; omega) _)
    have HO9 : Hid (Own (wl.setCell ⟨g4, j, none⟩ (.int .u8 ((x1 + la * x2).n : Int))) w.heap.size 5 (.slice (some ⟨g4, 0, none⟩) a c4) (bv (bs (fillU vs lo (j + 1))))) := Lib.hid (by rw [← HSet.out]; exact own_set HO.out HFl.out)
    show Sp _ ∧ _
    refine ⟨hSi _ HK.out, Mat.wpAnyH_one (i := 13) (by kernel_rfl) rfl (by kernel_rfl) ?_⟩
    go_simp
    refine (add_f x1 (la * x2) wl).mono ?_
    rintro e wq ⟨rfl, rfl⟩
    show Sp _ ∧ _
    refine ⟨hSi _ HK.out, ?_⟩
    refine Mat.wpAnyH_takeD (i := 14) (some 62) (.pointer (some ⟨g4, j, none⟩)) rfl rfl (by kernel_rfl) (by kernel_rfl) (by kernel_rfl) (fun _ _ _ h => h) (Or.inl ⟨by kernel_rfl, fun W hW => by go_simp⟩) (hSi _ HK.out) ?_
    simp only [Act.put, List.setIfInBounds_toArray, List.set_cons_zero, List.set_cons_succ]
    refine Mat.wpAnyH_one (i := 15) (by kernel_rfl) rfl (by kernel_rfl) ?_
    go_simp
    refine ⟨hSi _ HK9.out, wpAnyH_done (by kernel_rfl) ?_ _⟩
    clear k7 k8 f7 HO HO3 HK HSc hSi hSc hS0
    go_wp2
    go_roundw
    case rel => exact ⟨j + 1, by omega, by go_num, HK9, HO39, HO9⟩
    case measure => simp [intOf]; omega
   ·go_simp
    refine (mul_f S.g la x2 _ HK.out.fldp).mono ?_
    rintro e wl ⟨rfl, hf, hp8⟩
    have HO3 := Lib.hid (own_keep HO3.out HK.out.fldp hp8)
    have HO := Lib.hid (own_keep HO.out HK.out.fldp hp8)
    have HK := Lib.hid (HK.out.go hf hp8)
    clear hf hp8
    have k8 := (HSc.out _ HK.out HO.out).2
    have f7 := Own.frozenAt HO.out (by rw [bvs_length, HFl.out]) j
    have HK9 : Hid (Kp S w (wl.setCell ⟨g4, j, none⟩ (.int .u8 ((x1 + la * x2).n : Int)))) := Lib.hid (Kp.later H.out HK.out ((Below.refl _ _).setCell (p := ⟨g4, j, none⟩) (Nat.le_of_lt hg4b) _))
    have HO39 : Hid (Own (wl.setCell ⟨g4, j, none⟩ (.int .u8 ((x1 + la * x2).n : Int))) w.heap.size 5 (.slice (some ⟨w.heap.size, 0, none⟩) an an) (bv (bs pf))) := Lib.hid (Own.far HO3.out (p := ⟨g4, j, none⟩) (by simp [Value.ownBlock]; omega) _)
    have HO9 : Hid (Own (wl.setCell ⟨g4, j, none⟩ (.int .u8 ((x1 + la * x2).n : Int))) w.heap.size 5 (.slice (some ⟨g4, 0, none⟩) a c4) (bv (bs (fillU vs lo (j + 1))))) := Lib.hid (by rw [← HSet.out]; exact own_set HO.out HFl.out)
    show Sp _ ∧ _
    refine ⟨hSi _ HK.out, Mat.wpAnyH_one (i := 5) (by kernel_rfl) rfl (by kernel_rfl) ?_⟩
    go_simp
    show Sp _ ∧ _
    refine ⟨hSi _ HK.out, Mat.wpAnyH_one (i := 13) (by kernel_rfl) rfl (by kernel_rfl) ?_⟩
    go_simp
    refine (add_f x1 (la * x2) wl).mono ?_
    rintro e wq ⟨rfl, rfl⟩
    show Sp _ ∧ _
    refine ⟨hSi _ HK.out, ?_⟩
    refine Mat.wpAnyH_takeD (i := 14) (some 62) (.pointer (some ⟨g4, j, none⟩)) rfl rfl (by kernel_rfl) (by kernel_rfl) (by kernel_rfl) (fun _ _ _ h => h) (Or.inl ⟨by kernel_rfl, fun W hW => by go_simp⟩) (hSi _ HK.out) ?_
    simp only [Act.put, List.setIfInBounds_toArray, List.set_cons_zero, List.set_cons_succ]
    refine Mat.wpAnyH_one (i := 15) (by kernel_rfl) rfl (by kernel_rfl) ?_
    go_simp
    refine ⟨hSi _ HK9.out, wpAnyH_done (by kernel_rfl) ?_ _⟩
    clear k7 k8 f7 HO HO3 HK HSc hSi hSc hS0
    go_wp2
    go_roundw
    case rel => exact ⟨j + 1, by omega, by go_num, HK9, HO39, HO9⟩
    case measure => simp [intOf]; omega
  ·obtain rfl : j = a := by omega
   have hown := HO.out
   have hfa : fillU vs lo j = vs := by rw [← HLl.out]; exact fillU_all (by rw [HVl.out, HLl.out])
   rw [hfa] at hown
   have HX : Hid (RepPost S w (mend S.a (xpow (coef S.xs (S.v + to)) S.a) pf) (.returned (.slice (some ⟨g4, 0, none⟩) j c4)) wr) := Lib.hid (by rw [HLa.out, HVs.out]; exact ⟨_, c4, by rw [HA.out], by rw [HA.out]; exact hc4, by rw [HA.out]; exact hown, HK.out.fldp, HK.out.past⟩)
   clear hown hfa HO HO3 HK
   go_wp2
   go_ret
   exact HX.out
end Go.Proofs.YtjoghbmedfmioaaGreat.Ms
