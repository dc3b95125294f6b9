/- Of the program, joined: MsMath3, MsMath4, RdRef, RdRef2, RdApp, PolyCode2, PolySt, PolyCode3. -/
import Derived.Test.YtjoghbmedfmioaaGreatPb07
import Derived.Test.YtjoghbmedfmioaaGreatPb04
import Derived.Test.YtjoghbmedfmioaaGreatPb03
import Derived.Lib.AppendZeros
import Derived.Lib.AppendStr
import Derived.Test.YtjoghbmedfmioaaGreatPb02
import Derived.Laws.CopyOwn
namespace Go.Proofs.YtjoghbmedfmioaaGreat.Ms
open F8 Poly Rd Mat Wl
theorem filter_and {α : Type} (p q : α → Bool) : ∀ L : List α, (L.filter fun o => !(p o && q o)).length ≤ (L.filter fun o => !p o).length + (L.filter fun o => !q o).length
 | [] => by simp
 | o :: L => by
  have ih := filter_and p q L
  rw [List.filter_cons, List.filter_cons, List.filter_cons]
  cases p o <;> cases q o <;> simp only [Bool.and_true, Bool.and_false, Bool.not_true, Bool.not_false, if_true, if_false, List.length_cons, Bool.false_eq_true] <;> omega
structure Par (xs : List F8) (n k d a v : Nat) : Prop where
 P : Pts xs a
 len : xs.length = n + v
 vk : v + k = a + 1
 ak : a + k = d + 1
 k2 : 2 ≤ k
 dn : d < n
 n255 : n + v ≤ 255
structure Cw (xs : List F8) (a v : Nat) (M N : Nat → List F8) : Prop where
 sm : Sym a M
 sn : Sym a N
 z : ∀ p, p < v → shr a M N (coef xs p) = List.replicate a 0
def node (xs : List F8) (v a : Nat) (M N : Nat → List F8) (j : Nat) : List F8 := shr a M N (coef xs (v + j))
def msgOf (k : Nat) (S : Nat → List F8) : List F8 := (List.range k).flatMap S
def ArgOk (n a : Nat) (sh : List (Int × List F8)) (t : Int) : Prop := (sh.map Prod.fst).Nodup ∧ (∀ o ∈ sh, 0 ≤ o.1 ∧ o.1 < (n : Int) ∧ o.2.length = a) ∧ 0 ≤ t
def DIs (xs : List F8) (n k a v : Nat) (sh : List (Int × List F8)) (t : Int) (m : List F8) (wl : List Int) (z : Int) : Prop :=
 (¬ ArgOk n a sh t ∧ m = [] ∧ wl = [] ∧ z = 2) ∨ (ArgOk n a sh t ∧ (sh.length : Int) < k + 2 * t ∧ m = [] ∧ wl = [] ∧ z = 70) ∨
 (ArgOk n a sh t ∧ k + 2 * t ≤ (sh.length : Int) ∧ ∃ M N, Cw xs a v M N ∧ ((wrongs n (node xs v a M N) sh).length : Int) ≤ t ∧ z = 0 ∧ m = msgOf k (node xs v a M N) ∧ wl = wrongs n (node xs v a M N) sh) ∨
 (ArgOk n a sh t ∧ k + 2 * t ≤ (sh.length : Int) ∧ z = 80 ∧ m = [] ∧ wl = [] ∧ ∀ M N, Cw xs a v M N → t < ((wrongs n (node xs v a M N) sh).length : Int))
def vir (v a : Nat) : List (Nat × List F8) := (List.range v).map fun p => (p, List.replicate a 0)
def told (v : Nat) (sh : List (Int × List F8)) : List (Nat × List F8) := sh.map fun o => (v + o.1.toNat, o.2)
theorem vir_length (v a : Nat) : (vir v a).length = v := by simp [vir]
theorem told_length (v : Nat) (sh : List (Int × List F8)) : (told v sh).length = sh.length := by simp [told]
section
variable {xs : List F8} {n k d a v : Nat} {sh : List (Int × List F8)} {t : Int} {M N : Nat → List F8}
theorem mem_wrongs (h : ArgOk n a sh t) {S : Nat → List F8} {z : Int} : z ∈ wrongs n S sh ↔ ∃ o ∈ sh, o.1 = z ∧ o.2 ≠ S z.toNat := by
 unfold wrongs
 rw [List.mem_map]
 constructor
 ·rintro ⟨j, hj, rfl⟩
  obtain ⟨o, ho, h2⟩ := List.any_eq_true.1 (List.mem_filter.1 hj).2
  have h3 := of_decide_eq_true h2
  exact ⟨o, ho, h3.1, by rw [Int.toNat_natCast]; exact h3.2⟩
 ·rintro ⟨o, ho, rfl, hne⟩
  obtain ⟨h1, h2, _⟩ := h.2.1 o ho
  refine ⟨o.1.toNat, List.mem_filter.2 ⟨List.mem_range.2 (by omega), List.any_eq_true.2 ⟨o, ho, decide_eq_true ⟨by omega, hne⟩⟩⟩, by omega⟩
theorem wrongs_sorted (n : Nat) (S : Nat → List F8) (sh : List (Int × List F8)) : (wrongs n S sh).Pairwise (· < ·) := by
 unfold wrongs
 rw [List.pairwise_map]
 exact (List.pairwise_lt_range.sublist List.filter_sublist).imp fun h => by omega
theorem sorted_nodup {l : List Int} (h : l.Pairwise (· < ·)) : l.Nodup := h.imp fun h e => by omega
theorem okl_any {s : Nat} (hx : xs.length = n + v) (h : ArgOk n s sh t) : OkL xs s (vir v s ++ told v sh) := by
 refine ⟨?_, fun o ho => ?_, fun o ho => ?_⟩
 ·rw [List.map_append, List.nodup_append]
  refine ⟨?_, ?_, fun x hx y hy e => ?_⟩
  ·unfold vir; rw [List.map_map]; exact (by simpa [Function.comp_def] using List.nodup_range)
  ·unfold told
   rw [List.map_map]
   have h1 := h.1
   unfold List.Nodup at *
   rw [List.pairwise_map] at *
   refine List.Pairwise.imp_of_mem ?_ h1
   intro o u ho hu hne e
   have h2 := (h.2.1 o ho).1; have h3 := (h.2.1 u hu).1
   simp only [Function.comp_apply] at e
   exact hne (by omega)
  ·obtain ⟨o, ho, rfl⟩ := List.mem_map.1 hx
   obtain ⟨u, hu, rfl⟩ := List.mem_map.1 hy
   obtain ⟨p, hp, rfl⟩ := List.mem_map.1 ho
   obtain ⟨q, hq, rfl⟩ := List.mem_map.1 hu
   have := List.mem_range.1 hp
   simp only at e; omega
 ·rw [hx]
  rcases List.mem_append.1 ho with ho | ho
  ·obtain ⟨p, hp, rfl⟩ := List.mem_map.1 ho
   have := List.mem_range.1 hp
   simp only; omega
  ·obtain ⟨q, hq, rfl⟩ := List.mem_map.1 ho
   have := h.2.1 q hq
   simp only; omega
 ·rcases List.mem_append.1 ho with ho | ho
  ·obtain ⟨p, hp, rfl⟩ := List.mem_map.1 ho
   simp
  ·obtain ⟨q, hq, rfl⟩ := List.mem_map.1 ho
   exact (h.2.1 q hq).2.2
theorem okl_all (hP : Par xs n k d a v) (h : ArgOk n a sh t) : OkL xs a (vir v a ++ told v sh) := okl_any hP.len h
theorem vir_rt (h : Cw xs a v M N) : ∀ o ∈ vir v a, rt xs a M N o = true := fun o ho => by
 obtain ⟨p, hp, rfl⟩ := List.mem_map.1 ho
 exact rt_iff.2 (h.z p (List.mem_range.1 hp)).symm
theorem cw_of (hM : Sym a M) (hN : Sym a N) (h : ∀ o ∈ vir v a, rt xs a M N o = true) : Cw xs a v M N :=
 ⟨hM, hN, fun p hp => (rt_iff.1 (h (p, List.replicate a 0) (List.mem_map.2 ⟨p, List.mem_range.2 hp, rfl⟩))).symm⟩
theorem told_rt (M N : Nat → List F8) (o : Int × List F8) : rt xs a M N (v + o.1.toNat, o.2) = decide (o.2 = node xs v a M N o.1.toNat) := rfl
theorem wrongs_length (hP : Par xs n k d a v) (h : ArgOk n a sh t) (M N : Nat → List F8) : ((told v sh).filter fun o => !rt xs a M N o).length = (wrongs n (node xs v a M N) sh).length := by
 have hok := (okl_all hP h).sub (List.sublist_append_right (vir v a) (told v sh))
 have hmem : ∀ z : Int, z ∈ ((told v sh).filter fun o => !rt xs a M N o).map (fun o => (o.1 : Int) - v) ↔ z ∈ wrongs n (node xs v a M N) sh := fun z => by
  rw [mem_wrongs h, List.mem_map]
  constructor
  ·rintro ⟨o, ho, rfl⟩
   obtain ⟨h1, h2⟩ := List.mem_filter.1 ho
   obtain ⟨u, hu, rfl⟩ := List.mem_map.1 h1
   have h3 := (h.2.1 u hu).1
   refine ⟨u, hu, by simp only; omega, ?_⟩
   rw [told_rt] at h2
   have e : ((↑(v + u.1.toNat) : Int) - ↑v).toNat = u.1.toNat := by omega
   simp only [e]
   simpa using h2
  ·rintro ⟨u, hu, rfl, hne⟩
   have h3 := (h.2.1 u hu).1
   exact ⟨(v + u.1.toNat, u.2), List.mem_filter.2 ⟨List.mem_map.2 ⟨u, hu, rfl⟩, by rw [told_rt]; simpa using hne⟩, by simp only; omega⟩
 have hnd : (((told v sh).filter fun o => !rt xs a M N o).map (fun o => (o.1 : Int) - v)).Nodup := by
  have := (hok.sub (List.filter_sublist (p := fun o => !rt xs a M N o))).nd
  unfold List.Nodup at *
  rw [List.pairwise_map] at *
  exact this.imp fun hne e => hne (by omega)
 have h1 := sub_le hnd fun x hx => (hmem x).1 hx
 have h2 := sub_le (sorted_nodup (wrongs_sorted n (node xs v a M N) sh)) fun x hx => (hmem x).2 hx
 rw [List.length_map] at h1 h2
 omega
theorem all_wrong (h : Cw xs a v M N) : ((vir v a ++ told v sh).filter fun o => !rt xs a M N o).length = ((told v sh).filter fun o => !rt xs a M N o).length := by
 rw [List.filter_append, List.length_append, List.filter_eq_nil_iff.2 (fun o ho => by rw [vir_rt h o ho]; simp)]
 simp
theorem cw_only (hP : Par xs n k d a v) (hA : ArgOk n a sh t) (hk : k + 2 * t ≤ (sh.length : Int)) {M' N' : Nat → List F8} (h : Cw xs a v M N) (h' : Cw xs a v M' N')
  (hw : ((wrongs n (node xs v a M N) sh).length : Int) ≤ t) (hw' : ((wrongs n (node xs v a M' N') sh).length : Int) ≤ t) : ∀ c, c < a → M c = M' c ∧ N c = N' c := by
 have hok := okl_all hP hA
 rw [← wrongs_length hP hA] at hw hw'
 obtain ⟨l, hl⟩ : ∃ l, (vir v a ++ told v sh).filter (fun o => rt xs a M N o && rt xs a M' N' o) = l := ⟨_, rfl⟩
 have h1 := len_split (fun o => rt xs a M N o && rt xs a M' N' o) (vir v a ++ told v sh)
 have h2 : ((vir v a ++ told v sh).filter fun o => !(rt xs a M N o && rt xs a M' N' o)).length ≤ ((vir v a ++ told v sh).filter fun o => !rt xs a M N o).length + ((vir v a ++ told v sh).filter fun o => !rt xs a M' N' o).length := by
  exact filter_and _ _ _
 rw [all_wrong h, all_wrong h'] at h2
 rw [List.length_append, vir_length, told_length, hl] at h1
 have hvk := hP.vk
 exact mats_only hP.P (hok.sub (hl ▸ List.filter_sublist)) (by omega) h.sm h.sn h'.sm h'.sn
  (fun o ho => by rw [← hl] at ho; have := (List.mem_filter.1 ho).2; simp at this; exact this.1)
  (fun o ho => by rw [← hl] at ho; have := (List.mem_filter.1 ho).2; simp at this; exact this.2)
theorem node_congr {M' N' : Nat → List F8} (h : ∀ c, c < a → M c = M' c ∧ N c = N' c) : node xs v a M N = node xs v a M' N' := funext fun _ => shr_congr h _
theorem DIs.only (hP : Par xs n k d a v) {m m' : List F8} {wl wl' : List Int} {z z' : Int} (h : DIs xs n k a v sh t m wl z) (h' : DIs xs n k a v sh t m' wl' z') : m = m' ∧ wl = wl' ∧ z = z' := by
  rcases h with ⟨A, h1, h2, h3⟩ | ⟨A, b, h1, h2, h3⟩ | ⟨A, b, M, N, hc, hw, h1, h2, h3⟩ | ⟨A, b, h1, h2, h3, hno⟩ <;>
  rcases h' with ⟨A', h1', h2', h3'⟩ | ⟨A', b', h1', h2', h3'⟩ | ⟨A', b', M', N', hc', hw', h1', h2', h3'⟩ | ⟨A', b', h1', h2', h3', hno'⟩ <;>
  first
    | exact absurd A' A
    | exact absurd A A'
    | exact absurd b (by omega)
    | exact absurd b' (by omega)
    | exact ⟨h1.trans h1'.symm, h2.trans h2'.symm, h3.trans h3'.symm⟩
    | exact ⟨h2.trans h2'.symm, h3.trans h3'.symm, h1.trans h1'.symm⟩
    | exact absurd hw (by have := hno' M N hc; omega)
    | exact absurd hw' (by have := hno M' N' hc'; omega)
    | (have e := node_congr (xs := xs) (v := v) (cw_only hP A b hc hc' hw hw')
       rw [e] at h2 h3
       exact ⟨h2.trans h2'.symm, h3.trans h3'.symm, h1.trans h1'.symm⟩)
def May (v : Nat) (A : List Int) (t : Nat) : Prop := A.length ≤ t ∧ ∀ p ∈ A, (v : Int) ≤ p
def MsgIs (xs : List F8) (k a v : Nat) (all : List (Nat × List F8)) (A : List Int) (t : Nat) (m : List F8) (wl : List Int) (ok : Bool) : Prop :=
  (¬ May v A t ∧ ok = false ∧ m = [] ∧ wl = []) ∨ (May v A t ∧ ∃ M N, Sym a M ∧ Sym a N ∧ (∀ o ∈ (wo all A).take (a + 1), rt xs a M N o = true) ∧
    ((t < ((all.drop v).filter fun o => !rt xs a M N o).length ∧ ok = false ∧ m = [] ∧ wl = []) ∨
     (((all.drop v).filter fun o => !rt xs a M N o).length ≤ t ∧ ok = true ∧ m = msgOf k (node xs v a M N) ∧ wl.Pairwise (· < ·) ∧ ∀ z, z ∈ wl ↔ z ∈ ((all.drop v).filter fun o => !rt xs a M N o).map fun o => (o.1 : Int) - v)))
theorem wo_vir {A : List Int} {T : Nat} (h : May v A T) (l : List (Nat × List F8)) : wo (vir v a ++ l) A = vir v a ++ wo l A := by
 have e : (vir v a).filter (fun o => !decide ((o.1 : Int) ∈ A)) = vir v a := List.filter_eq_self.2 fun o ho => by
  obtain ⟨p, hp, rfl⟩ := List.mem_map.1 ho
  have h1 := List.mem_range.1 hp
  have h2 : (p : Int) ∉ A := fun hm => by have := h.2 _ hm; omega
  simpa using h2
 unfold wo
 rw [List.filter_append, e]
theorem drop_vir (l : List (Nat × List F8)) : (vir v a ++ l).drop v = l := by
 rw [List.drop_left' (vir_length v a)]
theorem msg_cw (hP : Par xs n k d a v) {A : List Int} {T : Nat} (h : May v A T) {l : List (Nat × List F8)} (hM : Sym a M) (hN : Sym a N) (hr : ∀ o ∈ (wo (vir v a ++ l) A).take (a + 1), rt xs a M N o = true) : Cw xs a v M N := by
 refine cw_of hM hN fun o ho => hr o ?_
 have hvk := hP.vk; have hk2 := hP.k2
 rw [wo_vir h, List.take_append, vir_length, List.take_of_length_le (by rw [vir_length]; omega)]
 exact List.mem_append.2 (.inl ho)
theorem wrongs_of (h : ArgOk n a sh t) {wl : List Int} (hs : wl.Pairwise (· < ·)) (hm : ∀ z, z ∈ wl ↔ z ∈ ((told v sh).filter fun o => !rt xs a M N o).map fun o => (o.1 : Int) - v) : wl = wrongs n (node xs v a M N) sh := by
 refine sorted_ext hs (wrongs_sorted _ _ _) fun z => ?_
 rw [hm, mem_wrongs h, List.mem_map]
 constructor
 ·rintro ⟨o, ho, rfl⟩
  obtain ⟨h1, h2⟩ := List.mem_filter.1 ho
  obtain ⟨u, hu, rfl⟩ := List.mem_map.1 h1
  have h3 := (h.2.1 u hu).1
  refine ⟨u, hu, by simp only; omega, ?_⟩
  rw [told_rt] at h2
  have e : ((↑(v + u.1.toNat) : Int) - ↑v).toNat = u.1.toNat := by omega
  simp only [e]
  simpa using h2
 ·rintro ⟨u, hu, rfl, hne⟩
  have h3 := (h.2.1 u hu).1
  exact ⟨(v + u.1.toNat, u.2), List.mem_filter.2 ⟨List.mem_map.2 ⟨u, hu, rfl⟩, by rw [told_rt]; simpa using hne⟩, by simp only; omega⟩
theorem MsgIs.found (hP : Par xs n k d a v) {T : Nat} (hA : ArgOk n a sh T) (hk : k + 2 * (T : Int) ≤ (sh.length : Int)) {A : List Int} {m : List F8} {wl : List Int} (h : MsgIs xs k a v (vir v a ++ told v sh) A T m wl true) : DIs xs n k a v sh T m wl 0 := by
 rcases h with ⟨_, h, _⟩ | ⟨hm, M, N, hM, hN, hr, ⟨_, h, _⟩ | ⟨h1, _, h2, h3, h4⟩⟩
 ·cases h
 ·cases h
 ·rw [drop_vir] at h1 h4
  rw [wrongs_length hP hA] at h1
  exact .inr (.inr (.inl ⟨hA, hk, M, N, msg_cw hP hm hM hN hr, by omega, rfl, h2, wrongs_of hA h3 h4⟩))
theorem MsgIs.good (hP : Par xs n k d a v) {T : Nat} (hA : ArgOk n a sh T) (hk : k + 2 * (T : Int) ≤ (sh.length : Int)) {A : List Int} {m : List F8} {wl : List Int} {ok : Bool} (h : MsgIs xs k a v (vir v a ++ told v sh) A T m wl ok)
  (hc : Cw xs a v M N) (hAl : A.length ≤ T) (h1 : ∀ p ∈ A, ∃ o ∈ vir v a ++ told v sh, (o.1 : Int) = p ∧ rt xs a M N o = false) (h2 : ∀ o ∈ vir v a ++ told v sh, rt xs a M N o = false → (o.1 : Int) ∈ A) (hW : (((vir v a ++ told v sh).filter fun o => !rt xs a M N o).length) ≤ T) : ok = true := by
 have hmay : May v A T := ⟨hAl, fun p hp => by
  obtain ⟨o, ho, rfl, hf⟩ := h1 p hp
  rcases List.mem_append.1 ho with ho | ho
  ·rw [vir_rt hc o ho] at hf; cases hf
  ·obtain ⟨u, hu, rfl⟩ := List.mem_map.1 ho; simp only; omega⟩
 rcases h with ⟨hn, _⟩ | ⟨hm, M', N', hM, hN, hr, ⟨hlt, _⟩ | ⟨_, h, _⟩⟩
 ·exact absurd hmay hn
 ·exfalso
  have hok := okl_all hP hA
  have hwl := wo_length hok A
  rw [List.length_append, vir_length, told_length] at hwl
  have hvk := hP.vk
  have e := mats_only hP.P ((hok.sub (wo_sub _ A)).sub (List.take_sublist (a + 1) _)) (by rw [List.length_take]; omega) hc.sm hc.sn hM hN
   (fun o ho => by
    obtain ⟨ho1, ho2⟩ := mem_wo.1 (List.mem_of_mem_take ho)
    cases hb : rt xs a M N o with
    | true => rfl
    | false => exact absurd (h2 o ho1 hb) ho2) hr
  have e2 : ∀ o, rt xs a M' N' o = rt xs a M N o := fun o => by unfold rt; rw [shr_congr e]
  simp only [e2] at hlt
  rw [drop_vir, ← all_wrong hc] at hlt
  omega
 ·exact h
end
end Go.Proofs.YtjoghbmedfmioaaGreat.Ms

namespace Go.Proofs.YtjoghbmedfmioaaGreat.Ms
open F8 Poly Rd Mat Wl
def sureL (acc : Nat → Nat) (T : Nat) : List Int := ((List.range 255).filter fun p => decide (T < acc p)).map fun p : Nat => (p : Int)
theorem mem_sure {acc : Nat → Nat} {T : Nat} {p : Int} : p ∈ sureL acc T ↔ ∃ q : Nat, (q : Int) = p ∧ q < 255 ∧ T < acc q := by
 unfold sureL
 rw [List.mem_map]
 constructor
 ·rintro ⟨q, hq, rfl⟩
  obtain ⟨h1, h2⟩ := List.mem_filter.1 hq
  exact ⟨q, rfl, List.mem_range.1 h1, of_decide_eq_true h2⟩
 ·rintro ⟨q, rfl, h1, h2⟩
  exact ⟨q, List.mem_filter.2 ⟨List.mem_range.2 h1, decide_eq_true h2⟩, rfl⟩
theorem sure_nodup (acc : Nat → Nat) (T : Nat) : (sureL acc T).Nodup := by
 unfold sureL List.Nodup
 rw [List.pairwise_map]
 exact ((List.nodup_range.sublist List.filter_sublist)).imp fun hne e => hne (by omega)
structure SInv (xs : List F8) (a : Nat) (M N : Nat → List F8) (all : List (Nat × List F8)) (T i : Nat) (acc : Nat → Nat) : Prop where
 right : ∀ o ∈ all, rt xs a M N o = true → acc o.1 ≤ ((all.take i).filter fun u => !rt xs a M N u).length
 wrong : ∀ o ∈ all, rt xs a M N o = false → T < acc o.1 ∨ ((all.take i).filter fun u => rt xs a M N u && er xs a M N (coef xs u.1) o).length ≤ acc o.1
 cnt : ((all.take i).filter (rt xs a M N)).length ≤ a + T
 none : ∀ p, (∀ o ∈ all, o.1 ≠ p) → acc p = 0
section
variable {xs : List F8} {a T i : Nat} {M N : Nat → List F8} {all : List (Nat × List F8)} {acc : Nat → Nat}
theorem SInv.start (xs : List F8) (a : Nat) (M N : Nat → List F8) (all : List (Nat × List F8)) (T : Nat) : SInv xs a M N all T 0 (fun _ => 0) :=
 ⟨fun _ _ _ => Nat.zero_le _, fun _ _ _ => .inr (by simp), by simp, fun _ _ => rfl⟩
theorem take_filter_le (p : Nat × List F8 → Bool) (l : List (Nat × List F8)) (i : Nat) : ((l.take i).filter p).length ≤ (l.filter p).length := ((List.take_sublist i l).filter p).length_le
theorem SInv.sure (h : SInv xs a M N all T i acc) (hW : (all.filter fun u => !rt xs a M N u).length ≤ T) {p : Int} (hp : p ∈ sureL acc T) : ∃ o ∈ all, (o.1 : Int) = p ∧ rt xs a M N o = false := by
 obtain ⟨q, rfl, _, hq⟩ := mem_sure.1 hp
 by_cases hex : ∃ o ∈ all, o.1 = q
 ·obtain ⟨o, ho, rfl⟩ := hex
  refine ⟨o, ho, rfl, ?_⟩
  cases hb : rt xs a M N o with
  | false => rfl
  | true => have := h.right o ho hb; have := take_filter_le (fun u => !rt xs a M N u) all i; omega
 ·have := h.none q (fun o ho e => hex ⟨o, ho, e⟩)
  omega
theorem places_nodup (hl : OkL xs a all) : (all.map fun o => (o.1 : Int)).Nodup := hl.okP.2
theorem wrong_places {l : List Int} (hn : l.Nodup) (h : ∀ p ∈ l, ∃ o ∈ all, (o.1 : Int) = p ∧ rt xs a M N o = false) : l.length ≤ (all.filter fun u => !rt xs a M N u).length := by
 have := sub_le hn (r := (all.filter fun u => !rt xs a M N u).map fun o => (o.1 : Int)) fun p hp => by
  obtain ⟨o, ho, rfl, hf⟩ := h p hp
  exact List.mem_map.2 ⟨o, List.mem_filter.2 ⟨ho, by rw [hf]; rfl⟩, rfl⟩
 rwa [List.length_map] at this
theorem SInv.sure_length (h : SInv xs a M N all T i acc) (hW : (all.filter fun u => !rt xs a M N u).length ≤ T) : (sureL acc T).length ≤ T :=
 Nat.le_trans (wrong_places (sure_nodup _ _) fun _ hp => h.sure hW hp) hW
theorem spared (hP : Pts xs a) (hl : OkL xs a all) {l : List (Nat × List F8)} (hs : l.Sublist all) {o : Nat × List F8} (ho : o ∈ all) (hf : rt xs a M N o = false) (h1 : ∀ u ∈ l, er xs a M N (coef xs u.1) o = false) (ha : 1 ≤ a) : l.length ≤ a - 1 := by
 rcases Nat.lt_or_ge (a - 1) l.length with h | h
 ·exfalso
  have hn : (l.map fun u => coef xs u.1).Nodup := by rw [← pts_plI]; exact ptsAt_nodup hP.nd (hl.sub hs).okP
  have e := same_of (hl.len o ho) (shr_length a M N (coef xs o.1)) (by rw [List.length_map]; omega) hn fun x hx => by
   obtain ⟨u, hu, rfl⟩ := List.mem_map.1 hx
   have := h1 u hu
   unfold er at this
   have := of_decide_eq_false this
   exact Classical.not_not.1 this
  rw [rt_iff.2 e] at hf
  cases hf
 ·exact h
theorem SInv.all_sure (h : SInv xs a M N all T i acc) (hP : Pts xs a) (hl : OkL xs a all) (hx : xs.length ≤ 255) (ha : 1 ≤ a) (hc : a + T ≤ ((all.take i).filter (rt xs a M N)).length) {o : Nat × List F8} (ho : o ∈ all) (hf : rt xs a M N o = false) : (o.1 : Int) ∈ sureL acc T := by
 refine mem_sure.2 ⟨o.1, rfl, by have := hl.lt o ho; omega, ?_⟩
 rcases h.wrong o ho hf with hw | hw
 ·exact hw
 ·have h1 := len_split (fun u => er xs a M N (coef xs u.1) o) ((all.take i).filter (rt xs a M N))
  rw [List.filter_filter, List.filter_filter] at h1
  have h2 := spared hP hl (l := (all.take i).filter fun u => !er xs a M N (coef xs u.1) o && rt xs a M N u) (List.filter_sublist.trans (List.take_sublist i all)) ho hf (fun u hu => by
   have := (List.mem_filter.1 hu).2
   simp at this; exact this.1) ha
  have h3 : ((all.take i).filter fun u => er xs a M N (coef xs u.1) o && rt xs a M N u) = (all.take i).filter fun u => rt xs a M N u && er xs a M N (coef xs u.1) o := by congr 1; funext u; exact Bool.and_comm _ _
  rw [h3] at h1
  omega
theorem others_ok (hl : OkL xs a all) (one : Nat × List F8) (S : List Int) : OkL xs a (wo all (S ++ [(one.1 : Int)])) ∧ (∀ o ∈ wo all (S ++ [(one.1 : Int)]), o.1 ≠ one.1) ∧ all.length ≤ (wo all (S ++ [(one.1 : Int)])).length + S.length + 1 := by
 refine ⟨hl.sub (wo_sub _ _), fun o ho e => ?_, ?_⟩
 ·have := (mem_wo.1 ho).2
  rw [e] at this
  simp at this
 ·have := wo_length hl (S ++ [(one.1 : Int)])
  rw [List.length_append, List.length_singleton] at this
  omega
theorem SInv.row (h : SInv xs a M N all T i acc) (hP : Pts xs a) (hl : OkL xs a all) (hM : Sym a M) (hN : Sym a N) (hW : (all.filter fun u => !rt xs a M N u).length ≤ T) (hk : a + 1 + 2 * T ≤ all.length) {one : Nat × List F8} (h1 : one ∈ all) (hr : rt xs a M N one = true)
  {m : List F8} {wl : List Int} {z : Int} (hw : WIs xs a (plI (wo all (sureL acc T ++ [(one.1 : Int)]))) (vals a xs one (wo all (sureL acc T ++ [(one.1 : Int)]))) ((T : Int) - (sureL acc T).length) m wl z) :
  z = 0 ∧ ∀ p : Int, p ∈ wl ↔ ∃ o ∈ all, (o.1 : Int) = p ∧ p ∉ sureL acc T ∧ er xs a M N (coef xs one.1) o = true := by
 have hsl := h.sure_length hW
 obtain ⟨ho1, ho2, ho3⟩ := others_ok hl one (sureL acc T)
 have hT : ((wo all (sureL acc T ++ [(one.1 : Int)])).filter (er xs a M N (coef xs one.1))).length ≤ T - (sureL acc T).length := by
  have h4 := wrong_places (M := M) (N := N) (l := sureL acc T ++ ((wo all (sureL acc T ++ [(one.1 : Int)])).filter (er xs a M N (coef xs one.1))).map fun o => (o.1 : Int)) (by
   refine List.nodup_append.2 ⟨sure_nodup _ _, places_nodup (ho1.sub List.filter_sublist), fun p hp q hq e => ?_⟩
   obtain ⟨o, ho, rfl⟩ := List.mem_map.1 hq
   have := (mem_wo.1 (List.mem_filter.1 ho).1).2
   exact this (List.mem_append.2 (.inl (e ▸ hp)))) (fun p hp => by
   rcases List.mem_append.1 hp with hp | hp
   ·exact h.sure hW hp
   ·obtain ⟨o, ho, rfl⟩ := List.mem_map.1 hp
    obtain ⟨ho4, ho5⟩ := List.mem_filter.1 ho
    exact ⟨o, (mem_wo.1 ho4).1, rfl, er_rt ho5⟩)
  rw [List.length_append, List.length_map] at h4
  omega
 have e : ((T : Int) - (sureL acc T).length) = ((T - (sureL acc T).length : Nat) : Int) := by omega
 rw [e] at hw
 obtain ⟨rfl, _, hm⟩ := row_ok hP hM hN (hl.lt one h1) hr ho1 ho2 hT (by omega) hw
 refine ⟨rfl, fun p => ?_⟩
 rw [hm]
 constructor
 ·rintro ⟨o, ho, rfl, her⟩
  obtain ⟨h5, h6⟩ := mem_wo.1 ho
  exact ⟨o, h5, rfl, fun hp => h6 (List.mem_append.2 (.inl hp)), her⟩
 ·rintro ⟨o, ho, rfl, hp, her⟩
  refine ⟨o, mem_wo.2 ⟨ho, fun h6 => ?_⟩, rfl, her⟩
  rcases List.mem_append.1 h6 with h6 | h6
  ·exact hp h6
  ·have e2 : o.1 = one.1 := by simp at h6; omega
   rw [hl.inj ho h1 e2] at her
   rw [er_rt her] at hr
   cases hr
def addAcc (acc : Nat → Nat) (wl : List Int) (p : Nat) : Nat := acc p + if (p : Int) ∈ wl then 1 else 0
theorem addAcc_ge (acc : Nat → Nat) (wl : List Int) (p : Nat) : acc p ≤ addAcc acc wl p := by unfold addAcc; omega
theorem addAcc_le (acc : Nat → Nat) (wl : List Int) (p : Nat) : addAcc acc wl p ≤ acc p + 1 := by unfold addAcc; split <;> omega
theorem take_filter_succ (p : Nat × List F8 → Bool) {l : List (Nat × List F8)} {i : Nat} (hi : i < l.length) : ((l.take (i + 1)).filter p).length = ((l.take i).filter p).length + if p l[i] then 1 else 0 := by
 rw [List.take_succ_eq_append_getElem hi, List.filter_append, List.length_append]
 by_cases e : p l[i] = true
 ·rw [List.filter_cons, if_pos e, if_pos e]; rfl
 ·rw [List.filter_cons, if_neg e, if_neg e]; rfl
theorem SInv.next_right (h : SInv xs a M N all T i acc) (hl : OkL xs a all) (hi : i < all.length) (hr : rt xs a M N all[i] = true) (hlt : ((all.take i).filter (rt xs a M N)).length < a + T)
  {wl : List Int} (hwl : ∀ p : Int, p ∈ wl ↔ ∃ o ∈ all, (o.1 : Int) = p ∧ p ∉ sureL acc T ∧ er xs a M N (coef xs (all[i]).1) o = true) : SInv xs a M N all T (i + 1) (addAcc acc wl) := by
 refine ⟨fun o ho hro => ?_, fun o ho hf => ?_, ?_, fun p hp => ?_⟩
 ·rw [take_filter_succ _ hi]
  have h1 := h.right o ho hro
  have h2 : (o.1 : Int) ∉ wl := fun hm => by
   obtain ⟨u, hu, e, _, her⟩ := (hwl _).1 hm
   rw [hl.inj hu ho (by omega)] at her
   rw [er_rt her] at hro; cases hro
  unfold addAcc
  rw [if_neg h2]
  omega
 ·by_cases hs : T < acc o.1
  ·exact .inl (Nat.lt_of_lt_of_le hs (addAcc_ge _ _ _))
  ·rcases h.wrong o ho hf with hw | hw
   ·exact absurd hw hs
   ·right
    rw [take_filter_succ _ hi, hr, Bool.true_and]
    by_cases her : er xs a M N (coef xs (all[i]).1) o = true
    ·have hm : (o.1 : Int) ∈ wl := (hwl _).2 ⟨o, ho, rfl, fun hp => by
      obtain ⟨q, e, _, hq⟩ := mem_sure.1 hp
      rw [show q = o.1 by omega] at hq; exact hs hq, her⟩
     unfold addAcc
     rw [if_pos her, if_pos hm]
     omega
    ·rw [if_neg her]
     have := addAcc_ge acc wl o.1
     omega
 ·rw [take_filter_succ _ hi, hr, if_pos rfl]; omega
 ·have h1 := h.none p hp
  have h2 : (p : Int) ∉ wl := fun hm => by
   obtain ⟨u, hu, e, _⟩ := (hwl _).1 hm
   exact hp u hu (by omega)
  unfold addAcc
  rw [if_neg h2]; omega
theorem SInv.next_wrong (h : SInv xs a M N all T i acc) (hi : i < all.length) (hr : rt xs a M N all[i] = false) {wl : List Int} (hwl : ∀ p ∈ wl, ∃ o ∈ all, (o.1 : Int) = p) : SInv xs a M N all T (i + 1) (addAcc acc wl) := by
 refine ⟨fun o ho hro => ?_, fun o ho hf => ?_, ?_, fun p hp => ?_⟩
 ·rw [take_filter_succ _ hi, hr]
  have h1 := h.right o ho hro
  have h2 := addAcc_le acc wl o.1
  simp; omega
 ·have h2 := addAcc_ge acc wl o.1
  rcases h.wrong o ho hf with hw | hw
  ·exact .inl (by omega)
  ·right
   rw [take_filter_succ _ hi, hr, Bool.false_and, if_neg (by decide)]; omega
 ·have h3 := h.cnt
  rw [take_filter_succ _ hi, hr, if_neg (by decide)]
  exact h3
 ·have h1 := h.none p hp
  have h2 : (p : Int) ∉ wl := fun hm => by
   obtain ⟨u, hu, e⟩ := hwl _ hm
   exact hp u hu (by omega)
  unfold addAcc
  rw [if_neg h2]; omega
def setAcc (acc : Nat → Nat) (q x : Nat) (p : Nat) : Nat := if p = q then x else acc p
theorem SInv.next_lost (h : SInv xs a M N all T i acc) (hl : OkL xs a all) (hi : i < all.length) (hr : rt xs a M N all[i] = false) : SInv xs a M N all T (i + 1) (setAcc acc (all[i]).1 (T + 1)) := by
 refine ⟨fun o ho hro => ?_, fun o ho hf => ?_, ?_, fun p hp => ?_⟩
 ·rw [take_filter_succ _ hi, hr]
  have h1 := h.right o ho hro
  unfold setAcc
  rw [if_neg (fun e => by
   rw [hl.inj ho (List.getElem_mem hi) e] at hro
   rw [hro] at hr; cases hr)]
  simp; omega
 ·by_cases e : o.1 = (all[i]).1
  ·left; unfold setAcc; rw [if_pos e]; omega
  ·unfold setAcc
   rw [if_neg e]
   rcases h.wrong o ho hf with hw | hw
   ·exact .inl hw
   ·right
    rw [take_filter_succ _ hi, hr, Bool.false_and, if_neg (by decide)]; omega
 ·have h3 := h.cnt
  rw [take_filter_succ _ hi, hr, if_neg (by decide)]
  exact h3
 ·have h1 := h.none p hp
  unfold setAcc
  rw [if_neg (fun e => hp _ (List.getElem_mem hi) e.symm)]
  exact h1
theorem SInv.finish (h : SInv xs a M N all T all.length acc) (hW : (all.filter fun u => !rt xs a M N u).length ≤ T) (hk : a + 1 + 2 * T ≤ all.length) : False := by
 have h1 := h.cnt
 rw [List.take_of_length_le (Nat.le_refl _)] at h1
 have h2 := len_split (rt xs a M N) all
 omega
theorem wis_wl {pl : List Int} {ys m : List F8} {t : Int} {wl : List Int} {z : Int} {k : Nat} (hok : OkP xs.length pl) (h : WIs xs k pl ys t m wl z) : ∀ p ∈ wl, p ∈ pl := fun p hp => by
 rcases h with ⟨_, _, rfl, _⟩ | ⟨_, _, _, rfl, _⟩ | ⟨_, _, _, _, _, rfl⟩ | ⟨_, _, _, _, rfl, _⟩
 ·simp at hp
 ·simp at hp
 ·obtain ⟨i, hi, rfl, _⟩ := (mem_wrong hok).1 hp
  rw [List.getD_eq_getElem?_getD, List.getElem?_eq_getElem hi]; exact List.getElem_mem _
 ·simp at hp
end
end Go.Proofs.YtjoghbmedfmioaaGreat.Ms

namespace Go.Proofs.YtjoghbmedfmioaaGreat.Rd
open Go.RowKit Go.Shelf F8 Poly GF
attribute [local go_sem] Oper.semAt_some
def ROwn (w : World) (r : List F8) (n : Nat) (e : Ending) (w' : World) : Prop :=
 ∃ A c, e = .returned (.slice A n c) ∧ n ≤ c ∧ Own w' w.heap.size 5 (.slice A n c) (bv (bs r)) ∧ Below w.heap.size w w'
theorem ptsAt_snoc {p : List F8} {pl : List Int} {k : Nat} (h : k < pl.length) : bv (bs (ptsAt p (pl.take (k + 1)))) = bv (bs (ptsAt p (pl.take k))) ++ bv [(coef p pl[k].toNat).n] := by
 rw [take_succ' pl h, ptsAt, List.map_append, List.map_cons, List.map_nil, bvs_snoc]; rfl
end Go.Proofs.YtjoghbmedfmioaaGreat.Rd

namespace Go.Proofs.YtjoghbmedfmioaaGreat.Rd
open Go.RowKit F8 Poly
def nuls (k : Nat) : ByteArray := str (List.replicate k 0)
theorem nuls_size (k : Nat) : (nuls k).size = k := by rw [nuls, str_size, List.length_replicate]
theorem nuls_cells (k : Nat) : Lib.strCells (nuls k) = bv (List.replicate k 0) := by
 simp [Lib.strCells, nuls, str, bv]
theorem nuls_zero (k : Nat) : (Lib.strCells (nuls k)).toArray = Builtin.zeroCells (Value.int .u8 0).cells k := by
 rw [nuls_cells]
 apply Array.ext
 ·simp [bv, size_zeroCells, Value.cells]
 ·intro i h1 h2
  simp [bv, Builtin.zeroCells, Value.cells, Nat.mod_one]
theorem app_zeros_eq (w : World) (ty : TypeId) (base : Option Addr) (n cap k : Nat) (hk : k ≤ 1000000000) (hn : n ≤ 1000000000) (hc : n ≤ cap) :
  (Builtin.append_ #[34, 3] ty #[.slice base n cap, .int .i64 (k : Int)]).run Tryz.prog w =
  (Builtin.append_ #[34, 9] ty #[.slice base n cap, .string (nuls k)]).run Tryz.prog w := by
 obtain ⟨i, hi, hi1, hi2, hi3⟩ := info_parts info_u8
 have hw : IntKind.i64.wrap (k : Int) = k := by rw [IntKind.wrap_i64]; omega
 have hneg : ¬ ((k : Int) < 0) := by omega
 have h48i : ¬ (281474976710656 < (k : Int)) := by omega
 have h63 : ¬ (9223372036854775807 < (n : Int) + (k : Int)) := by omega
 have hf : ∀ w, (Builtin.firstCells 1 k (.string (nuls k))).run Tryz.prog w = .ok (Builtin.zeroCells (Value.int .u8 0).cells k) w := fun w => by
  have := Lib.run_firstCells_string (P := Tryz.prog) w 1 (nuls k)
  rw [nuls_size, nuls_zero] at this; exact this
 by_cases hroom : n + k ≤ cap
 ·by_cases h0 : k = 0
  ·subst h0
   have hw0 : IntKind.i64.wrap 0 = 0 := rfl
   have hr0 : n ≤ cap := hroom
   have hs0 := nuls_size 0
   simp [Builtin.append_, run_underlying Tryz.underlying34, run_underlying Tryz.underlying3, run_underlying Tryz.underlying9, sizeOf, typeInfo, zeroValue, hi, hi1, hi2, hi3, asInt, asIntOf, hw0, hr0, Builtin.lenOf, hs0, hf, Builtin.zeroCells]
  ·simp [Builtin.append_, run_underlying Tryz.underlying34, run_underlying Tryz.underlying3, run_underlying Tryz.underlying9, sizeOf, typeInfo, zeroValue, hi, hi1, hi2, hi3, asInt, asIntOf, hw, hneg, h48i, Builtin.lenOf, nuls_size, hroom, hf, h0]
 ·have h0 : k ≠ 0 := by omega
  have hfit : Builtin.nextslicecap (n + k) cap * 1 ≤ 281474976710656 := growslice_fits (by omega) (by omega)
  have h48' : ¬ (281474976710656 < Builtin.nextslicecap (n + k) cap) := by omega
  simp [Builtin.append_, run_underlying Tryz.underlying34, run_underlying Tryz.underlying3, run_underlying Tryz.underlying9, sizeOf, typeInfo, zeroValue, hi, hi1, hi2, hi3, asInt, asIntOf, hw, hneg, h48i, h48', h63, Builtin.lenOf, nuls_size, hroom, hf, h0, Question.forced]
theorem run_app_zeros (w : World) (ty : TypeId) (B : Nat) (v : Value) (xs : List Value) (hown : Own w B 5 v xs) (k : Nat) (hk : k ≤ 1000000000) (hn : xs.length ≤ 1000000000) (hB : B ≤ w.heap.size) :
  ∃ v' w', (Builtin.append_ #[34, 3] ty #[v, .int .i64 (k : Int)]).run Tryz.prog w = .ok v' w' ∧ Own w' B 5 v' (xs ++ bv (List.replicate k 0)) ∧ w.grownBy w' v.ownBlock := by
 obtain ⟨i, hi, hi1, hi2, hi3⟩ := info_parts info_u8
 obtain ⟨v', w', hr, h2, h3, _⟩ := Lib.run_append_own_string (P := Tryz.prog) w B 34 9 ty 5 i Tryz.underlying34 Tryz.underlying9 hi hi1 hi2 hi3 v xs.length xs hown (nuls k) (by rw [nuls_size]; simp only [maxLen]; omega) (by rw [nuls_size]; omega) hB
 have he : (Builtin.append_ #[34, 3] ty #[v, .int .i64 (k : Int)]).run Tryz.prog w = (Builtin.append_ #[34, 9] ty #[v, .string (nuls k)]).run Tryz.prog w := by
  rcases hown.2 with ⟨rfl, h0⟩ | ⟨g, cap, cur, rfl, _, _, hnc, _⟩
  ·exact app_zeros_eq w ty none 0 0 k hk (by omega) (Nat.le_refl _)
  ·exact app_zeros_eq w ty _ xs.length cap k hk hn hnc
 refine ⟨v', w', he.trans hr, ?_, h3⟩
 rw [nuls_size, nuls_cells] at h2
 unfold Own
 rw [List.length_append, bv_length, List.length_replicate]
 exact h2
end Go.Proofs.YtjoghbmedfmioaaGreat.Rd

namespace Go.Proofs.YtjoghbmedfmioaaGreat.Poly
open Go.RowKit Go.Shelf F8 GF
attribute [local go_sem] Oper.semAt_some
set_option maxHeartbeats 1000000 in
theorem trim_calls (A : Option Addr) (p : List F8) (m c : Nat) (w : World) (hl : p.length = m) (hb : Bytes w A (bs p)) (hc : m ≤ c) (hm : m ≤ 5000) :
  Calls Tryz.prog 188 #[.slice A m c] w fun e w' => Res w w' e (trim p) := by
 have HB := Lib.hid hb
 have hle : len p ≤ m := by have := len_le p; omega
 obtain ⟨t, ht⟩ : ∃ t, trim p = t := ⟨_, rfl⟩
 obtain ⟨n, hn⟩ : ∃ n, len p = n := ⟨_, rfl⟩
 have htn : t.length = n := by rw [← ht, ← hn]; rfl
 rw [hn] at hle
 have HT := Lib.hid ht
 have HN := Lib.hid hn
 have HTN := Lib.hid htn
 clear hb ht hn htn
 go_enter Tryz.func188, Tryz.ntmps188
 go_wp2_with (first
  | (go_at_call 98; refine (trimmed_calls A p m c _ hl HB.out hc (by omega)).mono ?_; rintro e w1 ⟨A2, rfl, hcut, hB1⟩; have HB2 := Lib.hid (hcut.bytes (HB.out.below hB1)); rw [HN.out]; rw [HT.out] at HB2)
  | (go_at_call 42; refine (clone_calls A2 t n c _ HTN.out HB2.out (by omega) (by omega)).mono ?_; rintro e w2 ⟨A3, c3, rfl, hc3, hO3, hB3⟩))
 go_ret
 rw [HT.out]
 have hsz := hB1.size
 exact ⟨A3, c3, rfl, hc3, hO3.more hsz, hB1.trans (hB3.mono hsz)⟩
theorem wpList_copy_bytes {w : World} {ops : Array Oper} {rest : List Oper} {o : Oper} {a : Act} {Q : Exit → Act → World → Prop} (hgd : o.guard = none) (d s : Operand)
  (ho : o.op = .call { callee := .builtin .copy, args := #[d, s], argTypes := #[34, 34] }) (g n dc : Nat) (A : Option Addr) (m c : Nat)
  (hd : a.eval d = .slice (some ⟨g, 0, none⟩) n dc) (hs : a.eval s = .slice A m c) (old p : List F8) (hg : Block w g 5 (bv (bs old)).toArray) (hl : p.length = m) (hb : Bytes w A (bs p)) (hm : m ≤ n) (hn : old.length = n)
  (h : ∀ w', Block w' g 5 (bv (bs (p ++ old.drop m))).toArray → Past w.heap.size g w w' → w'.heap.size = w.heap.size → wpList Tryz.prog ops Q rest (a.put o.dst (goInt m)) w') :
  wpList Tryz.prog ops Q (o :: rest) a w := by
 have hsz1 : (Tryz.prog.info? 5).map (·.size) = some 1 := by kernel_rfl
 by_cases h0 : m = 0
 ·subst h0
  have : p = [] := List.eq_nil_of_length_eq_zero hl
  subst this
  refine wpList_copy_nothing hgd d s _ _ ho 5 Tryz.underlying34 hsz1 _ _ n dc 0 c hd hs (by simp) ?_
  exact h w (by simpa using hg) (Past.refl _ _ _) rfl
 ·obtain ⟨b, off, rfl⟩ := where_ hb (by omega)
  have hpl : (bv (bs p)).length = m := by rw [bvs_length, hl]
  refine wpList_copy_own hgd d s _ _ ho 5 Tryz.underlying34 hsz1 g 0 n dc ⟨b, off, none⟩ m c hd hs _ _ hg (bv (bs p)) (by rw [hpl]; exact (Nat.min_eq_left hm).symm) ?_ (by simp [bvs_length]; omega) (bv_one _) ?_
  ·intro j v hv
   have hj : j < p.length := by have := (List.getElem?_eq_some_iff.1 hv).1; rwa [bvs_length] at this
   obtain ⟨b', off', e, hc⟩ := hb.row j v hv
   simp only [Option.some.injEq, Addr.mk.injEq] at e
   obtain ⟨rfl, rfl, _⟩ := e
   rw [addr_add]; exact hc
  ·rw [hpl]
   refine h _ ?_ ⟨rfl, rfl, rfl, by simp [World.setRow], fun k _ hk => setRow_other w g k _ hk⟩ (by simp [World.setRow])
   have := setRow_heap w g (bv (bs old)).toArray (((bv (bs old)).toArray.toList.take 0) ++ (bv (bs p) ++ (bv (bs old)).toArray.toList.drop (0 + m))).toArray _ _ hg
   have e2 : (((bv (bs old)).toArray.toList.take 0) ++ (bv (bs p) ++ (bv (bs old)).toArray.toList.drop (0 + m))) = bv (bs (p ++ old.drop m)) := by
    simp [bv, bs, List.map_drop]
   rw [e2] at this
   rw [e2]
   exact this
theorem Own.block {w : World} {B : Nat} {e : TypeId} {g n : Nat} {xs : List Value} (h : Own w B e (.slice (some ⟨g, 0, none⟩) n n) xs) : Block w g e xs.toArray := by
 rcases h.2 with ⟨h1, _⟩ | ⟨g', cap, cur, h1, h2, h3, h4, h5, h6, h7⟩
 ·cases h1
 ·injection h1 with h1 h8 h9
  injection h1 with h1
  injection h1 with h1
  subst h1 h9
  have : cur.toList = xs := by rw [← h7, List.take_of_length_le (by simp [h6, ← h8])]
  rw [← this]
  exact h3
theorem Own.of_block {w : World} {B : Nat} {e : TypeId} {g n : Nat} {xs : List Value} (h : Block w g e xs.toArray) (hB : B ≤ g) (hn : xs.length = n) (hm : n ≤ maxLen) : Own w B e (.slice (some ⟨g, 0, none⟩) n n) xs := by
 subst hn
 exact ⟨by simp, .inr ⟨g, xs.length, xs.toArray, rfl, hB, h, Nat.le_refl _, hm, by simp, by simp⟩⟩
theorem coef_set (s : List F8) (k : Nat) (x : F8) (hk : k < s.length) (i : Nat) : coef (s.set k x) i = if i = k then x else coef s i := by
 unfold coef
 rw [List.getD_eq_getElem?_getD, List.getD_eq_getElem?_getD, List.getElem?_set]
 by_cases e : i = k
 ·subst e; simp [hk]
 ·rw [if_neg (Ne.symm e), if_neg e]
theorem bvs_set (s : List F8) (k : Nat) (x : F8) : (bv (bs s)).toArray.setIfInBounds k (.int .u8 (x.n : Int)) = (bv (bs (s.set k x))).toArray := by
 simp [bv, bs, List.map_set]
theorem bvs_get (s : List F8) (k : Nat) (hk : k < s.length) : (bv (bs s)).toArray[k]? = some (.int .u8 ((coef s k).n : Int)) := by
 rw [coef_of_lt hk]
 simp [bv, bs, hk]
theorem add_still (x y : F8) (w : World) : Calls Tryz.prog 19 #[.int .u8 x.n, .int .u8 y.n] w fun e w' => e = .returned (.int .u8 (x + y).n) ∧ w' = w :=
 (add_calls x.n y.n x.h y.h w).mono fun _ _ ⟨h1, h2⟩ => ⟨h1, h2.symm⟩
end Go.Proofs.YtjoghbmedfmioaaGreat.Poly

namespace Go.Proofs.YtjoghbmedfmioaaGreat.Poly
open Go.RowKit F8 GF
section
variable {w0 w w' : World} {g : Nat} {ls : List (Option Addr × List F8)} {A B : Option Addr} {p q : List F8}
theorem bytes_far (h : Bytes w A (bs p)) (hg : p ≠ [] → ∀ a, A = some a → a.block ≠ g) (hp : Past w.heap.size g w w') : Bytes w' A (bs p) := by
 refine ⟨fun k u hu => ?_, bs_lt p⟩
 obtain ⟨b, off, rfl, hc⟩ := h.row k u hu
 refine ⟨b, off, rfl, ?_⟩
 rw [← hc]
 exact World.cell?_of_block (hp.block b (cell_lt hc) (hg (by rintro rfl; simp [bs, bv] at hu) _ rfl))
theorem own_block {B0 : Nat} {e : TypeId} {xs : List Value} {n c : Nat} (h : Own w B0 e (.slice A n c) xs) : ∀ a, A = some a → B0 ≤ a.block := by
 intro a ha
 rcases h.2 with ⟨h1, _⟩ | ⟨b, cap, cur, h1, h2, _⟩
 ·injection h1 with h1; rw [h1] at ha; cases ha
 ·injection h1 with h1; rw [h1] at ha; cases ha; exact h2
end
theorem own_ne {w : World} {g B : Nat} {e t : TypeId} {v : Value} {xs : List Value} {cs : Array Value} (h : Own w B e v xs) (hb : Block w g t cs) (hne : e ≠ t) : v.ownBlock ≠ some g := by
 rcases h.2 with ⟨rfl, _⟩ | ⟨b, cap, cur, rfl, _, hh, _⟩
 ·simp [Value.ownBlock]
 ·intro e1
  obtain rfl : b = g := by simpa [Value.ownBlock] using e1
  unfold Block at hb
  rw [hh] at hb
  simp only [Option.some.injEq, Obj.cells.injEq] at hb
  exact hne hb.2.1
theorem own_keep {w w' : World} {g B : Nat} {v : Value} {xs : List Value} (h : Own w B 5 v xs) (hf : FldP w (some ⟨g, 0, none⟩)) (hp : Past w.heap.size g w w') : Own w' B 5 v xs := by
 refine h.grown (row := some g) ⟨hp.os, hp.tape, hp.output, hp.size, fun k hk hn => hp.block k hk (fun e => hn (by rw [e]))⟩ (.inr ?_)
 rcases hf.fld with hb | hb
 ·exact own_ne h hb (by decide)
 ·exact own_ne h hb (by decide)
theorem _root_.Go.Proofs.YtjoghbmedfmioaaGreat.GF.Fld.kept_grown {w w' : World} {g B : Nat} {row : Option Nat} (h : Fld w g) (hw : w.grownBy w' row) (hg : g < B) (hr : ∀ k, row = some k → B ≤ k) : Fld w' g :=
 have e := hw.block g h.lt (fun e => by have := hr g e.symm; omega)
 h.imp (fun h => e.trans h) (fun h => e.trans h)
end Go.Proofs.YtjoghbmedfmioaaGreat.Poly

namespace Go.Proofs.YtjoghbmedfmioaaGreat.Poly
open Go.RowKit Go.Shelf F8 GF
attribute [local go_sem] Oper.semAt_some
structure But (B : Nat) (S : Nat → Prop) (w w' : World) : Prop where
 os : w'.os = w.os
 tape : w'.tape = w.tape
 output : w'.output = w.output
 size : w.heap.size ≤ w'.heap.size
 block : ∀ k, k < B → ¬ S k → w'.heap[k]? = w.heap[k]?
section
variable {B : Nat} {S : Nat → Prop} {a w w' : World}
theorem But.refl (B : Nat) (S : Nat → Prop) (w : World) : But B S w w := ⟨rfl, rfl, rfl, Nat.le_refl _, fun _ _ _ => rfl⟩
theorem But.trans (h : But B S a w) (k : But B S w w') : But B S a w' :=
 ⟨k.os.trans h.os, k.tape.trans h.tape, k.output.trans h.output, Nat.le_trans h.size k.size, fun i hi hn => (k.block i hi hn).trans (h.block i hi hn)⟩
theorem But.of_past {g : Nat} (h : Past B g a w) (hg : S g) : But B S a w := ⟨h.os, h.tape, h.output, h.size, fun i hi hn => h.block i hi (fun e => hn (e ▸ hg))⟩
theorem But.of_below (h : Below B a w) : But B S a w := ⟨h.os, h.tape, h.output, h.size, fun i hi _ => h.block i hi⟩
theorem But.mono {B' : Nat} {S' : Nat → Prop} (h : But B S a w) (hB : B' ≤ B) (hS : ∀ k, k < B' → S k → S' k) : But B' S' a w := ⟨h.os, h.tape, h.output, h.size, fun i hi hn => h.block i (by omega) (fun e => hn (hS i hi e))⟩
theorem But.drew (h : But B S a w) : But B S a w.drew := ⟨h.os, h.tape, h.output, h.size, h.block⟩
theorem But.setCell (h : But B S a w) {p : Addr} (hp : S p.block ∨ B ≤ p.block) (u : Value) : But B S a (w.setCell p u) :=
 h.trans ⟨rfl, rfl, rfl, by simp [World.setCell], fun k hk hn => Below.heap_setCell _ _ _ _ (by rintro rfl; rcases hp with hp | hp; exact hn hp; omega)⟩
theorem But.bytes {A : Option Addr} {p : List F8} (h : But w.heap.size S w w') (hb : Bytes w A (bs p)) (hg : p ≠ [] → ∀ a, A = some a → ¬ S a.block) : Bytes w' A (bs p) := by
 refine ⟨fun k u hu => ?_, bs_lt p⟩
 obtain ⟨b, off, rfl, hc⟩ := hb.row k u hu
 refine ⟨b, off, rfl, ?_⟩
 rw [← hc]
 exact World.cell?_of_block (h.block b (cell_lt hc) (hg (by rintro rfl; simp [bs, bv] at hu) _ rfl))
end
theorem past_cell {B g : Nat} {w w' : World} (h : Past B g w w') (p : Addr) (hb : p.block < B) (hn : p.block ≠ g) : w'.cell? p = w.cell? p := World.cell?_of_block (h.block _ hb hn)
theorem Fld.ne_block {w : World} {gf g : Nat} {cs : Array Value} (hf : Fld w gf) (hb : Block w g 5 cs) : gf ≠ g := by
 rintro rfl
 rcases hf with h | h <;>
 ·unfold Block at h hb
  rw [h] at hb
  simp only [Option.some.injEq, Obj.cells.injEq] at hb
  exact absurd hb.2.1 (by decide)
theorem own_cell {w : World} {B g M C k : Nat} {s : List F8} (h : Own w B 5 (.slice (some ⟨g, 0, none⟩) M C) (bv (bs s))) (hs : s.length = M) (hk : k < M) : w.cell? ⟨g, k, none⟩ = some (.int .u8 ((coef s k).n : Int)) := by
 have hl : (bv (bs s)).length = M := by rw [bvs_length, hs]
 rw [Own.cellAt h hl k (by omega), coef_of_lt (by omega)]
 simp [bv, bs]
theorem own_set {w : World} {B g M C k : Nat} {s : List F8} {x : F8} (h : Own w B 5 (.slice (some ⟨g, 0, none⟩) M C) (bv (bs s))) (hs : s.length = M) : Own (w.setCell ⟨g, k, none⟩ (.int .u8 (x.n : Int))) B 5 (.slice (some ⟨g, 0, none⟩) M C) (bv (bs (s.set k x))) := by
 have hl : (bv (bs s)).length = M := by rw [bvs_length, hs]
 have := Own.set_ h hl k (.int .u8 (x.n : Int))
 rwa [show (bv (bs s)).set k (.int .u8 (x.n : Int)) = bv (bs (s.set k x)) by simp [bv, bs, List.map_set]] at this
theorem Fld.ne_own {w : World} {gf g B M C : Nat} {xs : List Value} (hf : Fld w gf) (h : Own w B 5 (.slice (some ⟨g, 0, none⟩) M C) xs) : gf ≠ g := by
 rintro rfl
 rcases hf with hb | hb <;> exact own_ne h hb (by decide) rfl
theorem mul_f (gf : Nat) (x y : F8) (w : World) (hf : Fld w gf) :
  Calls Tryz.prog 71 #[.pointer (some ⟨gf, 0, none⟩), .int .u8 x.n, .int .u8 y.n] w fun e w' => e = .returned (.int .u8 (x * y).n) ∧ Fld w' gf ∧ Past w.heap.size gf w w' :=
 (mul_calls (some ⟨gf, 0, none⟩) x.n y.n x.h y.h w (FldP.of hf)).mono fun _ _ ⟨h1, h2, h3⟩ => ⟨h1, h2.fld, h3⟩
def Added (Bo gf g1 M C off : Nat) (s q : List F8) (c : F8) (w : World) (e : Ending) (w' : World) : Prop :=
 e = .returned (.tuple #[]) ∧ (∃ s', s'.length = s.length ∧ Eqv s' (padd s (pmul (mono off c) q)) ∧ Own w' Bo 5 (.slice (some ⟨g1, 0, none⟩) M C) (bv (bs s'))) ∧ Fld w' gf ∧ But w.heap.size (fun k => k = g1 ∨ k = gf) w w'
def Sofar (s t q : List F8) (off k : Nat) (c : F8) : Prop := t.length = s.length ∧ ∀ i, coef t i = coef s i + if off ≤ i ∧ i < off + k then c * coef q (i - off) else 0
theorem Sofar.start (s q : List F8) (off : Nat) (c : F8) : Sofar s s q off 0 c := ⟨rfl, fun i => by rw [if_neg (by omega), add_zero]⟩
theorem Sofar.at_ {s t q : List F8} {off k : Nat} {c : F8} (h : Sofar s t q off k c) : coef t (off + k) = coef s (off + k) := by rw [h.2, if_neg (by omega), add_zero]
theorem Sofar.step {s t q : List F8} {off k : Nat} {c : F8} (h : Sofar s t q off k c) (hk : off + k < s.length) : Sofar s (t.set (off + k) (coef t (off + k) + coef q k * c)) q off (k + 1) c := by
 refine ⟨by rw [List.length_set, h.1], fun i => ?_⟩
 rw [coef_set t (off + k) _ (by rw [h.1]; exact hk) i]
 by_cases e : i = off + k
 ·subst e
  rw [if_pos rfl, if_pos (by omega), h.at_, show off + k - off = k by omega, mul_comm]
 ·rw [if_neg e, h.2]
  congr 1
  by_cases e2 : off ≤ i ∧ i < off + k
  ·rw [if_pos e2, if_pos (by omega)]
  ·rw [if_neg e2, if_neg (by omega)]
theorem Sofar.all {s t q : List F8} {off : Nat} {c : F8} (h : Sofar s t q off q.length c) : Eqv t (padd s (pmul (mono off c) q)) := fun i => by
 rw [h.2, coef_padd, coef_mono_pmul]
 congr 1
 by_cases e : i < off
 ·rw [if_pos e, if_neg (by omega)]
 ·rw [if_neg e]
  by_cases e2 : i < off + q.length
  ·rw [if_pos (by omega)]
  ·rw [if_neg (by omega), coef_of_le (p := q) (by omega), mul_zero]
theorem add_zero_mono (s q : List F8) (off : Nat) : Eqv s (padd s (pmul (mono off 0) q)) := fun i => by
 rw [coef_padd, coef_mono_pmul, zero_mul]
 split <;> rw [add_zero]
set_option maxRecDepth 100000 in
set_option maxHeartbeats 2000000 in
theorem addTimes_calls (Bo gf g1 M C off ls cs : Nat) (A1 B : Option Addr) (s q : List F8) (n d : Nat) (c : F8) (w : World) (hf : Fld w gf) (hS : Own w Bo 5 (.slice (some ⟨g1, 0, none⟩) M C) (bv (bs s))) (hsl : s.length = M) (hl : q.length = n) (hA : 0 < n → A1 = some ⟨g1, off, none⟩)
  (hoff : off + n ≤ s.length) (hls : n ≤ ls) (hb : Bytes w B (bs q)) (hfar : q ≠ [] → ∀ a, B = some a → a.block ≠ g1 ∧ a.block ≠ gf) (hn : n ≤ 1000000) (_ : s.length ≤ 1000000) :
  Calls Tryz.prog 99 #[.pointer (some ⟨gf, 0, none⟩), .slice A1 ls cs, .slice B n d, .int .u8 c.n] w (Added Bo gf g1 M C off s q c w) := by
 have hne := Fld.ne_own hf hS
 have hbk := Own.blk hS
 by_cases c0 : c = 0
 ·have hx0 : ((c.n : Int) == 0) = true := by rw [c0]; rfl
  go_enter Tryz.func99, Tryz.ntmps99
  go_wp2
  refine bodyPost_ret (results_none rfl _ _ _) rfl ?_
  exact ⟨rfl, ⟨s, rfl, by rw [c0]; exact add_zero_mono s q off, hS⟩, hf, But.refl _ _ _⟩
 ·have hx0 : ((c.n : Int) == 0) = false := n_beq0 c0
  have HB := Lib.hid hb
  have HL := Lib.hid hl
  have HF := Lib.hid hf
  have HS := Lib.hid hS
  have HSL := Lib.hid hsl
  have HFar := Lib.hid hfar
  have HA := Lib.hid hA
  clear hb hl hf hS hfar hA hsl
  go_enter Tryz.func99, Tryz.ntmps99
  go_wp2
  go_loopw [14] (fun i wr => ∃ (k : Nat) (t : List F8), k ≤ n ∧ i = .int .i64 k ∧ Hid (Sofar s t q off k c) ∧ Hid (Own wr Bo 5 (.slice (some ⟨g1, 0, none⟩) M C) (bv (bs t))) ∧ Hid (Fld wr gf) ∧ Hid (But w.heap.size (fun k => k = g1 ∨ k = gf) w wr)) (fun i _ => n - (intOf i).toNat)
  case atStart => exact ⟨0, s, by omega, rfl, Lib.hid (Sofar.start s q off c), HS, HF, Lib.hid (But.refl _ _ _)⟩
  case round =>
   obtain ⟨k, t, hk, rfl, HT, HSr, HFr, HU⟩ := hrel
   by_cases hkk : k < n
   ·have hq0 : q ≠ [] := by intro e; have := HL.out; rw [e] at this; simp at this; omega
    have hbq := HU.out.bytes HB.out (fun h a ha hS => by have := HFar.out h a ha; omega)
    obtain ⟨b, o, rfl⟩ := where_ HB.out (by have := HL.out; omega)
    have hcell := cellAt hbq k (by have := HL.out; omega)
    obtain ⟨x, hx⟩ : ∃ x, coef q k = x := ⟨_, rfl⟩
    obtain ⟨y, hy⟩ : ∃ y, coef t (off + k) = y := ⟨_, rfl⟩
    have htl : off + k < t.length := by rw [HT.out.1]; omega
    have htM : t.length = M := by rw [HT.out.1, HSL.out]
    have HTM := Lib.hid htM
    have hc2 := own_cell HSr.out htM (k := off + k) (by omega)
    have hf2 := Own.frozenAt HSr.out (by rw [bvs_length, htM]) (off + k)
    have hg1 := (Own.blk HSr.out).2
    clear htM
    have HT2 : Hid (Sofar s (t.set (off + k) (y + x * c)) q off (k + 1) c) := Lib.hid (by rw [← hx, ← hy]; exact HT.out.step (by omega))
    rw [hx] at hcell
    rw [hy] at hc2
    have hkl : k < ls := by omega
    obtain rfl : A1 = some ⟨g1, off, none⟩ := HA.out (by omega)
    clear hx hy hbq hq0
    go_wp2_with fail
    go_region_with (first
     | (go_at_call 71; refine (mul_f gf x c _ (show Fld wr.drew gf from HFr.out)).mono ?_; rintro e w2 ⟨rfl, hF2, hP2⟩; have hc3 := (past_cell hP2 ⟨g1, off + k, none⟩ hg1 (by simp; omega)).trans (show wr.drew.cell? ⟨g1, off + k, none⟩ = _ from hc2); have HS2 := Lib.hid (own_keep (w' := w2) (HSr.out.drew) (FldP.of (show Fld wr.drew gf from HFr.out)) hP2); have hf3 := Own.frozenAt HS2.out (by rw [bvs_length, HTM.out]) (off + k); have HF2 := Lib.hid hF2; have HP2 := Lib.hid hP2; clear hF2 hP2)
     | (go_at_call 19; refine (add_still y (x * c) _).mono ?_; rintro e w3 ⟨rfl, rfl⟩))
    all_goals
     have HS3 : Hid (Own (w3.setCell ⟨g1, off + k, none⟩ (.int .u8 ((y + x * c).n : Int))) Bo 5 (.slice (some ⟨g1, 0, none⟩) M C) (bv (bs (t.set (off + k) (y + x * c))))) := Lib.hid (own_set HS2.out HTM.out)
     have HF3 : Hid (Fld (w3.setCell ⟨g1, off + k, none⟩ (.int .u8 ((y + x * c).n : Int))) gf) := Lib.hid (HF2.out.imp (fun h => h.far hne _) (fun h => h.far hne _))
     have HU3 : Hid (But w.heap.size (fun k => k = g1 ∨ k = gf) w (w3.setCell ⟨g1, off + k, none⟩ (.int .u8 ((y + x * c).n : Int)))) := Lib.hid ((HU.out.drew.trans (But.of_past (HP2.out.mono HU.out.size) (.inr rfl))).setCell (p := ⟨g1, off + k, none⟩) (.inl (.inl rfl)) _)
     clear HA hc3 hf3 hc2 hf2 hcell
     go_wp2
     go_roundw
     case rel => exact ⟨k + 1, _, by omega, by go_num, HT2, HS3, HF3, HU3⟩
     case measure => simp [intOf]; omega
   ·obtain rfl : k = n := by omega
    go_wp2
    go_end0
    exact ⟨rfl, ⟨t, HT.out.1, by have := HT.out; rw [← HL.out] at this; exact this.all, HSr.out⟩, HFr.out, HU.out⟩
end Go.Proofs.YtjoghbmedfmioaaGreat.Poly
