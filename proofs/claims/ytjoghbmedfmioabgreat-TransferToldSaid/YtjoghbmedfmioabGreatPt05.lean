/- Of the program, joined: PolyCode1, RdCode, RdRef, RdRef2, RdApp, Round. -/
import Derived.Test.YtjoghbmedfmioabGreatPt03
import Derived.Test.YtjoghbmedfmioabGreatPt04
import Derived.Laws.Cover3
import Derived.Test.YtjoghbmedfmioabGreatPt01
import Derived.Lib.AppendZeros
import Derived.Lib.AppendStr
import Derived.RangeFuncOwn
import Derived.StillTailTactics
import Derived.OrdersIn
import Derived.OrdersHeld
import Derived.Deep.RegionHeld3
import Derived.RegionTactic
import Derived.Test.YtjoghbmedfmioabGreatRows
namespace Go.Proofs.YtjoghbmedfmioabGreat.Poly
open Go.RowKit Go.Shelf F8 GF
attribute [local go_sem] Oper.semAt_some
set_option maxHeartbeats 1000000 in
theorem downward_calls (A : Option Addr) (m c : Nat) (w : World) :
  Calls Tryz.prog 88 #[.slice A m c] w fun e w' => e = .returned (.func (.func 100) #[] #[.pointer (some ⟨w.heap.size, 0, none⟩)]) ∧ w' = w.alloc (.cells #[.slice A m c] 35) := by
 go_enter Tryz.func88, Tryz.ntmps88
 go_wp2
 go_ret
 exact ⟨rfl, rfl⟩
theorem eql_nil (a : Option Addr) (l c : Nat) (w : World) : (binOp .eql 35 (.slice a l c) (.slice none 0 0)).run Tryz.prog w = .ok (.bool a.isNone) w := by
 simp only [binOp]
 simp [run_equal_slice_nil w 35 5 a l c Tryz.underlying35]
theorem len_top {p : List F8} {k : Nat} (hx : ¬ coef p k = 0) (h : Bdd p (k + 1)) : len p = k + 1 := by
 have h1 := len_le_of_bdd h
 have h2 : ¬ len p ≤ k := fun e => hx (bdd_iff.2 e k (Nat.le_refl _))
 omega
set_option maxRecDepth 100000 in
set_option maxHeartbeats 2000000 in
theorem degree_calls (A : Option Addr) (p : List F8) (m c : Nat) (w : World) (hl : p.length = m) (hb : Bytes w A (bs p)) (_ : m ≤ c) (hm : m ≤ 1000000) :
  Calls Tryz.prog 98 #[.slice A m c] w fun e w' => e = .returned (.int .i64 ((len p : Int) - 1)) ∧ Below w.heap.size w w' := by
 refine (callsIn_wide (n := 9)).1 (callsIn_of_wp_marks Tryz.func98 rfl trivial ?_ rfl)
 simp only [Tryz.ntmps98, List.size_toArray, List.length_cons, List.length_nil, Nat.reduceAdd, Nat.reduceSub, Array.replicate_succ, Array.replicate_zero, List.push_toArray, List.append_toArray, List.nil_append, List.cons_append]
 refine wpIn_wide.2 ?_
 go_wp2_with (go_at_call 88; refine (downward_calls _ _ _ _).mono ?_; rintro e w' ⟨rfl, rfl⟩)
 obtain ⟨w1, hw1⟩ : ∃ w1, (w.alloc (.cells #[.int .i64 0] 3)).alloc (.cells #[.slice A m c] 35) = w1 := ⟨_, rfl⟩
 have hB1 : Below w.heap.size w w1 := by rw [← hw1]; exact ((Below.refl _ w).alloc (Nat.le_refl _) _).alloc (by simp) _
 have hr1 : Block w1 w.heap.size 3 #[.int .i64 0] := by rw [← hw1]; exact (Block.new w _ _).alloc _
 have hbx1 : Block w1 (w.heap.size + 1) 35 #[.slice A m c] := by
  rw [← hw1]; have := Block.new (w.alloc (.cells #[.int .i64 0] 3)) 35 #[.slice A m c]; rwa [World.size_alloc] at this
 have hb1 : Bytes w1 A (bs p) := hb.below hB1
 have hsz : w1.heap.size = w.heap.size + 2 := by rw [← hw1]; simp
 rw [hw1]
 clear hw1
 refine wpIn_wide.1 (wpIn_down (n := 9) (by omega) (Bn := w.heap.size + 1) (m := m) (c := c) (A := A) hm rfl
  (fun k q W => q = p ∧ Bdd p k ∧ Bytes W A (bs p) ∧ Block W (w.heap.size + 1) 35 #[.slice A m c] ∧ Block W w.heap.size 3 #[.int .i64 0] ∧ Below w.heap.size w W)
  (fun j W => j = .ret ∧ Block W w.heap.size 3 #[.int .i64 ((len p : Int) - 1)] ∧ Below w.heap.size w W)
  (fun k q W W' ⟨h1, h2, h3, h4, h5, h6⟩ ht => ⟨h1, h2, ht.bytes h3, ht.block h4, ht.block h5, h6.trans (ht.below.mono (by omega))⟩)
  (fun j W W' ⟨h1, h2, h3⟩ ht => ⟨h1, ht.block h2, h3.trans (ht.below.mono (by omega))⟩)
  (fun k q W ⟨h1, h2, h3, h4, h5, h6⟩ => ⟨by rw [h1, hl], by rw [h1]; exact h3, h4.cell 0⟩)
  p ⟨rfl, by rw [← hl]; exact bdd_length p, hb1, hbx1, hr1, hB1⟩
  ?a1 ?assign ?body ?done ?stop)
 case assign =>
  intro l k x W K hK
  gi_wp2
  exact hK
 case body =>
  rintro l k q W hk ⟨rfl, h2, h3, h4, h5, h6⟩ hsW
  have hc5 := h5.cell 0
  have hf5 := h5.frozen 0
  by_cases hx : coef q k = 0
  ·have hx0 : (((coef q k).n : Int) == 0) = true := by rw [hx]; rfl
   have hx1 : (((coef q k).n : Int) != 0) = false := by rw [hx]; rfl
   gi_wp2
   refine ⟨keeps_below (Below.refl _ _), q, rfl, fun i hi => ?_, h3, h4, h5, h6⟩
   rcases Nat.eq_or_lt_of_le hi with rfl | hi
   ·exact hx
   ·exact h2 i hi
  ·have hx0 : (((coef q k).n : Int) == 0) = false := n_beq0 hx
   have hx1 : (((coef q k).n : Int) != 0) = true := by simp [bne, hx0]
   have hlen : len q = k + 1 := len_top hx h2
   gi_wp2
   exact ⟨(KeepsOthers.setCell _ _ _).from _, rfl, by rw [hlen, show (((k + 1 : Nat) : Int) - 1) = (k : Int) by omega]; exact h5.set_ 0 _, h6.setCell (p := ⟨w.heap.size, 0, none⟩) (Nat.le_refl _) _⟩
 case done =>
  rintro q W ⟨rfl, h2, h3, h4, h5, h6⟩ hD
  have hc5 := h5.cell 0
  have hf5 := h5.frozen 0
  go_wp2
  have hK := (KeepsOthers.setCell W ⟨w.heap.size, 0, none⟩ (.int .i64 (-1))).same _ _ hD rfl
  refine ⟨by simp, .inl ⟨_, _, rfl, run_takeDeferred hK, ?_⟩⟩
  have ht : Turn w.heap.size (W.setCell ⟨w.heap.size, 0, none⟩ (.int .i64 (-1))) _ := Turn.put hK rfl (by omega) (.deferred none)
  have hc6 := ht.cell ((h5.set_ 0 (.int .i64 (-1))).cell 0)
  have hlen : len q = 0 := len_zero.2 (bdd_zero.1 h2)
  refine ⟨.int .i64 (-1), ?_, by rw [hlen]; rfl, (h6.setCell (p := ⟨w.heap.size, 0, none⟩) (Nat.le_refl _) _).trans ht.below⟩
  simp [results, Tryz.results98, go_sem, hc6]
 case stop =>
  rintro j W ⟨rfl, h2, h3⟩ hD
  refine wpIn_wide.2 ?_
  go_wp2
  refine ⟨by simp, .inl ⟨_, _, rfl, run_takeDeferred hD, ?_⟩⟩
  have ht : Turn w.heap.size W _ := Turn.put hD rfl (by omega) (.deferred none)
  have hc6 := ht.cell (h2.cell 0)
  refine ⟨.int .i64 ((len p : Int) - 1), ?_, rfl, h3.trans ht.below⟩
  simp [results, Tryz.results98, go_sem, hc6]
theorem trim_take_len (p : List F8) : trim p = p.take (len p) :=
 trim_take p (len p) (len_le p) (fun i h1 _ => bdd_len p i h1) (by
  rcases Nat.eq_zero_or_pos (len p) with h | h
  ·exact .inl h
  ·exact .inr (lead h))
structure Cut (A A2 : Option Addr) : Prop where
 same : ∀ b off, A = some ⟨b, off, none⟩ → A2 = A
 nil : A = none → A2 = none
theorem Cut.bytes {A A2 : Option Addr} {p : List F8} {w : World} (h : Cut A A2) (hb : Bytes w A (bs p)) : Bytes w A2 (bs (trim p)) := by
 by_cases h0 : 0 < p.length
 ·obtain ⟨b, off, e⟩ := where_ hb h0
  rw [h.same b off e, trim_take_len]
  exact bytes_take hb _
 ·have : p = [] := List.eq_nil_of_length_eq_zero (by omega)
  subst this
  exact Bytes.nil _ _
theorem Cut.own {A A2 : Option Addr} {p : List F8} {w : World} {B m c : Nat} {e : TypeId} (h : Cut A A2) (hl : p.length = m) (ho : Own w B e (.slice A m c) (bv (bs p))) : Own w B e (.slice A2 (len p) c) (bv (bs (trim p))) := by
 have hlen : (bv (bs (trim p))).length = len p := by rw [bvs_length]; rfl
 refine ⟨by rw [Nat.mul_one], ?_⟩
 rw [hlen]
 rcases ho.2 with ⟨h1, h2⟩ | ⟨g, cap, cur, h1, h2, h3, h4, h5, h6, h7⟩
 ·injection h1 with h1 h3 h4
  subst h1 h3 h4
  have : p = [] := List.eq_nil_of_length_eq_zero hl
  subst this
  rw [h.nil rfl]
  exact .inl ⟨rfl, rfl⟩
 ·injection h1 with h1 h8 h9
  subst h1 h9
  rw [h.same g 0 rfl]
  have hle : len p ≤ m := by have := len_le p; omega
  rw [bvs_length, hl] at h7 h4
  refine .inr ⟨g, c, cur, rfl, h2, h3, by omega, h5, h6, ?_⟩
  rw [trim_take_len, show bv (bs (p.take (len p))) = (bv (bs p)).take (len p) by simp [bv, bs, List.map_take], ← h7, List.take_take]
  congr 1
  omega
theorem cut_run (A : Option Addr) (m c n : Nat) (hn : n ≤ m) (hc : m ≤ c) :
  ∃ A2, (∀ w, (Instr.slice 35 (.slice A m c) none (some (.int .i64 (n : Int))) none).run Tryz.prog w = .ok (.slice A2 n c) w) ∧ Cut A A2 := by
 refine ⟨if c = 0 then A else A.map (·.add (0 * 1)), fun w => ?_, fun b off e => ?_, fun e => ?_⟩
 ·obtain ⟨i, hi, _, hi2, _⟩ := info_parts info_u8
  simp [Instr.slice, Instr.sliceBounds, Instr.sliceBound, run_underlying Tryz.underlying35, asIntOf, sizeOf, typeInfo, Sem.run_bind, hi]
  intro h; omega
 ·subst e
  split
  ·rfl
  ·simp only [Option.map_some, Nat.zero_mul, addr_add, Nat.add_zero]
 ·subst e
  split <;> rfl
set_option maxHeartbeats 1000000 in
theorem trimmed_calls (A : Option Addr) (p : List F8) (m c : Nat) (w : World) (hl : p.length = m) (hb : Bytes w A (bs p)) (hc : m ≤ c) (hm : m ≤ 1000000) :
  Calls Tryz.prog 87 #[.slice A m c] w fun e w' => ∃ A2, e = .returned (.slice A2 (len p) c) ∧ Cut A A2 ∧ Below w.heap.size w w' := by
 subst hl
 have hle := len_le p
 obtain ⟨A2, hs, hcut⟩ := cut_run A p.length c (len p) hle hc
 obtain ⟨n, hn⟩ : ∃ n, len p = n := ⟨_, rfl⟩
 rw [hn] at hs hle ⊢
 have HN := Lib.hid hn
 clear hn
 go_enter Tryz.func87, Tryz.ntmps87
 go_wp2_with (go_at_call 98; refine (degree_calls _ p _ _ _ rfl hb hc hm).mono ?_; rintro e w' ⟨rfl, hB⟩; rw [HN.out])
 go_ret
 exact ⟨A2, rfl, hcut, hB⟩
def NewRes (pf : Option Addr) (w : World) (e : Ending) (w' : World) : Prop :=
 ∃ g, e = .returned (.pointer (some ⟨g, 0, none⟩)) ∧ (pf = some ⟨g, 0, none⟩ ∧ w = w' ∨ pf = none ∧ g = w.heap.size ∧ w' = w.alloc (.cells (fcells 0 0 0) 80))
theorem orNew_calls (pf : Option Addr) (w : World) (hf : FldP w pf) :
  Calls Tryz.prog 82 #[.pointer pf] w (NewRes pf w) := by
 rcases hf with rfl | ⟨g, rfl, _⟩
 ·go_enter Tryz.func82, Tryz.ntmps82
  go_wp2_with (go_at_call 9; refine (new_calls _).mono ?_; rintro e w' ⟨rfl, rfl⟩)
  go_ret
  exact ⟨_, rfl, .inr ⟨rfl, rfl, rfl⟩⟩
 ·go_enter Tryz.func82, Tryz.ntmps82
  go_wp2
  go_ret
  exact ⟨_, rfl, .inl ⟨rfl, rfl⟩⟩
set_option maxHeartbeats 1000000 in
theorem clone_calls (A : Option Addr) (p : List F8) (m c : Nat) (w : World) (hl : p.length = m) (hb : Bytes w A (bs p)) (_ : m ≤ c) (hm : m ≤ 1000000) :
  Calls Tryz.prog 53 #[.slice A m c] w fun e w' => Res w w' e p := by
 have HB := Lib.hid hb
 cases A with
 | none =>
  have hnil : ∀ w, (binOp .eql 35 (.slice none m c) (.slice none 0 0)).run Tryz.prog w = .ok (.bool true) w := fun w => eql_nil none m c w
  have h0 : p = [] := by
   rcases p with _ | ⟨x, p⟩
   ·rfl
   ·obtain ⟨b, off, e⟩ := where_ hb (by simp)
    cases e
  clear hb
  go_enter Tryz.func53, Tryz.ntmps53
  go_wp2
  go_ret
  subst h0
  exact Res.mk (Own.nil _ _ _) (Below.refl _ _)
 | some a =>
  have hnil : ∀ w, (binOp .eql 35 (.slice (some a) m c) (.slice none 0 0)).run Tryz.prog w = .ok (.bool false) w := fun w => eql_nil (some a) m c w
  have hlv := bvs_length p
  rw [hl] at hlv
  have HL := Lib.hid hlv
  clear hb hl hlv
  go_enter Tryz.func53, Tryz.ntmps53
  go_wp2_with (at_builtin; refine wpList_app _ rfl (.tmp 5) (.tmp 6) _ rfl w.heap.size 5 _ 1 Tryz.underlying35 info_u8 rfl (by omega) (.slice (some ⟨w.heap.size, 0, none⟩) 0 0) [] rfl (Own.lit w w.heap.size 5 #[] 0 (Nat.le_refl _) rfl (by decide)) (some a) m c (bv (bs p)) rfl HL.out (HB.out.alloc _).row (bv_one _) (by simp; omega) (by simp) ?_; intro v1 w1 hown1 hg1 _)
  have hbel : Below w.heap.size w w1 := ((Below.refl _ w).alloc (Nat.le_refl _) _).trans ((Own.lit w w.heap.size 5 #[] 0 (Nat.le_refl _) rfl (by decide)).grew (by simp) hg1)
  go_ret
  exact Res.mk (by simpa using hown1) hbel
def seenC (l : List F8) : Array Value := Array.ofFn (n := 256) fun i => .bool (l.any fun x => x.n == i.val)
theorem zero_seen (w : World) : (zeroValue 119).run Tryz.prog w = .ok (.agg (seenC [])) w := by kernel_rfl
theorem seenC_get (l : List F8) (x : F8) : (seenC l)[x.n]? = some (.bool (l.any fun y => y.n == x.n)) := by
 have := x.h
 simp [seenC, this]
theorem seenC_set (l : List F8) (x : F8) : (seenC l).setIfInBounds x.n (.bool true) = seenC (l ++ [x]) := by
 apply Array.ext
 ·simp [seenC]
 ·intro i h1 h2
  have h3 : i < (seenC l).size := by simpa using h1
  rw [Array.getElem_setIfInBounds h3]
  simp only [seenC, Array.getElem_ofFn, List.any_append, List.any_cons, List.any_nil, Bool.or_false]
  by_cases e : x.n = i
  ·simp [e]
  ·have : (x.n == i) = false := by simpa using e
   rw [if_neg e, this, Bool.or_false]
theorem any_n (l : List F8) (x : F8) : (l.any fun y => y.n == x.n) = decide (x ∈ l) := by
 rw [Bool.eq_iff_iff]
 simp only [List.any_eq_true, beq_iff_eq, decide_eq_true_eq]
 exact ⟨fun ⟨y, hy, e⟩ => by rw [← F8.n_inj.1 e]; exact hy, fun h => ⟨x, h, rfl⟩⟩
theorem nodup_snoc {l : List F8} {x : F8} : (l ++ [x]).Nodup ↔ l.Nodup ∧ x ∉ l := by
 rw [List.nodup_append]
 constructor
 ·rintro ⟨h1, _, h2⟩
  exact ⟨h1, fun hx => h2 x hx x (by simp) rfl⟩
 ·rintro ⟨h1, h2⟩
  exact ⟨h1, by simp, fun a ha b hb e => by simp at hb; subst hb; subst e; exact h2 ha⟩
theorem not_nodup_of_take {p : List F8} {k : Nat} (h : ¬ (p.take k).Nodup) : ¬ p.Nodup := fun hp => h (hp.sublist (List.take_sublist _ _))
set_option maxRecDepth 100000 in
set_option maxHeartbeats 1000000 in
theorem twice_calls (A : Option Addr) (p : List F8) (m c : Nat) (w : World) (hl : p.length = m) (hb : Bytes w A (bs p)) (_ : m ≤ c) (hm : m ≤ 1000000) :
  Calls Tryz.prog 81 #[.slice A m c] w fun e w' => e = .returned (.bool (!decide p.Nodup)) ∧ Below w.heap.size w w' := by
 have hz := zero_seen
 have HB := Lib.hid hb
 clear hb
 go_enter Tryz.func81, Tryz.ntmps81
 go_wp2
 go_loopw [8] (fun i wr => ∃ k : Nat, k ≤ m ∧ i = .int .i64 k ∧ Hid (Block wr w.heap.size 119 (seenC (p.take k))) ∧ Hid ((p.take k).Nodup) ∧ Below w.heap.size w wr) (fun i _ => m - (intOf i).toNat)
 case atStart => exact ⟨0, by omega, rfl, Lib.hid (Block.new w _ _), Lib.hid (by simp), (Below.refl _ w).alloc (Nat.le_refl _) _⟩
 case round =>
  obtain ⟨k, hk, rfl, HS, HN, HW⟩ := hrel
  by_cases hkk : k < m
  ·obtain ⟨b, off, rfl⟩ := where_ HB.out (by omega)
   have hcell := cellAt (HB.out.below HW) k (by omega)
   obtain ⟨x, hx⟩ : ∃ x, coef p k = x := ⟨_, rfl⟩
   rw [hx] at hcell
   have hxb := f8_bounds x
   have ht : p.take (k + 1) = p.take k ++ [x] := by rw [take_succ' p (by omega), ← coef_of_lt (by omega), hx]
   have HT := Lib.hid ht
   have hs := (HS.out.cell x.n).trans (seenC_get _ _)
   rw [any_n] at hs
   have hfz := HS.out.frozen x.n
   clear hx ht
   by_cases hin : x ∈ p.take k
   ·rw [decide_eq_true hin] at hs
    have HNO : Hid (decide p.Nodup = false) := Lib.hid (decide_eq_false (not_nodup_of_take (k := k + 1) (by rw [HT.out, nodup_snoc]; exact fun h => h.2 hin)))
    clear hin
    go_wp2
    go_ret
    exact ⟨by rw [HNO.out]; rfl, HW⟩
   ·rw [decide_eq_false hin] at hs
    have HN2 : Hid ((p.take (k + 1)).Nodup) := Lib.hid (by rw [HT.out, nodup_snoc]; exact ⟨HN.out, hin⟩)
    have HS2 : Hid (Block (wr.setCell ⟨w.heap.size, x.n, none⟩ (.bool true)) w.heap.size 119 (seenC (p.take (k + 1)))) := Lib.hid (by rw [HT.out, ← seenC_set]; exact HS.out.set_ _ _)
    clear hin
    go_wp2
    go_roundw
    case rel => exact ⟨k + 1, by omega, by go_num, HS2, HN2, HW.setCell (p := ⟨w.heap.size, x.n, none⟩) (Nat.le_refl _) _⟩
    case measure => simp [intOf]; omega
  ·obtain rfl : k = m := by omega
   have HY : Hid (decide p.Nodup = true) := Lib.hid (decide_eq_true (by have := HN.out; rwa [List.take_of_length_le (by omega)] at this))
   clear HN hl hkk
   go_wp2
   go_ret
   exact ⟨by rw [HY.out]; rfl, HW⟩
end Go.Proofs.YtjoghbmedfmioabGreat.Poly

namespace Go.Proofs.YtjoghbmedfmioabGreat.Rd
open Go.RowKit Go.Shelf F8 Poly GF
attribute [local go_sem] Oper.semAt_some
set_option maxHeartbeats 1000000 in
theorem equal_calls (A B : Option Addr) (p q : List F8) (m n c d : Nat) (w : World) (hm : p.length = m) (hn : q.length = n) (hb : Bytes w A (bs p)) (hb2 : Bytes w B (bs q)) :
  Calls Tryz.prog 59 #[.slice A m c, .slice B n d] w fun e w' => e = .returned (.bool (decide (p = q))) ∧ w = w' := by
 have c1 := conv_f hb m c hm
 have c2 := conv_f hb2 n d hn
 have HE : Hid (((str (bs p)).toList == (str (bs q)).toList) = decide (p = q)) := Lib.hid (by
  rw [Bool.eq_iff_iff, beq_iff_eq, decide_eq_true_iff, ByteArray.toList_eq, ByteArray.toList_eq, str_data, str_data]
  constructor
  ·intro h
   refine bs_inj.1 (str_inj (bs_lt p) (bs_lt q) ?_)
   unfold str; rw [h]
  ·intro h; rw [h])
 clear hb hb2
 go_enter Tryz.func59, Tryz.ntmps59
 go_wp2
 go_ret
 exact ⟨GF.ret_bool HE.out, rfl⟩
def codeC (g : Nat) (A : Option Addr) (n c k : Nat) : Array Value := #[.pointer (some ⟨g, 0, none⟩), .slice A n c, .int .i64 k]
theorem isNone_calls {w : World} {b g : Nat} {A : Option Addr} {n c k : Nat} (h : Block w b 102 (codeC g A n c k)) (hk : 1 ≤ k) :
  Calls Tryz.prog 55 #[.pointer (some ⟨b, 0, none⟩)] w fun e w' => e = .returned (.bool false) ∧ w = w' := by
 have h2 := h.cell 2
 simp only [codeC] at h2
 have hk2 : ((k : Int) == 0) = false := by simp; omega
 go_enter Tryz.func55, Tryz.ntmps55
 go_wp2
 go_ret
 exact ⟨rfl, rfl⟩
set_option maxRecDepth 100000 in
set_option maxHeartbeats 1000000 in
theorem repeat_calls (A : Option Addr) (p : List F8) (m c : Nat) (w : World) (hl : p.length = m) (hb : Bytes w A (bs p)) (hm : m ≤ 1000000) :
  Calls Tryz.prog 52 #[.slice A m c] w fun e w' => e = .returned (.bool (!decide p.Nodup)) ∧ Below w.heap.size w w' := by
 have hz := zero_seen
 have HB := Lib.hid hb
 clear hb
 go_enter Tryz.func52, Tryz.ntmps52
 go_wp2
 go_loopw [8] (fun i wr => ∃ k : Nat, k ≤ m ∧ i = .int .i64 k ∧ Hid (Block wr w.heap.size 119 (seenC (p.take k))) ∧ Hid ((p.take k).Nodup) ∧ Below w.heap.size w wr) (fun i _ => m - (intOf i).toNat)
 case atStart => exact ⟨0, by omega, rfl, Lib.hid (Block.new w _ _), Lib.hid (by simp), (Below.refl _ w).alloc (Nat.le_refl _) _⟩
 case round =>
  obtain ⟨k, hk, rfl, HS, HN, HW⟩ := hrel
  by_cases hkk : k < m
  ·obtain ⟨b, off, rfl⟩ := where_ HB.out (by omega)
   have hcell := cellAt (HB.out.below HW) k (by omega)
   obtain ⟨x, hx⟩ : ∃ x, coef p k = x := ⟨_, rfl⟩
   rw [hx] at hcell
   have hxb := f8_bounds x
   have ht : p.take (k + 1) = p.take k ++ [x] := by rw [take_succ' p (by omega), ← coef_of_lt (by omega), hx]
   have HT := Lib.hid ht
   have hs := (HS.out.cell x.n).trans (seenC_get _ _)
   rw [any_n] at hs
   have hfz := HS.out.frozen x.n
   clear hx ht
   by_cases hin : x ∈ p.take k
   ·rw [decide_eq_true hin] at hs
    have HNO : Hid (decide p.Nodup = false) := Lib.hid (decide_eq_false (not_nodup_of_take (k := k + 1) (by rw [HT.out, nodup_snoc]; exact fun h => h.2 hin)))
    clear hin
    go_wp2
    go_ret
    exact ⟨by rw [HNO.out]; rfl, HW⟩
   ·rw [decide_eq_false hin] at hs
    have HN2 : Hid ((p.take (k + 1)).Nodup) := Lib.hid (by rw [HT.out, nodup_snoc]; exact ⟨HN.out, hin⟩)
    have HS2 : Hid (Block (wr.setCell ⟨w.heap.size, x.n, none⟩ (.bool true)) w.heap.size 119 (seenC (p.take (k + 1)))) := Lib.hid (by rw [HT.out, ← seenC_set]; exact HS.out.set_ _ _)
    clear hin
    go_wp2
    go_roundw
    case rel => exact ⟨k + 1, by omega, by go_num, HS2, HN2, HW.setCell (p := ⟨w.heap.size, x.n, none⟩) (Nat.le_refl _) _⟩
    case measure => simp [intOf]; omega
  ·obtain rfl : k = m := by omega
   have HY : Hid (decide p.Nodup = true) := Lib.hid (decide_eq_true (by have := HN.out; rwa [List.take_of_length_le (by omega)] at this))
   clear HN hl hkk
   go_wp2
   go_ret
   exact ⟨by rw [HY.out]; rfl, HW⟩
def zs (l : List Int) : List Value := l.map fun z => Value.int .i64 z
theorem zs_length (l : List Int) : (zs l).length = l.length := by simp [zs]
theorem zs_at {w : World} {A : Option Addr} {l : List Int} (h : Row w A (zs l)) {k : Nat} (hk : k < l.length) : ∃ b off, A = some ⟨b, off, none⟩ ∧ w.cell? ⟨b, off + k, none⟩ = some (.int .i64 l[k]) :=
 h k _ (by simp [zs, hk])
def seenI (l : List Int) : Array Value := Array.ofFn (n := 256) fun i => .bool (l.any fun x => x == (i.val : Int))
theorem zero_seenI (w : World) : (zeroValue 119).run Tryz.prog w = .ok (.agg (seenI [])) w := by kernel_rfl
theorem seenI_get (l : List Int) (x : Nat) (hx : x < 256) : (seenI l)[x]? = some (.bool (decide ((x : Int) ∈ l))) := by
 have e : (l.any fun y => y == (x : Int)) = decide ((x : Int) ∈ l) := by
  rw [Bool.eq_iff_iff]
  simp only [List.any_eq_true, beq_iff_eq, decide_eq_true_eq]
  exact ⟨fun ⟨y, hy, e⟩ => by rw [← e]; exact hy, fun h => ⟨_, h, rfl⟩⟩
 simp [seenI, hx]
 simpa using e
theorem seenI_set (l : List Int) (x : Nat) : (seenI l).setIfInBounds x (.bool true) = seenI (l ++ [(x : Int)]) := by
 apply Array.ext
 ·simp [seenI]
 ·intro i h1 h2
  have h3 : i < (seenI l).size := by simpa using h1
  rw [Array.getElem_setIfInBounds h3]
  simp only [seenI, Array.getElem_ofFn, List.any_append, List.any_cons, List.any_nil, Bool.or_false]
  by_cases e : x = i
  ·simp [e]
  ·have : ((x : Int) == (i : Int)) = false := by simp; omega
   rw [if_neg e, this, Bool.or_false]
theorem okP_take {n : Nat} {pl : List Int} {k : Nat} (hk : k < pl.length) (h : OkP n (pl.take k)) : OkP n (pl.take (k + 1)) ↔ (0 ≤ pl[k] ∧ pl[k] < (n : Int)) ∧ pl[k] ∉ pl.take k := by
 rw [take_succ' pl hk]
 unfold OkP
 rw [List.nodup_append]
 constructor
 ·rintro ⟨h1, _, _, h3⟩
  exact ⟨h1 _ (List.mem_append.2 (.inr (List.mem_singleton.2 rfl))), fun hx => h3 _ hx _ (List.mem_singleton.2 rfl) rfl⟩
 ·rintro ⟨h1, h2⟩
  refine ⟨fun i hi => ?_, h.2, by simp, fun a ha b hb e => by simp at hb; subst hb; subst e; exact h2 ha⟩
  rcases List.mem_append.1 hi with hi | hi
  ·exact h.1 i hi
  ·simp at hi; subst hi; exact h1
theorem okP_of_take {n : Nat} {pl : List Int} (k : Nat) (h : OkP n pl) : OkP n (pl.take k) := ⟨fun i hi => h.1 i (List.mem_of_mem_take hi), h.2.sublist (List.take_sublist _ _)⟩
instance (n : Nat) (pl : List Int) : Decidable (OkP n pl) := inferInstanceAs (Decidable (_ ∧ _))
set_option maxRecDepth 100000 in
set_option maxHeartbeats 2000000 in
theorem have_calls (A : Option Addr) (n c : Nat) (hn : n ≤ 256) (B : Option Addr) (pl : List Int) (m d : Nat) (w : World) (hl : pl.length = m) (hb : Row w B (zs pl)) (hm : m ≤ 1000000000) :
  Calls Tryz.prog 56 #[.slice A n c, .slice B m d] w fun e w' => e = .returned (.bool (decide (OkP n pl))) ∧ Below w.heap.size w w' := by
 have hz := zero_seenI
 have HB := Lib.hid hb
 clear hb
 go_enter Tryz.func56, Tryz.ntmps56
 go_wp2
 go_loopw [10] (fun i wr => ∃ k : Nat, k ≤ m ∧ i = .int .i64 k ∧ Hid (Block wr w.heap.size 119 (seenI (pl.take k))) ∧ Hid (OkP n (pl.take k)) ∧ Below w.heap.size w wr) (fun i _ => m - (intOf i).toNat)
 case atStart => exact ⟨0, by omega, rfl, Lib.hid (Block.new w _ _), Lib.hid ⟨by simp, by simp⟩, (Below.refl _ w).alloc (Nat.le_refl _) _⟩
 case round =>
  obtain ⟨k, hk, rfl, HS, HN, HW⟩ := hrel
  by_cases hkk : k < m
  ·obtain ⟨b, off, rfl, hcell⟩ := zs_at (HB.out.below HW) (k := k) (by omega)
   have hiff := okP_take (n := n) (by omega : k < pl.length) HN.out
   have hout : ¬ OkP n (pl.take (k + 1)) → decide (OkP n pl) = false := fun h => decide_eq_false fun h2 => h (okP_of_take (k + 1) h2)
   have HT : Hid (pl.take (k + 1) = pl.take k ++ [pl[k]]) := Lib.hid (take_succ' pl (by omega))
   obtain ⟨z, hz2⟩ : ∃ z, pl[k] = z := ⟨_, rfl⟩
   rw [hz2] at hcell hiff HT
   have HI := Lib.hid hiff
   have HOUT := Lib.hid hout
   clear hz2 hiff hout
   by_cases h0 : z < 0
   ·have HNO : Hid (decide (OkP n pl) = false) := Lib.hid (HOUT.out (by rw [HI.out]; rintro ⟨⟨h, _⟩, _⟩; omega))
    go_wp2
    go_ret
    exact ⟨by rw [HNO.out]; rfl, HW⟩
   by_cases h1 : (n : Int) ≤ z
   ·have HNO : Hid (decide (OkP n pl) = false) := Lib.hid (HOUT.out (by rw [HI.out]; rintro ⟨⟨_, h⟩, _⟩; omega))
    go_wp2
    go_ret
    exact ⟨by rw [HNO.out]; rfl, HW⟩
   obtain ⟨x, rfl⟩ : ∃ x : Nat, z = (x : Int) := ⟨z.toNat, by omega⟩
   have hx : x < 256 := by omega
   have hxn : (x : Int) < (n : Int) := by omega
   have hs := (HS.out.cell x).trans (seenI_get _ x hx)
   have hfz := HS.out.frozen x
   clear h0 h1
   by_cases hin : (x : Int) ∈ pl.take k
   ·rw [decide_eq_true hin] at hs
    have HNO : Hid (decide (OkP n pl) = false) := Lib.hid (HOUT.out (by rw [HI.out]; rintro ⟨_, h⟩; exact h hin))
    clear hin
    go_wp2
    go_ret
    exact ⟨by rw [HNO.out]; rfl, HW⟩
   ·rw [decide_eq_false hin] at hs
    have HN2 : Hid (OkP n (pl.take (k + 1))) := Lib.hid (by rw [HI.out]; exact ⟨⟨by omega, hxn⟩, hin⟩)
    have HS2 : Hid (Block (wr.setCell ⟨w.heap.size, x, none⟩ (.bool true)) w.heap.size 119 (seenI (pl.take (k + 1)))) := Lib.hid (by rw [HT.out, ← seenI_set]; exact HS.out.set_ _ _)
    clear hin
    go_wp2
    go_roundw
    case rel => exact ⟨k + 1, by omega, by go_num, HS2, HN2, HW.setCell (p := ⟨w.heap.size, x, none⟩) (Nat.le_refl _) _⟩
    case measure => simp [intOf]; omega
  ·obtain rfl : k = m := by omega
   have HY : Hid (decide (OkP n pl) = true) := Lib.hid (decide_eq_true (by have := HN.out; rwa [List.take_of_length_le (by omega)] at this))
   clear HN hl hkk
   go_wp2
   go_ret
   exact ⟨by rw [HY.out]; rfl, HW⟩
end Go.Proofs.YtjoghbmedfmioabGreat.Rd

namespace Go.Proofs.YtjoghbmedfmioabGreat.Rd
open Go.RowKit Go.Shelf F8 Poly GF
attribute [local go_sem] Oper.semAt_some
theorem drew_row {w wr : World} {A : Option Addr} {l : List Value} (h : Row w A l) (hd : ∃ n, wr = w.drewN n) : Row wr A l := by obtain ⟨n, rfl⟩ := hd; exact h.drewN n
theorem drew_more {w wr : World} (hd : ∃ n, wr = w.drewN n) : ∃ n, wr.drew = w.drewN n := by obtain ⟨n, rfl⟩ := hd; exact ⟨n + 1, rfl⟩
def REnc (w : World) (r : List F8 × Int) (e : Ending) (w' : World) : Prop :=
 ∃ A c, e = .returned (.tuple #[.slice A r.1.length c, .int .i64 r.2]) ∧ r.1.length ≤ c ∧ Own w' w.heap.size 5 (.slice A r.1.length c) (bv (bs r.1)) ∧ Below w.heap.size w w'
set_option maxRecDepth 100000 in
set_option maxHeartbeats 2000000 in
theorem refEncode_calls (A : Option Addr) (p : List F8) (m c k : Nat) (B : Option Addr) (q : List F8) (n d : Nat) (w : World) (hl : p.length = m) (hb : Bytes w A (bs p)) (hm : m ≤ 1000000) (hn : q.length = n) (hb2 : Bytes w B (bs q)) (hn2 : n ≤ 1000000) :
  Calls Tryz.prog 47 #[.slice A m c, .int .i64 k, .slice B n d] w (REnc w (encR p k q)) := by
 by_cases hk : n = k
 ·have e1 : encR p k q = (word q p, 0) := if_pos (by omega)
  have h1 : ((n : Int) == (k : Int)) = true := by simp; omega
  have h2 : ((n : Int) != (k : Int)) = false := by simp; omega
  rw [e1]
  have HB := Lib.hid hb
  have HB2 := Lib.hid hb2
  have HM := Lib.hid hl
  have HN := Lib.hid hn
  clear e1 hk hb hb2 hl hn
  go_enter Tryz.func47, Tryz.ntmps47
  go_wp2
  go_loopw [8, 9] (fun out i wr => ∃ k : Nat, k ≤ m ∧ i = .int .i64 k ∧ Hid (Own wr w.heap.size 5 out (bv (bs (word q (p.take k))))) ∧ Below w.heap.size w wr) (fun _ i _ => m - (intOf i).toNat)
  case atStart => exact ⟨0, by omega, rfl, Lib.hid (Own.nil _ _ _), Below.refl _ _⟩
  case round =>
   obtain ⟨j, hj, rfl, HO, HW⟩ := hrel
   have hsz := HW.size
   by_cases hlt : j < m
   ·have hlp : j < p.length := by rw [HM.out]; exact hlt
    obtain ⟨b2, o2, rfl⟩ := where_ HB.out (by omega)
    have hcell := cellAt (HB.out.below HW) j hlp
    obtain ⟨y, hy⟩ : ∃ y, eval q (coef p j) = y := ⟨_, rfl⟩
    have HT : Hid (bv (bs (word q (p.take j))) ++ bv [y.n] = bv (bs (word q (p.take (j + 1))))) := Lib.hid (by
     rw [word, word, take_succ' p hlp, ← coef_of_lt hlp, List.map_append, List.map_cons, List.map_nil, hy, bvs_snoc])
    have HL : Hid ((bv (bs (word q (p.take j)))).length = j) := Lib.hid (by rw [bvs_length, word_length, List.length_take]; omega)
    have HY := Lib.hid hy
    clear hy
    obtain ⟨x, hx⟩ : ∃ x, coef p j = x := ⟨_, rfl⟩
    rw [hx] at hcell HY
    clear hx
    go_wp2_with (first
     | (go_at_call 66; refine (refAt_calls B q n d x _ HN.out (HB2.out.below HW) (by omega)).mono ?_; rintro e w2 ⟨rfl, rfl⟩; rw [HY.out])
     | (at_builtin; refine wpList_app _ rfl _ _ _ rfl w.heap.size 5 _ 1 Tryz.underlying35 info_u8 rfl (by omega) _ _ rfl (HO.out.alloc _) (some ⟨wr.heap.size, 0, none⟩) 1 1 (bv [y.n]) rfl rfl (Row.new _ _ _ _) (bv_one _) (by rw [HL.out]; omega) (by simp; omega) ?_; rintro v2 w2 hown hg3 -))
    rw [HT.out] at hown
    have HO2 := Lib.hid hown
    have hB2 := (HW.alloc hsz _).trans ((HO.out.alloc _).grew (by simp; omega) hg3)
    clear hown hg3
    go_roundw
    case rel => exact ⟨j + 1, by omega, by go_num, HO2, hB2⟩
    case measure => simp [intOf]; omega
   ·obtain rfl : j = m := by omega
    have ht : p.take j = p := List.take_of_length_le (by rw [HM.out]; exact Nat.le_refl _)
    rw [ht] at HO
    obtain ⟨A1, c1, rfl, hc1⟩ := Own.shape HO.out
    go_wp2
    go_ret2
    exact ⟨A1, c1, rfl, hc1, HO.out, HW⟩
 ·have e1 : encR p k q = ([], 2) := if_neg (by omega)
  have h1 : ((n : Int) == (k : Int)) = false := by simp; omega
  have h2 : ((n : Int) != (k : Int)) = true := by simp; omega
  rw [e1]
  clear e1 hk hb hb2
  go_enter Tryz.func47, Tryz.ntmps47
  go_wp2
  go_ret2
  exact ⟨none, 0, rfl, Nat.le_refl _, Own.nil _ _ _, Below.refl _ _⟩
def RFull (w : World) (p : List F8) (k : Nat) (e : Ending) (w' : World) : Prop :=
 ∃ A c l, l = (if p.length ≤ k then full p k else p) ∧ e = .returned (.tuple #[.slice A l.length c, .bool (decide (p.length ≤ k))]) ∧ l.length ≤ c ∧ Own w' w.heap.size 5 (.slice A l.length c) (bv (bs l)) ∧ Below w.heap.size w w'
theorem pad_snoc (p : List F8) (j : Nat) : (p ++ List.replicate j 0) ++ [0] = p ++ List.replicate (j + 1) (0 : F8) := by
 rw [List.append_assoc, ← List.replicate_succ']
set_option maxRecDepth 100000 in
set_option maxHeartbeats 2000000 in
theorem refFull_calls (A : Option Addr) (p : List F8) (m c k : Nat) (w : World) (hl : p.length = m) (hb : Bytes w A (bs p)) (hm : m ≤ 1000000) (hk : k ≤ 1000000) :
  Calls Tryz.prog 64 #[.slice A m c, .int .i64 k] w (RFull w p k) := by
 have HB := Lib.hid hb
 have HM := Lib.hid hl
 have HV : Hid ((bv (bs p)).length = m) := Lib.hid (by rw [bvs_length, hl])
 clear hb hl
 go_enter Tryz.func64, Tryz.ntmps64
 go_wp2_with (at_builtin; refine wpList_app _ rfl (.tmp 7) (.tmp 8) _ rfl w.heap.size 5 _ 1 Tryz.underlying35 info_u8 rfl (by omega) (.slice none 0 0) [] rfl (Own.nil _ _ _) A m c (bv (bs p)) rfl HV.out HB.out.row (bv_one _) (by simp; omega) (Nat.le_refl _) ?_; intro v1 w1 hown1 hg1 _)
 have hB1 := (Own.nil w w.heap.size 5).grew (Nat.le_refl _) hg1
 rw [List.nil_append] at hown1
 have HO1 := Lib.hid hown1
 obtain ⟨A1, c1, rfl, hc1⟩ := Own.shape hown1
 rw [HM.out] at HO1 hc1 ⊢
 clear hown1 hg1
 go_loopw [6] (fun out wr => ∃ (j : Nat) (A : Option Addr) (c : Nat), (j = 0 ∨ m + j ≤ k) ∧ out = .slice A (m + j) c ∧ m + j ≤ c ∧ Hid (Own wr w.heap.size 5 (.slice A (m + j) c) (bv (bs (p ++ List.replicate j 0)))) ∧ Below w.heap.size w wr) (fun out _ => k - (match out with | .slice _ n _ => n | _ => 0))
 case atStart => exact ⟨0, A1, c1, .inl rfl, rfl, hc1, by simpa using HO1, hB1⟩
 case round =>
  obtain ⟨j, A2, c2, hj, rfl, hc2, HO, HW⟩ := hrel
  have hsz := HW.size
  have HL : Hid ((bv (bs (p ++ List.replicate j 0))).length = m + j) := Lib.hid (by rw [bvs_length, List.length_append, HM.out, List.length_replicate])
  have HT : Hid (bv (bs (p ++ List.replicate j 0)) ++ [.int .u8 0] = bv (bs (p ++ List.replicate (j + 1) 0))) := Lib.hid (by rw [← pad_snoc, bvs_snoc]; rfl)
  by_cases hlt : m + j < k
  ·have h1 : ((m + j : Nat) : Int) < (k : Int) := by omega
   go_wp2_with (at_builtin; refine wpList_app _ rfl _ _ _ rfl w.heap.size 5 _ 1 Tryz.underlying35 info_u8 rfl (by omega) _ _ rfl (HO.out.alloc _) (some ⟨wr.heap.size, 0, none⟩) 1 1 [.int .u8 0] rfl rfl (Row.new _ _ _ _) (by intro u hu; obtain rfl := List.mem_singleton.1 hu; rfl) (by rw [HL.out]; omega) (by simp; omega) ?_; rintro v2 w2 hown hg3 -)
   rw [HT.out] at hown
   have hB2 := (HW.alloc hsz _).trans ((HO.out.alloc _).grew (by simp; omega) hg3)
   have HO2 := Lib.hid hown
   obtain ⟨A3, c3, rfl, hc3⟩ := Own.shape hown
   have HLL : Hid ((p ++ List.replicate (j + 1) (0 : F8)).length = m + (j + 1)) := Lib.hid (by rw [List.length_append, HM.out, List.length_replicate])
   rw [HLL.out] at HO2 hc3 ⊢
   clear hown hg3
   go_roundw
   case rel => exact ⟨j + 1, A3, c3, .inr (by omega), rfl, hc3, HO2, hB2⟩
   case measure => simp only []; omega
  ·have h1 : ¬ ((m + j : Nat) : Int) < (k : Int) := by omega
   have hle : k ≤ m + j := by omega
   have HR : Hid (p ++ List.replicate j 0 = if p.length ≤ k then full p k else p) := Lib.hid (by
    rw [HM.out]
    rcases hj with rfl | hj
    ·by_cases h : m ≤ k
     ·rw [if_pos h, full_same (by rw [HM.out]; omega)]; simp
     ·rw [if_neg h]; simp
    ·rw [if_pos (by omega)]
     unfold full
     rw [List.take_of_length_le (by rw [HM.out]; omega), HM.out, show k - m = j by omega])
   have HLn : Hid ((p ++ List.replicate j (0 : F8)).length = m + j) := Lib.hid (by rw [List.length_append, HM.out, List.length_replicate])
   by_cases he : m + j = k
   ·have h2 : ((m : Int) + (j : Int) == (k : Int)) = true := by simp; omega
    have HD : Hid (decide (p.length ≤ k) = true) := Lib.hid (decide_eq_true (by rw [HM.out]; omega))
    clear he hj
    go_wp2
    go_ret2
    exact ⟨A2, c2, p ++ List.replicate j 0, HR.out, by rw [HLn.out, HD.out]; rfl, by rw [HLn.out]; exact hc2, by rw [HLn.out]; exact HO.out, HW⟩
   ·have h2 : ((m : Int) + (j : Int) == (k : Int)) = false := by simp; omega
    have HD : Hid (decide (p.length ≤ k) = false) := Lib.hid (decide_eq_false (by rw [HM.out]; omega))
    clear he hj
    go_wp2
    go_ret2
    exact ⟨A2, c2, p ++ List.replicate j 0, HR.out, by rw [HLn.out, HD.out]; rfl, by rw [HLn.out]; exact hc2, by rw [HLn.out]; exact HO.out, HW⟩
end Go.Proofs.YtjoghbmedfmioabGreat.Rd

namespace Go.Proofs.YtjoghbmedfmioabGreat.Rd
open Go.RowKit Go.Shelf F8 Poly GF
attribute [local go_sem] Oper.semAt_some
theorem int_mem_take {l : List Int} {k : Nat} {z : Int} (h : k < l.length) : z ∈ l.take (k + 1) ↔ z ∈ l.take k ∨ z = l[k] := by
 rw [take_succ' l h, List.mem_append, List.mem_singleton]
set_option maxRecDepth 100000 in
set_option maxHeartbeats 4000000 in
theorem refPlaces_calls (A : Option Addr) (n c : Nat) (B : Option Addr) (pl : List Int) (m d : Nat) (C : Option Addr) (o e : Nat) (w : World) (hl : pl.length = m) (hb : Row w B (zs pl)) (hm : m ≤ 1000000) :
  Calls Tryz.prog 61 #[.slice A n c, .slice B m d, .slice C o e] w fun e w' => e = .returned (.bool (decide (pl.length = o ∧ OkP n pl))) ∧ ∃ n, w' = w.drewN n := by
 have HB := Lib.hid hb
 have HM := Lib.hid hl
 obtain ⟨r, hrr⟩ : ∃ r, decide (pl.length = o ∧ OkP n pl) = r := ⟨_, rfl⟩
 rw [hrr]
 have HRR := Lib.hid hrr
 clear hb hl hrr
 go_enter Tryz.func61, Tryz.ntmps61
 go_wp2
 go_loopw [7] (fun i wr => ∃ k : Nat, k ≤ m ∧ i = .int .i64 k ∧ Hid (OkP n (pl.take k)) ∧ Hid (∃ n, wr = w.drewN n)) (fun i _ => m - (intOf i).toNat)
 case atStart => exact ⟨0, by omega, rfl, Lib.hid ⟨by simp, by simp⟩, Lib.hid ⟨0, rfl⟩⟩
 case round =>
  obtain ⟨k, hk, rfl, HN, HD⟩ := hrel
  by_cases hkk : k < m
  ·have hkp : k < pl.length := by rw [HM.out]; exact hkk
   obtain ⟨b, off, rfl, hcell⟩ := zs_at (drew_row HB.out HD.out) (k := k) hkp
   have hiff := okP_take (n := n) hkp HN.out
   have HOUT : Hid (¬ OkP n (pl.take (k + 1)) → decide (pl.length = o ∧ OkP n pl) = false) := Lib.hid (fun h => decide_eq_false fun h2 => h (okP_of_take (k + 1) h2.2))
   obtain ⟨z, hz2⟩ : ∃ z, pl[k] = z := ⟨_, rfl⟩
   rw [hz2] at hcell hiff
   have HI := Lib.hid hiff
   have HZ := Lib.hid hz2
   clear hz2 hiff
   by_cases h0 : z < 0
   ·have HNO : Hid (decide (pl.length = o ∧ OkP n pl) = false) := Lib.hid (HOUT.out (by rw [HI.out]; rintro ⟨⟨h, _⟩, _⟩; omega))
    go_wp2
    go_ret
    exact ⟨by rw [← HRR.out, HNO.out]; rfl, HD.out⟩
   by_cases h1 : (n : Int) ≤ z
   ·have HNO : Hid (decide (pl.length = o ∧ OkP n pl) = false) := Lib.hid (HOUT.out (by rw [HI.out]; rintro ⟨⟨_, h⟩, _⟩; omega))
    go_wp2
    go_ret
    exact ⟨by rw [← HRR.out, HNO.out]; rfl, HD.out⟩
   have HZB : Hid (0 ≤ z ∧ z < (n : Int)) := Lib.hid ⟨by omega, by omega⟩
   go_wp2
   clear hcell h0 h1
   go_loopw [8] (fun j wr => ∃ q : Nat, q ≤ k ∧ j = .int .i64 q ∧ Hid (z ∉ pl.take q) ∧ Hid (∃ n, wr = w.drewN n)) (fun j _ => k - (intOf j).toNat)
   case atStart => exact ⟨0, by omega, rfl, Lib.hid (by simp), HD⟩
   case round =>
    clear HD
    obtain ⟨q, hq, rfl, HQ, HD⟩ := hrel
    by_cases hqk : q < k
    ·have hqp : q < pl.length := by omega
     obtain ⟨b1, o1, e1, hc1⟩ := zs_at (drew_row HB.out HD.out) (k := k) hkp
     obtain ⟨b2, o2, e2, hc2⟩ := zs_at (drew_row HB.out HD.out) (k := q) hqp
     simp only [Option.some.injEq, Addr.mk.injEq] at e1 e2
     obtain ⟨rfl, rfl, -⟩ := e1
     obtain ⟨rfl, rfl, -⟩ := e2
     have HX := Lib.hid (int_mem_take (z := z) hqp)
     have HD2 := Lib.hid (drew_more HD.out)
     have HEq : Hid (z = pl[q] → z ∈ pl.take k) := Lib.hid (fun e => by
      rw [e]; exact List.mem_iff_getElem.2 ⟨q, by rw [List.length_take]; omega, by simp⟩)
     rw [HZ.out] at hc1
     obtain ⟨y, hy⟩ : ∃ y, pl[q] = y := ⟨_, rfl⟩
     rw [hy] at hc2 HX HEq
     clear hy
     by_cases e : z = y
     ·have he : (z == y) = true := by simp [e]
      have HNO : Hid (decide (pl.length = o ∧ OkP n pl) = false) := Lib.hid (HOUT.out (by rw [HI.out]; rintro ⟨_, h⟩; exact h (HEq.out e)))
      clear e
      go_wp2
      go_region
      go_wp2
      go_ret
      exact ⟨by rw [← HRR.out, HNO.out]; rfl, HD2.out⟩
     ·have he : (z == y) = false := by simpa using e
      have HQ2 : Hid (z ∉ pl.take (q + 1)) := Lib.hid (by rw [HX.out]; rintro (h | h); exact HQ.out h; exact e h)
      clear e
      go_wp2
      go_region
      go_wp2
      go_roundw
      case rel => exact ⟨q + 1, by omega, by go_num, HQ2, HD2⟩
      case measure => simp [intOf]; omega
    ·obtain rfl : q = k := by omega
     have HN2 : Hid (OkP n (pl.take (q + 1))) := Lib.hid (by rw [HI.out]; exact ⟨HZB.out, HQ.out⟩)
     go_wp2
     go_roundw
     case rel => exact ⟨q + 1, by omega, by go_num, HN2, HD⟩
     case measure => simp [intOf]; omega
  ·obtain rfl : k = m := by omega
   have HY : Hid (OkP n pl) := Lib.hid (by have := HN.out; rwa [List.take_of_length_le (by have := HM.out; omega)] at this)
   by_cases e : k = o
   ·have h1 : ((k : Int) == (o : Int)) = true := by simp; omega
    have HR : Hid (decide (pl.length = o ∧ OkP n pl) = true) := Lib.hid (decide_eq_true ⟨by rw [HM.out, e], HY.out⟩)
    clear e
    go_wp2
    go_ret
    exact ⟨by rw [← HRR.out, HR.out]; rfl, HD.out⟩
   ·have h1 : ((k : Int) == (o : Int)) = false := by simp; omega
    have HR : Hid (decide (pl.length = o ∧ OkP n pl) = false) := Lib.hid (decide_eq_false (by rw [HM.out]; rintro ⟨h, _⟩; exact e h))
    clear e
    go_wp2
    go_ret
    exact ⟨by rw [← HRR.out, HR.out]; rfl, HD.out⟩
def ROwn (w : World) (r : List F8) (n : Nat) (e : Ending) (w' : World) : Prop :=
 ∃ A c, e = .returned (.slice A n c) ∧ n ≤ c ∧ Own w' w.heap.size 5 (.slice A n c) (bv (bs r)) ∧ Below w.heap.size w w'
theorem ptsAt_snoc {p : List F8} {pl : List Int} {k : Nat} (h : k < pl.length) : bv (bs (ptsAt p (pl.take (k + 1)))) = bv (bs (ptsAt p (pl.take k))) ++ bv [(coef p pl[k].toNat).n] := by
 rw [take_succ' pl h, ptsAt, List.map_append, List.map_cons, List.map_nil, bvs_snoc]; rfl
set_option maxRecDepth 100000 in
set_option maxHeartbeats 2000000 in
theorem refAtP_calls (A : Option Addr) (p : List F8) (n c : Nat) (B : Option Addr) (pl : List Int) (m d : Nat) (w : World) (hn : p.length = n) (hb : Bytes w A (bs p)) (hn2 : n ≤ 1000000) (hl : pl.length = m) (hr : Row w B (zs pl)) (hm : m ≤ 1000000) (hok : OkP n pl) :
  Calls Tryz.prog 63 #[.slice A n c, .slice B m d] w (ROwn w (ptsAt p pl) m) := by
 have HB := Lib.hid hb
 have HR := Lib.hid hr
 have HM := Lib.hid hl
 have HN := Lib.hid hn
 have HK := Lib.hid hok
 clear hb hl hr hok hn
 go_enter Tryz.func63, Tryz.ntmps63
 go_wp2
 go_loopw [5, 6] (fun out i wr => ∃ k : Nat, k ≤ m ∧ i = .int .i64 k ∧ Hid (Own wr w.heap.size 5 out (bv (bs (ptsAt p (pl.take k))))) ∧ Below w.heap.size w wr) (fun _ i _ => m - (intOf i).toNat)
 case atStart => exact ⟨0, by omega, rfl, Lib.hid (Own.nil _ _ _), Below.refl _ _⟩
 case round =>
  obtain ⟨k, hk, rfl, HO, HW⟩ := hrel
  have hsz := HW.size
  by_cases hlt : k < m
  ·have hkp : k < pl.length := by rw [HM.out]; exact hlt
   obtain ⟨b, off, rfl, hcell⟩ := zs_at (HR.out.below HW) (k := k) hkp
   have HT := Lib.hid (ptsAt_snoc (p := p) hkp)
   have hin := HK.out.1 pl[k] (List.getElem_mem hkp)
   have HL : Hid ((bv (bs (ptsAt p (pl.take k)))).length = k) := Lib.hid (by rw [bvs_length, ptsAt_length, List.length_take]; omega)
   obtain ⟨z, hz⟩ : ∃ z, pl[k] = z := ⟨_, rfl⟩
   rw [hz] at hcell hin HT
   obtain ⟨x, rfl⟩ : ∃ x : Nat, z = (x : Int) := ⟨z.toNat, by omega⟩
   obtain ⟨y, hy⟩ : ∃ y, coef p x = y := ⟨_, rfl⟩
   have hxn : (x : Int) < (n : Int) := hin.2
   have hxp : x < p.length := by rw [HN.out]; omega
   obtain ⟨b2, o2, rfl⟩ := where_ HB.out (by omega)
   have hc2 := cellAt (HB.out.below HW) x hxp
   rw [Int.toNat_natCast] at HT
   rw [hy] at hc2 HT
   clear hz hy hin hxp
   go_wp2_with (at_builtin; refine wpList_app _ rfl _ _ _ rfl w.heap.size 5 _ 1 Tryz.underlying35 info_u8 rfl (by omega) _ _ rfl (HO.out.alloc _) (some ⟨wr.heap.size, 0, none⟩) 1 1 (bv [y.n]) rfl rfl (Row.new _ _ _ _) (bv_one _) (by rw [HL.out]; omega) (by simp; omega) ?_; rintro v2 w2 hown hg3 -)
   rw [← HT.out] at hown
   have HO2 := Lib.hid hown
   have hB2 := (HW.alloc hsz _).trans ((HO.out.alloc _).grew (by simp; omega) hg3)
   clear hown hg3
   go_roundw
   case rel => exact ⟨k + 1, by omega, by go_num, HO2, hB2⟩
   case measure => simp [intOf]; omega
  ·obtain rfl : k = m := by omega
   have ht : pl.take k = pl := List.take_of_length_le (by rw [HM.out]; exact Nat.le_refl _)
   rw [ht] at HO
   obtain ⟨A1, c1, rfl, hc1⟩ := Own.shape HO.out
   have HPL : Hid ((ptsAt p pl).length = k) := Lib.hid (by rw [ptsAt_length, HM.out])
   rw [HPL.out] at HO hc1 ⊢
   go_wp2
   go_ret
   exact ⟨A1, c1, rfl, hc1, HO.out, HW⟩
def RDec (w : World) (xs : List F8) (k : Nat) (pl : List Int) (ys : List F8) (e : Ending) (w' : World) : Prop := ∃ l n, DecIs xs k pl ys l n ∧ REnc w (l, n) e w'
set_option maxRecDepth 100000 in
set_option maxHeartbeats 4000000 in
theorem refDecode_calls (A : Option Addr) (p : List F8) (n c k : Nat) (B : Option Addr) (pl : List Int) (m d : Nat) (C : Option Addr) (ys : List F8) (o e : Nat) (w : World) (hn : p.length = n) (hb : Bytes w A (bs p)) (hn2 : n ≤ 1000000) (hnd : p.Nodup) (hk : k ≤ 1000000)
  (hl : pl.length = m) (hr : Row w B (zs pl)) (hm : m ≤ 1000000) (ho : ys.length = o) (hb2 : Bytes w C (bs ys)) :
  Calls Tryz.prog 39 #[.slice A n c, .int .i64 k, .slice B m d, .slice C o e] w (RDec w p k pl ys) := by
 have hp := refPlaces_calls A n c B pl m d C o e w hl hr hm
 by_cases hok : pl.length = ys.length ∧ OkP n pl
 ·have hok2 : pl.length = o ∧ OkP n pl := ⟨by rw [hok.1, ho], hok.2⟩
  have hok3 : pl.length = ys.length ∧ OkP p.length pl := ⟨hok.1, by rw [hn]; exact hok.2⟩
  rw [decide_eq_true hok2] at hp
  have HOK := Lib.hid hok3
  have HPN := Lib.hid (ptsAt_nodup hnd hok3.2)
  have HPL := Lib.hid (ptsAt_length p pl)
  have hok4 := Lib.hid hok.2
  have HMO : Hid (m = o) := Lib.hid (by omega)
  by_cases hmk : m < k
  ·have HX : Hid (DecIs p k pl ys [] 70) := Lib.hid (.inr (.inl ⟨hok3, by omega, rfl, rfl⟩))
   clear hok hok2 hok3 hb hr hb2 ho hl hn
   go_enter Tryz.func39, Tryz.ntmps39
   go_wp2_with (go_at_call 61; refine hp.mono ?_; rintro e w1 ⟨rfl, q, rfl⟩)
   go_ret2
   exact ⟨[], 70, HX.out, none, 0, rfl, Nat.le_refl _, Own.nil _ _ _, Below.drewN' (Below.refl _ _) _⟩
  ·have HB := Lib.hid hb
   have HR := Lib.hid hr
   have HB2 := Lib.hid hb2
   have HM := Lib.hid hl
   have HN := Lib.hid hn
   have HO := Lib.hid ho
   clear hok hok2 hok3 hb hr hb2 ho hl hn
   go_enter Tryz.func39, Tryz.ntmps39
   go_wp2_with (go_at_call 61; refine hp.mono ?_; rintro e w1 ⟨rfl, q, rfl⟩)
   refine (refAtP_calls A p n c B pl m d _ HN.out (HB.out.drewN q) hn2 HM.out (HR.out.drewN q) hm hok4.out).mono ?_
   rintro e w2 ⟨A2, c2, rfl, hc2, hO2, hB2⟩
   obtain ⟨pts, hpts⟩ : ∃ pts, ptsAt p pl = pts := ⟨_, rfl⟩
   rw [hpts] at HPN HPL hO2
   have HPT := Lib.hid hpts
   have HO2 := Lib.hid hO2
   have HBW : Below w.heap.size w w2 := (Below.drewN' (Below.refl _ _) q).trans hB2
   clear hpts hO2 hp hB2
   go_wp2_with fail
   refine (refThrough_calls A2 C pts ys m o c2 e _ (by rw [HPL.out, HM.out]) HO.out HMO.out (Own.bytes HO2.out) (HB2.out.below HBW) hc2 (by omega)).mono ?_
   rintro e w3 (⟨-, r, A3, c3, ht, rfl, hc3, hO3, hB3⟩ | ⟨hno, -⟩)
   rotate_left
   ·exact absurd HPN.out hno
   have HT := Lib.hid ht
   have HO3 := Lib.hid hO3
   have hrl := thru_length ht
   have hrl2 : r.length ≤ m := by rw [HPL.out, HM.out] at hrl; exact hrl
   have HBW3 : Below w.heap.size w w3 := HBW.trans (hB3.mono HBW.size)
   clear ht hO3 hB3 HBW HO2 hrl
   go_wp2_with fail
   refine (refFull_calls A3 r r.length c3 k _ rfl (Own.bytes HO3.out) (by omega) hk).mono ?_
   rintro e w4 ⟨A4, c4, l, hl4, rfl, hc4, hO4, hB4⟩
   have HBW4 : Below w.heap.size w w4 := HBW3.trans (hB4.mono HBW3.size)
   have hO4' := hO4.more HBW3.size
   by_cases hrk : r.length ≤ k
   ·rw [if_pos hrk] at hl4
    subst hl4
    have hd := decide_eq_true hrk
    have HX : Hid (DecIs p k pl ys (full r k) 0) := Lib.hid (.inr (.inr (.inl ⟨HOK.out, by have := HM.out; omega, rfl, full_length r k, by rw [HPT.out, word_congr (full_eqv hrk)]; exact thru_word (by rw [HPL.out]; exact HOK.out.1) HT.out⟩)))
    rw [hd]
    clear hd hrk hO4 hB4
    go_wp2
    go_ret2
    exact ⟨_, 0, HX.out, A4, c4, rfl, hc4, hO4', HBW4⟩
   ·rw [if_neg hrk] at hl4
    subst hl4
    have hd := decide_eq_false hrk
    have HX : Hid (DecIs p k pl ys [] 71) := Lib.hid (.inr (.inr (.inr ⟨HOK.out, by have := HM.out; omega, rfl, rfl, by rw [HPT.out]; exact thru_no HPN.out (by rw [HPL.out]; exact HOK.out.1) (by have := HM.out; have := HPL.out; omega) HT.out (by omega)⟩)))
    rw [hd]
    clear hd hrk hO4 hB4 hO4'
    go_wp2
    go_ret2
    exact ⟨[], 71, HX.out, none, 0, rfl, Nat.le_refl _, Own.nil _ _ _, HBW4⟩
 ·have hno : ¬ (pl.length = o ∧ OkP n pl) := fun h => hok ⟨by rw [h.1, ho], h.2⟩
  rw [decide_eq_false hno] at hp
  have HX : Hid (DecIs p k pl ys [] 2) := Lib.hid (.inl ⟨fun h => hok ⟨h.1, by rw [← hn]; exact h.2⟩, rfl, rfl⟩)
  clear hok hno hb hr hb2 ho hl hn
  go_enter Tryz.func39, Tryz.ntmps39
  go_wp2_with (go_at_call 61; refine hp.mono ?_; rintro e w1 ⟨rfl, q, rfl⟩)
  go_ret2
  exact ⟨[], 2, HX.out, none, 0, rfl, Nat.le_refl _, Own.nil _ _ _, Below.drewN' (Below.refl _ _) _⟩
end Go.Proofs.YtjoghbmedfmioabGreat.Rd

namespace Go.Proofs.YtjoghbmedfmioabGreat.Rd
open Go.RowKit F8 Poly
def nuls (k : Nat) : ByteArray := str (List.replicate k 0)
theorem nuls_size (k : Nat) : (nuls k).size = k := by rw [nuls, str_size, List.length_replicate]
theorem nuls_cells (k : Nat) : Lib.strCells (nuls k) = bv (List.replicate k 0) := by
 simp [Lib.strCells, nuls, str, bv]
theorem nuls_zero (k : Nat) : (Lib.strCells (nuls k)).toArray = Builtin.zeroCells (Value.int .u8 0).cells k := by
 rw [nuls_cells]
 apply Array.ext
 ·simp [bv, size_zeroCells, Value.cells]
 ·intro i h1 h2
  simp [bv, Builtin.zeroCells, Value.cells, Nat.mod_one]
theorem app_zeros_eq (w : World) (ty : TypeId) (base : Option Addr) (n cap k : Nat) (hk : k ≤ 1000000000) (hn : n ≤ 1000000000) (hc : n ≤ cap) :
  (Builtin.append_ #[35, 3] ty #[.slice base n cap, .int .i64 (k : Int)]).run Tryz.prog w =
  (Builtin.append_ #[35, 9] ty #[.slice base n cap, .string (nuls k)]).run Tryz.prog w := by
 obtain ⟨i, hi, hi1, hi2, hi3⟩ := info_parts info_u8
 have hw : IntKind.i64.wrap (k : Int) = k := by rw [IntKind.wrap_i64]; omega
 have hneg : ¬ ((k : Int) < 0) := by omega
 have h48i : ¬ (281474976710656 < (k : Int)) := by omega
 have h63 : ¬ (9223372036854775807 < (n : Int) + (k : Int)) := by omega
 have hf : ∀ w, (Builtin.firstCells 1 k (.string (nuls k))).run Tryz.prog w = .ok (Builtin.zeroCells (Value.int .u8 0).cells k) w := fun w => by
  have := Lib.run_firstCells_string (P := Tryz.prog) w 1 (nuls k)
  rw [nuls_size, nuls_zero] at this; exact this
 by_cases hroom : n + k ≤ cap
 ·by_cases h0 : k = 0
  ·subst h0
   have hw0 : IntKind.i64.wrap 0 = 0 := rfl
   have hr0 : n ≤ cap := hroom
   have hs0 := nuls_size 0
   simp [Builtin.append_, run_underlying Tryz.underlying35, run_underlying Tryz.underlying3, run_underlying Tryz.underlying9, sizeOf, typeInfo, zeroValue, hi, hi1, hi2, hi3, asInt, asIntOf, hw0, hr0, Builtin.lenOf, hs0, hf, Builtin.zeroCells]
  ·simp [Builtin.append_, run_underlying Tryz.underlying35, run_underlying Tryz.underlying3, run_underlying Tryz.underlying9, sizeOf, typeInfo, zeroValue, hi, hi1, hi2, hi3, asInt, asIntOf, hw, hneg, h48i, Builtin.lenOf, nuls_size, hroom, hf, h0]
 ·have h0 : k ≠ 0 := by omega
  have hfit : Builtin.nextslicecap (n + k) cap * 1 ≤ 281474976710656 := growslice_fits (by omega) (by omega)
  have h48' : ¬ (281474976710656 < Builtin.nextslicecap (n + k) cap) := by omega
  simp [Builtin.append_, run_underlying Tryz.underlying35, run_underlying Tryz.underlying3, run_underlying Tryz.underlying9, sizeOf, typeInfo, zeroValue, hi, hi1, hi2, hi3, asInt, asIntOf, hw, hneg, h48i, h48', h63, Builtin.lenOf, nuls_size, hroom, hf, h0, Question.forced]
theorem run_app_zeros (w : World) (ty : TypeId) (B : Nat) (v : Value) (xs : List Value) (hown : Own w B 5 v xs) (k : Nat) (hk : k ≤ 1000000000) (hn : xs.length ≤ 1000000000) (hB : B ≤ w.heap.size) :
  ∃ v' w', (Builtin.append_ #[35, 3] ty #[v, .int .i64 (k : Int)]).run Tryz.prog w = .ok v' w' ∧ Own w' B 5 v' (xs ++ bv (List.replicate k 0)) ∧ w.grownBy w' v.ownBlock := by
 obtain ⟨i, hi, hi1, hi2, hi3⟩ := info_parts info_u8
 obtain ⟨v', w', hr, h2, h3, _⟩ := Lib.run_append_own_string (P := Tryz.prog) w B 35 9 ty 5 i Tryz.underlying35 Tryz.underlying9 hi hi1 hi2 hi3 v xs.length xs hown (nuls k) (by rw [nuls_size]; simp only [maxLen]; omega) (by rw [nuls_size]; omega) hB
 have he : (Builtin.append_ #[35, 3] ty #[v, .int .i64 (k : Int)]).run Tryz.prog w = (Builtin.append_ #[35, 9] ty #[v, .string (nuls k)]).run Tryz.prog w := by
  rcases hown.2 with ⟨rfl, h0⟩ | ⟨g, cap, cur, rfl, _, _, hnc, _⟩
  ·exact app_zeros_eq w ty none 0 0 k hk (by omega) (Nat.le_refl _)
  ·exact app_zeros_eq w ty _ xs.length cap k hk hn hnc
 refine ⟨v', w', he.trans hr, ?_, h3⟩
 rw [nuls_size, nuls_cells] at h2
 unfold Own
 rw [List.length_append, bv_length, List.length_replicate]
 exact h2
end Go.Proofs.YtjoghbmedfmioabGreat.Rd

namespace Go.Proofs.YtjoghbmedfmioabGreat.Poly
open Go.RowKit
def noDefer (ops : Array Oper) : Bool := ops.all fun o => match o.op with | .defer _ => false | _ => true
theorem noDefer_spec {ops : Array Oper} (h : noDefer ops = true) {i : Nat} {o : Oper} (ho : ops[i]? = some o) (c : Call) : o.op ≠ .defer c := by
 intro e
 have h1 := (Array.all_eq_true_iff_forall_mem.1 h) o (Array.mem_of_getElem? ho)
 rw [e] at h1
 cases h1
section
variable {P : Program} {ops : Array Oper} {Q : Exit → Act → World → Prop} {md : Region.Mode} {l n : Nat}
theorem rowsIn_round {row : String} {args : Array Value} {w : World} {R : Value → World → Prop} (h : Rows P row args w R) : RowsIn (Fence.wide.inRound l) n P row args w R :=
 fun c cs _ => let ⟨v, w', h1, h2⟩ := h c cs; ⟨v, w', h1, stepsIn_wide.2 h2⟩
theorem callsIn_round {f : FuncId} {args : Array Value} {w : World} {R : Ending → World → Prop} (h : Calls P f args w R) : CallsIn (Fence.wide.inRound l) n P f args w R :=
 (callsIn_wide.2 h : CallsIn Fence.wide n P f args w R)
theorem oper_round {o : Oper} (hnd : ∀ c, o.op ≠ .defer c) {a : Act} {w : World} {K : Act → World → Prop} (h : o.wp P a w K Q) : o.wpIn (Fence.wide.inRound l) n P a w K Q := by
 refine ⟨fun _ _ => trivial, ?_⟩
 rw [Oper.semAt_eq _ _ _ hnd]
 unfold Oper.wp at h
 generalize (execOp a.eval o).run P w = r at *
 cases r with
 | ok x w' =>
  cases x <;> simp only [Oper.upon, Oper.uponIn] at h ⊢ <;>
   first
    | exact h
    | exact ⟨(fun h => by cases h), callsIn_round h⟩
    | exact ⟨(fun h => by cases h), rowsIn_round h⟩
    | exact h.elim
 | halt x w' => cases x <;> simp only [Oper.upon, Oper.uponIn] at h ⊢ <;> exact h
theorem wpAny_round (hnd : noDefer ops = true) (hlo : ¬ LetsOut Q) : ∀ (fuel : Nat) (listed : Array Bool) (a : Act) (w : World), wpAny P md ops Q fuel listed a w → wpAnyIn (Fence.wide.inRound l) n P md ops Q fuel listed a w
 | 0, _, _, _, h => h
 | fuel + 1, listed, a, w, h => by
  refine ⟨h.1, fun i hi => ?_⟩
  have h1 := h.2 i hi
  unfold wpOp at h1
  unfold wpOpIn
  cases ho : ops[i]? with
  | none => simp only [ho] at h1 ⊢; exact wpAny_round hnd hlo fuel _ _ _ h1
  | some o =>
   simp only [ho] at h1 ⊢
   split
   ·rename_i hw
    rw [if_pos hw] at h1
    rcases h1 with h1 | ⟨_, h1⟩
    ·exact Oper.wpIn_mono (fun a w => wpAny_round hnd hlo fuel _ a w) (oper_round (noDefer_spec hnd ho) h1)
    ·exact (hlo h1).elim
   ·rename_i hw
    rw [if_neg hw] at h1
    exact ⟨fun _ _ => trivial, wpAny_round hnd hlo fuel _ _ _ h1⟩
theorem wpOp_call {i : Nat} {o : Oper} {K : Act → World → Prop} {a : Act} {w : World} (ho : ops[i]? = some o) (hw : Region.wanted o (yielded ops a.tmps) = true) (h : o.wp P a w K Q) : wpOp P ops Q i K a w := by
 unfold wpOp
 simp only [ho, hw, if_true]
 exact .inl h
theorem region_round {id : Nat} {a : Act} {w : World} (hm : P.follows .mixedOrders = true) (hnd : noDefer ops = true) (hlo : ¬ LetsOut Q)
  (h : wpAny P .any ops Q ops.size (Array.replicate ops.size false) a w.drew) : (Code.region id ops true).wpIn (Fence.wide.inRound l) n P Q a w :=
 wpIn_region_any hm (wpAny_round hnd hlo _ _ _ _ h)
theorem region_round_held {S : World → Prop} {id : Nat} {a : Act} {w : World} (hm : P.follows .mixedOrders = true) (hnd : noDefer ops = true) (hlo : ¬ LetsOut Q) (hS : S w.drew)
  (h : S w.drew → wpAnyH P .any ops Q S ops.size (Array.replicate ops.size false) a w.drew) : (Code.region id ops true).wpIn (Fence.wide.inRound l) n P Q a w :=
 region_round hm hnd hlo (wpAny_of_held _ _ _ _ (h hS))
theorem region_round_tail {id : Nat} {a : Act} {w : World} {os : List Oper} (k : Nat) (hm : P.follows .mixedOrders = true) (hB : Region.lexTailB .any os.toArray k = true) (hnd : noDefer os.toArray = true) (hlo : ¬ LetsOut Q)
  (h : wpStill P os.toArray w.drew (fun a' => wpList P os.toArray Q (os.drop k) a' w.drew) (os.take k) a) : (Code.region id os.toArray true).wpIn (Fence.wide.inRound l) n P Q a w := by
 simp only [Region.lexTailB, Bool.and_eq_true, decide_eq_true_eq] at hB
 obtain ⟨⟨⟨⟨hsel, hn⟩, hs⟩, hc⟩, hlex⟩ := hB
 have hn' : k < os.length := by simpa using hn
 have htl : (os.take k).length = k := by simp; omega
 have hdl : (os.drop k).length = os.toArray.size - k := by simp
 have inv0 : HeadInv .any os.toArray k (Array.replicate os.toArray.size false) :=
  ⟨by simp, (fun j oj _ hl => by rw [getD_replicate_false] at hl; cases hl), fun t _ ht => getD_in (by simpa using ht) (getD_replicate_false _ _)⟩
 have H := wpAnyL_lex (md := .any) (g := os.toArray.size - k) hsel hs hc hn (os.take k) 0 _ a (fun j hj => by
  have hj' : j < k := by rw [htl] at hj; exact hj
  simp [hj']) (by simpa using htl) inv0 (by rw [htl]; exact hlex) h
 refine region_round hm hnd hlo ?_
 have := wpAny_of_head (Q' := Q) (g := os.toArray.size - k) (fun listed a' hL => by
  have := wpAny_of_seq (md := .any) (Q' := Q) (os.drop k) k listed a' w.drew (fun j => by simp [List.getElem?_drop]) (by rw [hdl]; exact hL.1) hL.2
  rwa [hdl] at this) _ _ _ H
 rw [htl, show k + (os.toArray.size - k) = os.toArray.size by omega] at this
 exact this
end
end Go.Proofs.YtjoghbmedfmioabGreat.Poly
