/- Of the program, joined: PolyCode1, PolyMath2, RdMath, RdCode. -/
import Derived.Test.YtofihklinkpbiaaGreatPl04
import Derived.Laws.Cover3
import Derived.Test.YtofihklinkpbiaaGreatPl03
namespace Go.Proofs.YtofihklinkpbiaaGreat.Poly
open Go.RowKit Go.Shelf F8 GF
attribute [local go_sem] Oper.semAt_some
set_option maxHeartbeats 1000000 in
theorem downward_calls (A : Option Addr) (m c : Nat) (w : World) :
  Calls Tryz.prog 113 #[.slice A m c] w fun e w' => e = .returned (.func (.func 154) #[] #[.pointer (some ⟨w.heap.size, 0, none⟩)]) ∧ w' = w.alloc (.cells #[.slice A m c] 22) := by
 go_enter Tryz.func113, Tryz.ntmps113
 go_wp2
 go_ret
 exact ⟨rfl, rfl⟩
theorem eql_nil (a : Option Addr) (l c : Nat) (w : World) : (binOp .eql 22 (.slice a l c) (.slice none 0 0)).run Tryz.prog w = .ok (.bool a.isNone) w := by
 simp only [binOp]
 simp [run_equal_slice_nil w 22 5 a l c Tryz.underlying22]
theorem len_top {p : List F8} {k : Nat} (hx : ¬ coef p k = 0) (h : Bdd p (k + 1)) : len p = k + 1 := by
 have h1 := len_le_of_bdd h
 have h2 : ¬ len p ≤ k := fun e => hx (bdd_iff.2 e k (Nat.le_refl _))
 omega
set_option maxRecDepth 100000 in
set_option maxHeartbeats 2000000 in
theorem degree_calls (A : Option Addr) (p : List F8) (m c : Nat) (w : World) (hl : p.length = m) (hb : Bytes w A (bs p)) (_ : m ≤ c) (hm : m ≤ 1000000) :
  Calls Tryz.prog 163 #[.slice A m c] w fun e w' => e = .returned (.int .i64 ((len p : Int) - 1)) ∧ Below w.heap.size w w' := by
 refine (callsIn_wide (n := 9)).1 (callsIn_of_wp_marks Tryz.func163 rfl trivial ?_ rfl)
 simp only [Tryz.ntmps163, List.size_toArray, List.length_cons, List.length_nil, Nat.reduceAdd, Nat.reduceSub, Array.replicate_succ, Array.replicate_zero, List.push_toArray, List.append_toArray, List.nil_append, List.cons_append]
 refine wpIn_wide.2 ?_
 go_wp2_with (go_at_call 113; refine (downward_calls _ _ _ _).mono ?_; rintro e w' ⟨rfl, rfl⟩)
 obtain ⟨w1, hw1⟩ : ∃ w1, (w.alloc (.cells #[.int .i64 0] 3)).alloc (.cells #[.slice A m c] 22) = w1 := ⟨_, rfl⟩
 have hB1 : Below w.heap.size w w1 := by rw [← hw1]; exact ((Below.refl _ w).alloc (Nat.le_refl _) _).alloc (by simp) _
 have hr1 : Block w1 w.heap.size 3 #[.int .i64 0] := by rw [← hw1]; exact (Block.new w _ _).alloc _
 have hbx1 : Block w1 (w.heap.size + 1) 22 #[.slice A m c] := by
  rw [← hw1]; have := Block.new (w.alloc (.cells #[.int .i64 0] 3)) 22 #[.slice A m c]; rwa [World.size_alloc] at this
 have hb1 : Bytes w1 A (bs p) := hb.below hB1
 have hsz : w1.heap.size = w.heap.size + 2 := by rw [← hw1]; simp
 rw [hw1]
 clear hw1
 refine wpIn_wide.1 (wpIn_down (n := 9) (by omega) (Bn := w.heap.size + 1) (m := m) (c := c) (A := A) hm rfl
  (fun k q W => q = p ∧ Bdd p k ∧ Bytes W A (bs p) ∧ Block W (w.heap.size + 1) 22 #[.slice A m c] ∧ Block W w.heap.size 3 #[.int .i64 0] ∧ Below w.heap.size w W)
  (fun j W => j = .ret ∧ Block W w.heap.size 3 #[.int .i64 ((len p : Int) - 1)] ∧ Below w.heap.size w W)
  (fun k q W W' ⟨h1, h2, h3, h4, h5, h6⟩ ht => ⟨h1, h2, ht.bytes h3, ht.block h4, ht.block h5, h6.trans (ht.below.mono (by omega))⟩)
  (fun j W W' ⟨h1, h2, h3⟩ ht => ⟨h1, ht.block h2, h3.trans (ht.below.mono (by omega))⟩)
  (fun k q W ⟨h1, h2, h3, h4, h5, h6⟩ => ⟨by rw [h1, hl], by rw [h1]; exact h3, h4.cell 0⟩)
  p ⟨rfl, by rw [← hl]; exact bdd_length p, hb1, hbx1, hr1, hB1⟩
  ?a1 ?assign ?body ?done ?stop)
 case assign =>
  intro l k x W K hK
  gi_wp2
  exact hK
 case body =>
  rintro l k q W hk ⟨rfl, h2, h3, h4, h5, h6⟩ hsW
  have hc5 := h5.cell 0
  have hf5 := h5.frozen 0
  by_cases hx : coef q k = 0
  ·have hx0 : (((coef q k).n : Int) == 0) = true := by rw [hx]; rfl
   have hx1 : (((coef q k).n : Int) != 0) = false := by rw [hx]; rfl
   gi_wp2
   refine ⟨keeps_below (Below.refl _ _), q, rfl, fun i hi => ?_, h3, h4, h5, h6⟩
   rcases Nat.eq_or_lt_of_le hi with rfl | hi
   ·exact hx
   ·exact h2 i hi
  ·have hx0 : (((coef q k).n : Int) == 0) = false := n_beq0 hx
   have hx1 : (((coef q k).n : Int) != 0) = true := by simp [bne, hx0]
   have hlen : len q = k + 1 := len_top hx h2
   gi_wp2
   exact ⟨(KeepsOthers.setCell _ _ _).from _, rfl, by rw [hlen, show (((k + 1 : Nat) : Int) - 1) = (k : Int) by omega]; exact h5.set_ 0 _, h6.setCell (p := ⟨w.heap.size, 0, none⟩) (Nat.le_refl _) _⟩
 case done =>
  rintro q W ⟨rfl, h2, h3, h4, h5, h6⟩ hD
  have hc5 := h5.cell 0
  have hf5 := h5.frozen 0
  go_wp2
  have hK := (KeepsOthers.setCell W ⟨w.heap.size, 0, none⟩ (.int .i64 (-1))).same _ _ hD rfl
  refine ⟨by simp, .inl ⟨_, _, rfl, run_takeDeferred hK, ?_⟩⟩
  have ht : Turn w.heap.size (W.setCell ⟨w.heap.size, 0, none⟩ (.int .i64 (-1))) _ := Turn.put hK rfl (by omega) (.deferred none)
  have hc6 := ht.cell ((h5.set_ 0 (.int .i64 (-1))).cell 0)
  have hlen : len q = 0 := len_zero.2 (bdd_zero.1 h2)
  refine ⟨.int .i64 (-1), ?_, by rw [hlen]; rfl, (h6.setCell (p := ⟨w.heap.size, 0, none⟩) (Nat.le_refl _) _).trans ht.below⟩
  simp [results, Tryz.results163, go_sem, hc6]
 case stop =>
  rintro j W ⟨rfl, h2, h3⟩ hD
  refine wpIn_wide.2 ?_
  go_wp2
  refine ⟨by simp, .inl ⟨_, _, rfl, run_takeDeferred hD, ?_⟩⟩
  have ht : Turn w.heap.size W _ := Turn.put hD rfl (by omega) (.deferred none)
  have hc6 := ht.cell (h2.cell 0)
  refine ⟨.int .i64 ((len p : Int) - 1), ?_, rfl, h3.trans ht.below⟩
  simp [results, Tryz.results163, go_sem, hc6]
theorem trim_take_len (p : List F8) : trim p = p.take (len p) :=
 trim_take p (len p) (len_le p) (fun i h1 _ => bdd_len p i h1) (by
  rcases Nat.eq_zero_or_pos (len p) with h | h
  ·exact .inl h
  ·exact .inr (lead h))
structure Cut (A A2 : Option Addr) : Prop where
 same : ∀ b off, A = some ⟨b, off, none⟩ → A2 = A
 nil : A = none → A2 = none
theorem Cut.bytes {A A2 : Option Addr} {p : List F8} {w : World} (h : Cut A A2) (hb : Bytes w A (bs p)) : Bytes w A2 (bs (trim p)) := by
 by_cases h0 : 0 < p.length
 ·obtain ⟨b, off, e⟩ := where_ hb h0
  rw [h.same b off e, trim_take_len]
  exact bytes_take hb _
 ·have : p = [] := List.eq_nil_of_length_eq_zero (by omega)
  subst this
  exact Bytes.nil _ _
theorem Cut.own {A A2 : Option Addr} {p : List F8} {w : World} {B m c : Nat} {e : TypeId} (h : Cut A A2) (hl : p.length = m) (ho : Own w B e (.slice A m c) (bv (bs p))) : Own w B e (.slice A2 (len p) c) (bv (bs (trim p))) := by
 have hlen : (bv (bs (trim p))).length = len p := by rw [bvs_length]; rfl
 refine ⟨by rw [Nat.mul_one], ?_⟩
 rw [hlen]
 rcases ho.2 with ⟨h1, h2⟩ | ⟨g, cap, cur, h1, h2, h3, h4, h5, h6, h7⟩
 ·injection h1 with h1 h3 h4
  subst h1 h3 h4
  have : p = [] := List.eq_nil_of_length_eq_zero hl
  subst this
  rw [h.nil rfl]
  exact .inl ⟨rfl, rfl⟩
 ·injection h1 with h1 h8 h9
  subst h1 h9
  rw [h.same g 0 rfl]
  have hle : len p ≤ m := by have := len_le p; omega
  rw [bvs_length, hl] at h7 h4
  refine .inr ⟨g, c, cur, rfl, h2, h3, by omega, h5, h6, ?_⟩
  rw [trim_take_len, show bv (bs (p.take (len p))) = (bv (bs p)).take (len p) by simp [bv, bs, List.map_take], ← h7, List.take_take]
  congr 1
  omega
theorem cut_run (A : Option Addr) (m c n : Nat) (hn : n ≤ m) (hc : m ≤ c) :
  ∃ A2, (∀ w, (Instr.slice 22 (.slice A m c) none (some (.int .i64 (n : Int))) none).run Tryz.prog w = .ok (.slice A2 n c) w) ∧ Cut A A2 := by
 refine ⟨if c = 0 then A else A.map (·.add (0 * 1)), fun w => ?_, fun b off e => ?_, fun e => ?_⟩
 ·obtain ⟨i, hi, _, hi2, _⟩ := info_parts info_u8
  simp [Instr.slice, Instr.sliceBounds, Instr.sliceBound, run_underlying Tryz.underlying22, asIntOf, sizeOf, typeInfo, Sem.run_bind, hi]
  intro h; omega
 ·subst e
  split
  ·rfl
  ·simp only [Option.map_some, Nat.zero_mul, addr_add, Nat.add_zero]
 ·subst e
  split <;> rfl
set_option maxHeartbeats 1000000 in
theorem trimmed_calls (A : Option Addr) (p : List F8) (m c : Nat) (w : World) (hl : p.length = m) (hb : Bytes w A (bs p)) (hc : m ≤ c) (hm : m ≤ 1000000) :
  Calls Tryz.prog 120 #[.slice A m c] w fun e w' => ∃ A2, e = .returned (.slice A2 (len p) c) ∧ Cut A A2 ∧ Below w.heap.size w w' := by
 subst hl
 have hle := len_le p
 obtain ⟨A2, hs, hcut⟩ := cut_run A p.length c (len p) hle hc
 obtain ⟨n, hn⟩ : ∃ n, len p = n := ⟨_, rfl⟩
 rw [hn] at hs hle ⊢
 have HN := Lib.hid hn
 clear hn
 go_enter Tryz.func120, Tryz.ntmps120
 go_wp2_with (go_at_call 163; refine (degree_calls _ p _ _ _ rfl hb hc hm).mono ?_; rintro e w' ⟨rfl, hB⟩; rw [HN.out])
 go_ret
 exact ⟨A2, rfl, hcut, hB⟩
def NewRes (pf : Option Addr) (w : World) (e : Ending) (w' : World) : Prop :=
 ∃ g, e = .returned (.pointer (some ⟨g, 0, none⟩)) ∧ (pf = some ⟨g, 0, none⟩ ∧ w = w' ∨ pf = none ∧ g = w.heap.size ∧ w' = w.alloc (.cells (fcells 0 0 0) 98))
theorem orNew_calls (pf : Option Addr) (w : World) (hf : FldP w pf) :
  Calls Tryz.prog 97 #[.pointer pf] w (NewRes pf w) := by
 rcases hf with rfl | ⟨g, rfl, _⟩
 ·go_enter Tryz.func97, Tryz.ntmps97
  go_wp2_with (go_at_call 15; refine (new_calls _).mono ?_; rintro e w' ⟨rfl, rfl⟩)
  go_ret
  exact ⟨_, rfl, .inr ⟨rfl, rfl, rfl⟩⟩
 ·go_enter Tryz.func97, Tryz.ntmps97
  go_wp2
  go_ret
  exact ⟨_, rfl, .inl ⟨rfl, rfl⟩⟩
set_option maxHeartbeats 1000000 in
theorem clone_calls (A : Option Addr) (p : List F8) (m c : Nat) (w : World) (hl : p.length = m) (hb : Bytes w A (bs p)) (_ : m ≤ c) (hm : m ≤ 1000000) :
  Calls Tryz.prog 99 #[.slice A m c] w fun e w' => Res w w' e p := by
 have HB := Lib.hid hb
 cases A with
 | none =>
  have hnil : ∀ w, (binOp .eql 22 (.slice none m c) (.slice none 0 0)).run Tryz.prog w = .ok (.bool true) w := fun w => eql_nil none m c w
  have h0 : p = [] := by
   rcases p with _ | ⟨x, p⟩
   ·rfl
   ·obtain ⟨b, off, e⟩ := where_ hb (by simp)
    cases e
  clear hb
  go_enter Tryz.func99, Tryz.ntmps99
  go_wp2
  go_ret
  subst h0
  exact Res.mk (Own.nil _ _ _) (Below.refl _ _)
 | some a =>
  have hnil : ∀ w, (binOp .eql 22 (.slice (some a) m c) (.slice none 0 0)).run Tryz.prog w = .ok (.bool false) w := fun w => eql_nil (some a) m c w
  have hlv := bvs_length p
  rw [hl] at hlv
  have HL := Lib.hid hlv
  clear hb hl hlv
  go_enter Tryz.func99, Tryz.ntmps99
  go_wp2_with (at_builtin; refine wpList_app _ rfl (.tmp 5) (.tmp 6) _ rfl w.heap.size 5 _ 1 Tryz.underlying22 info_u8 rfl (by omega) (.slice (some ⟨w.heap.size, 0, none⟩) 0 0) [] rfl (Own.lit w w.heap.size 5 #[] 0 (Nat.le_refl _) rfl (by decide)) (some a) m c (bv (bs p)) rfl HL.out (HB.out.alloc _).row (bv_one _) (by simp; omega) (by simp) ?_; intro v1 w1 hown1 hg1 _)
  have hbel : Below w.heap.size w w1 := ((Below.refl _ w).alloc (Nat.le_refl _) _).trans ((Own.lit w w.heap.size 5 #[] 0 (Nat.le_refl _) rfl (by decide)).grew (by simp) hg1)
  go_ret
  exact Res.mk (by simpa using hown1) hbel
def seenC (l : List F8) : Array Value := Array.ofFn (n := 256) fun i => .bool (l.any fun x => x.n == i.val)
theorem zero_seen (w : World) : (zeroValue 197).run Tryz.prog w = .ok (.agg (seenC [])) w := by kernel_rfl
theorem seenC_get (l : List F8) (x : F8) : (seenC l)[x.n]? = some (.bool (l.any fun y => y.n == x.n)) := by
 have := x.h
 simp [seenC, this]
theorem seenC_set (l : List F8) (x : F8) : (seenC l).setIfInBounds x.n (.bool true) = seenC (l ++ [x]) := by
 apply Array.ext
 ·simp [seenC]
 ·intro i h1 h2
  have h3 : i < (seenC l).size := by simpa using h1
  rw [Array.getElem_setIfInBounds h3]
  simp only [seenC, Array.getElem_ofFn, List.any_append, List.any_cons, List.any_nil, Bool.or_false]
  by_cases e : x.n = i
  ·simp [e]
  ·have : (x.n == i) = false := by simpa using e
   rw [if_neg e, this, Bool.or_false]
theorem any_n (l : List F8) (x : F8) : (l.any fun y => y.n == x.n) = decide (x ∈ l) := by
 rw [Bool.eq_iff_iff]
 simp only [List.any_eq_true, beq_iff_eq, decide_eq_true_eq]
 exact ⟨fun ⟨y, hy, e⟩ => by rw [← F8.n_inj.1 e]; exact hy, fun h => ⟨x, h, rfl⟩⟩
theorem nodup_snoc {l : List F8} {x : F8} : (l ++ [x]).Nodup ↔ l.Nodup ∧ x ∉ l := by
 rw [List.nodup_append]
 constructor
 ·rintro ⟨h1, _, h2⟩
  exact ⟨h1, fun hx => h2 x hx x (by simp) rfl⟩
 ·rintro ⟨h1, h2⟩
  exact ⟨h1, by simp, fun a ha b hb e => by simp at hb; subst hb; subst e; exact h2 ha⟩
theorem not_nodup_of_take {p : List F8} {k : Nat} (h : ¬ (p.take k).Nodup) : ¬ p.Nodup := fun hp => h (hp.sublist (List.take_sublist _ _))
set_option maxRecDepth 100000 in
set_option maxHeartbeats 1000000 in
theorem twice_calls (A : Option Addr) (p : List F8) (m c : Nat) (w : World) (hl : p.length = m) (hb : Bytes w A (bs p)) (_ : m ≤ c) (hm : m ≤ 1000000) :
  Calls Tryz.prog 130 #[.slice A m c] w fun e w' => e = .returned (.bool (!decide p.Nodup)) ∧ Below w.heap.size w w' := by
 have hz := zero_seen
 have HB := Lib.hid hb
 clear hb
 go_enter Tryz.func130, Tryz.ntmps130
 go_wp2
 go_loopw [8] (fun i wr => ∃ k : Nat, k ≤ m ∧ i = .int .i64 k ∧ Hid (Block wr w.heap.size 197 (seenC (p.take k))) ∧ Hid ((p.take k).Nodup) ∧ Below w.heap.size w wr) (fun i _ => m - (intOf i).toNat)
 case atStart => exact ⟨0, by omega, rfl, Lib.hid (Block.new w _ _), Lib.hid (by simp), (Below.refl _ w).alloc (Nat.le_refl _) _⟩
 case round =>
  obtain ⟨k, hk, rfl, HS, HN, HW⟩ := hrel
  by_cases hkk : k < m
  ·obtain ⟨b, off, rfl⟩ := where_ HB.out (by omega)
   have hcell := cellAt (HB.out.below HW) k (by omega)
   obtain ⟨x, hx⟩ : ∃ x, coef p k = x := ⟨_, rfl⟩
   rw [hx] at hcell
   have hxb := f8_bounds x
   have ht : p.take (k + 1) = p.take k ++ [x] := by rw [take_succ' p (by omega), ← coef_of_lt (by omega), hx]
   have HT := Lib.hid ht
   have hs := (HS.out.cell x.n).trans (seenC_get _ _)
   rw [any_n] at hs
   have hfz := HS.out.frozen x.n
   clear hx ht
   by_cases hin : x ∈ p.take k
   ·rw [decide_eq_true hin] at hs
    have HNO : Hid (decide p.Nodup = false) := Lib.hid (decide_eq_false (not_nodup_of_take (k := k + 1) (by rw [HT.out, nodup_snoc]; exact fun h => h.2 hin)))
    clear hin
    go_wp2
    go_ret
    exact ⟨by rw [HNO.out]; rfl, HW⟩
   ·rw [decide_eq_false hin] at hs
    have HN2 : Hid ((p.take (k + 1)).Nodup) := Lib.hid (by rw [HT.out, nodup_snoc]; exact ⟨HN.out, hin⟩)
    have HS2 : Hid (Block (wr.setCell ⟨w.heap.size, x.n, none⟩ (.bool true)) w.heap.size 197 (seenC (p.take (k + 1)))) := Lib.hid (by rw [HT.out, ← seenC_set]; exact HS.out.set_ _ _)
    clear hin
    go_wp2
    go_roundw
    case rel => exact ⟨k + 1, by omega, by go_num, HS2, HN2, HW.setCell (p := ⟨w.heap.size, x.n, none⟩) (Nat.le_refl _) _⟩
    case measure => simp [intOf]; omega
  ·obtain rfl : k = m := by omega
   have HY : Hid (decide p.Nodup = true) := Lib.hid (decide_eq_true (by have := HN.out; rwa [List.take_of_length_le (by omega)] at this))
   clear HN hl hkk
   go_wp2
   go_ret
   exact ⟨by rw [HY.out]; rfl, HW⟩
end Go.Proofs.YtofihklinkpbiaaGreat.Poly

namespace Go.Proofs.YtofihklinkpbiaaGreat.Poly
open F8
theorem DivBy.len_r {a b q r : List F8} (h : DivBy a b q r) : r.length < len b := by
 have : r.length = len r := by unfold len; rw [h.tr]
 rw [this]; exact h.lt
theorem DivBy.at_root {a q r : List F8} {x : F8} (h : DivBy a [x, 1] q r) : eval a x = eval r x := by
 rw [eval_congr x h.eqv, eval_padd, eval_pmul, eval_root, add_self, mul_zero, zero_add]
theorem DivBy.rest {a q r : List F8} {x : F8} (h : DivBy a [x, 1] q r) : r = [] ∧ eval a x = 0 ∨ ∃ y, r = [y] ∧ y ≠ 0 ∧ eval a x = y := by
 have h1 := h.len_r
 rw [len_lin] at h1
 have h2 := h.at_root
 cases r with
 | nil => exact .inl ⟨rfl, h2⟩
 | cons y r =>
  cases r with
  | nil =>
   refine .inr ⟨y, rfl, fun e => ?_, ?_⟩
   ·have := h.tr
    rw [e, trim_cons_of trim_nil, if_pos rfl] at this
    cases this
   ·rw [h2]; show y + x * 0 = y; rw [mul_zero, add_zero]
  | cons z r => simp only [List.length_cons] at h1; omega
theorem roots_one (x : F8) : trim (roots [x]) = [x, 1] := by
 have : trim (roots [x]) = trim [x, 1] := trim_congr (pmul_one [x, 1])
 rw [this]; exact trim_snoc [x] 1 one_ne_zero
end Go.Proofs.YtofihklinkpbiaaGreat.Poly

namespace Go.Proofs.YtofihklinkpbiaaGreat.Rd
open F8 Poly
def word (m xs : List F8) : List F8 := xs.map (eval m)
theorem word_length (m xs : List F8) : (word m xs).length = xs.length := by simp [word]
theorem word_append (m xs ys : List F8) : word m (xs ++ ys) = word m xs ++ word m ys := by simp [word]
theorem word_congr {m m' : List F8} (h : Eqv m m') (xs : List F8) : word m xs = word m' xs := List.map_congr_left fun x _ => eval_congr x h
theorem word_get {m xs : List F8} {i : Nat} (h : i < xs.length) : coef (word m xs) i = eval m (coef xs i) := by
 rw [coef_of_lt (by rw [word_length]; exact h), coef_of_lt h]; simp [word]
def full (p : List F8) (k : Nat) : List F8 := p.take k ++ List.replicate (k - p.length) 0
theorem full_length (p : List F8) (k : Nat) : (full p k).length = k := by simp [full]; omega
theorem eqv_app (p : List F8) (n : Nat) : Eqv (p ++ List.replicate n 0) p := by
 intro i
 rcases Nat.lt_or_ge i p.length with h | h
 ·rw [coef_of_lt h, coef_of_lt (by rw [List.length_append]; omega), List.getElem_append_left h]
 ·rw [coef_of_le h]
  rcases Nat.lt_or_ge i (p ++ List.replicate n (0 : F8)).length with h2 | h2
  ·rw [coef_of_lt h2, List.getElem_append_right h, List.getElem_replicate]
  ·exact coef_of_le h2
theorem full_eqv {p : List F8} {k : Nat} (h : p.length ≤ k) : Eqv (full p k) p := by
 unfold full; rw [List.take_of_length_le h]; exact eqv_app p _
theorem eq_of_eqv {p q : List F8} (hl : p.length = q.length) (h : Eqv p q) : p = q :=
 List.ext_getElem hl fun i h1 h2 => by have := h i; rwa [coef_of_lt h1, coef_of_lt h2] at this
theorem msg_only {m m' xs : List F8} {k : Nat} (h1 : m.length = k) (h2 : m'.length = k) (hk : k ≤ xs.length) (hn : xs.Nodup) (h : word m xs = word m' xs) : m = m' := by
 refine eq_of_eqv (h1.trans h2.symm) (Poly.only (n := k) (h1 ▸ bdd_length m) (h2 ▸ bdd_length m') hk hn fun x hx => ?_)
 exact List.map_inj_left.1 h x hx
theorem msg_of : ∀ (xs ys : List F8), xs.Nodup → xs.length = ys.length → ∃ m, m.length = xs.length ∧ word m xs = ys := by
 intro xs
 induction xs with
 | nil => intro ys _ hl; refine ⟨[], rfl, ?_⟩; cases ys with | nil => rfl | cons y ys => simp at hl
 | cons x xs ih =>
  intro ys hn hl
  cases ys with
  | nil => simp at hl
  | cons y ys =>
   obtain ⟨r, hr, hw⟩ := ih ys (List.nodup_cons.1 hn).2 (by simpa using hl)
   have hx : x ∉ xs := (List.nodup_cons.1 hn).1
   have hz : eval (roots xs) x ≠ 0 := fun h => hx ((eval_roots xs x).1 h)
   obtain ⟨c, hc⟩ : ∃ c, (y + eval r x) / eval (roots xs) x = c := ⟨_, rfl⟩
   have hcm : c * eval (roots xs) x = y + eval r x := by rw [← hc, div_mul _ hz]
   have hb : Bdd (padd r (scale c (roots xs))) (xs.length + 1) := by
    refine bdd_padd ((hr ▸ bdd_length r).mono (Nat.le_succ _)) (fun i hi => ?_)
    rw [coef_scale, bdd_len (roots xs) i (by rw [len_roots]; exact hi), mul_zero]
   have ht : (trim (padd r (scale c (roots xs)))).length ≤ xs.length + 1 := len_le_of_bdd hb
   have he : ∀ z, eval (full (trim (padd r (scale c (roots xs)))) (xs.length + 1)) z = eval r z + c * eval (roots xs) z := fun z => by
    rw [eval_congr z (full_eqv ht), eval_trim, eval_padd, eval_scale]
   refine ⟨full (trim (padd r (scale c (roots xs)))) (xs.length + 1), by rw [full_length]; rfl, ?_⟩
   show eval _ x :: word _ xs = y :: ys
   congr 1
   ·rw [he, hcm, F8.add_comm y, ← F8.add_assoc, add_self, zero_add]
   ·rw [← hw]
    refine List.map_congr_left fun z hzm => ?_
    rw [he, (eval_roots xs z).2 hzm, mul_zero, add_zero]
theorem split_ok {l pts ys : List F8} {k : Nat} (h1 : word l (pts.take k) = ys.take k) (h2 : word l (pts.drop k) = ys.drop k) : word l pts = ys := by
 rw [← List.take_append_drop k pts, word_append, h1, h2, List.take_append_drop]
theorem word_take {m pts ys : List F8} (k : Nat) (h : word m pts = ys) : word m (pts.take k) = ys.take k := by subst h; simp [word]
theorem word_drop {m pts ys : List F8} (k : Nat) (h : word m pts = ys) : word m (pts.drop k) = ys.drop k := by subst h; simp [word]
theorem split_no {l pts ys : List F8} {k : Nat} (hl : l.length = k) (hk : k ≤ pts.length) (hn : pts.Nodup) (h1 : word l (pts.take k) = ys.take k) (h2 : word l (pts.drop k) ≠ ys.drop k) :
  ∀ m : List F8, m.length = k → word m pts ≠ ys := fun m hm h => by
 have := msg_only hm hl (by rw [List.length_take]; omega) (hn.sublist (List.take_sublist k _)) ((word_take k h).trans h1.symm)
 subst this
 exact h2 (word_drop k h)
theorem thru_word {xs ys r : List F8} (hl : xs.length = ys.length) (h : Thru xs ys r) : word r xs = ys :=
 List.ext_getElem (by rw [word_length, hl]) fun i h1 h2 => by
  simp only [word, List.getElem_map]
  exact h.val i (by rwa [word_length] at h1) h2
theorem thru_of {m xs ys : List F8} (h : m.length ≤ xs.length) (hw : word m xs = ys) : Thru xs ys (trim m) :=
 ⟨trim_trim m, ((bdd_length m).mono h).congr (trim_eqv m).symm, fun i h1 h2 => by subst hw; rw [eval_trim]; simp [word]⟩
theorem thru_length {xs ys r : List F8} (h : Thru xs ys r) : r.length ≤ xs.length := by
 have := len_le_of_bdd h.bdd
 unfold Poly.len at this
 rwa [h.tr] at this
def ptsAt (xs : List F8) (pl : List Int) : List F8 := pl.map fun i => coef xs i.toNat
theorem ptsAt_length (xs : List F8) (pl : List Int) : (ptsAt xs pl).length = pl.length := by simp [ptsAt]
def OkP (n : Nat) (pl : List Int) : Prop := (∀ i ∈ pl, 0 ≤ i ∧ i < (n : Int)) ∧ pl.Nodup
theorem ptsAt_nodup {xs : List F8} {pl : List Int} (hn : xs.Nodup) (h : OkP xs.length pl) : (ptsAt xs pl).Nodup := by
 unfold ptsAt
 refine List.nodup_iff_pairwise_ne.2 (List.pairwise_map.2 (h.2.imp_of_mem fun {a b} ha hb hne e => hne ?_))
 have h1 := h.1 a ha
 have h2 := h.1 b hb
 rw [coef_of_lt (by omega), coef_of_lt (by omega)] at e
 have := (List.getElem_inj hn).1 e
 omega
def DecIs (xs : List F8) (k : Nat) (pl : List Int) (ys l : List F8) (n : Int) : Prop :=
 (¬ (pl.length = ys.length ∧ OkP xs.length pl) ∧ l = [] ∧ n = 2) ∨
 ((pl.length = ys.length ∧ OkP xs.length pl) ∧ pl.length < k ∧ l = [] ∧ n = 70) ∨
 ((pl.length = ys.length ∧ OkP xs.length pl) ∧ k ≤ pl.length ∧ n = 0 ∧ l.length = k ∧ word l (ptsAt xs pl) = ys) ∨
 ((pl.length = ys.length ∧ OkP xs.length pl) ∧ k ≤ pl.length ∧ n = 71 ∧ l = [] ∧ ∀ m : List F8, m.length = k → word m (ptsAt xs pl) ≠ ys)
def encR (xs : List F8) (k : Nat) (m : List F8) : List F8 × Int := if m.length = k then (word m xs, 0) else ([], 2)
def newR (xs : List F8) (k : Int) : Int := if xs.Nodup ∧ 1 ≤ k ∧ k ≤ xs.length then 0 else 2
def alike (a b xs : List F8) : Nat := (xs.filter fun x => decide (eval a x = eval b x)).length
theorem alike_lt {a b xs : List F8} {k : Nat} (ha : a.length = k) (hb : b.length = k) (hn : xs.Nodup) (hne : a ≠ b) : alike a b xs < k := by
 rcases Nat.lt_or_ge (alike a b xs) k with h | h
 ·exact h
 ·refine absurd (eq_of_eqv (ha.trans hb.symm) (Poly.only (n := k) (ha ▸ bdd_length a) (hb ▸ bdd_length b) h (hn.sublist List.filter_sublist) fun x hx => ?_)) hne
  simpa using (List.mem_filter.1 hx).2
theorem alike_snoc (a b xs : List F8) (x : F8) : alike a b (xs ++ [x]) = alike a b xs + if eval a x = eval b x then 1 else 0 := by
 unfold alike
 rw [List.filter_append, List.length_append]
 congr 1
 by_cases h : eval a x = eval b x <;> simp [h]
end Go.Proofs.YtofihklinkpbiaaGreat.Rd

namespace Go.Proofs.YtofihklinkpbiaaGreat.Rd
open Go.RowKit Go.Shelf F8 Poly GF
attribute [local go_sem] Oper.semAt_some
set_option maxHeartbeats 1000000 in
theorem equal_calls (A B : Option Addr) (p q : List F8) (m n c d : Nat) (w : World) (hm : p.length = m) (hn : q.length = n) (hb : Bytes w A (bs p)) (hb2 : Bytes w B (bs q)) :
  Calls Tryz.prog 109 #[.slice A m c, .slice B n d] w fun e w' => e = .returned (.bool (decide (p = q))) ∧ w = w' := by
 have c1 := conv_f hb m c hm
 have c2 := conv_f hb2 n d hn
 have HE : Hid (((str (bs p)).toList == (str (bs q)).toList) = decide (p = q)) := Lib.hid (by
  rw [Bool.eq_iff_iff, beq_iff_eq, decide_eq_true_iff, ByteArray.toList_eq, ByteArray.toList_eq, str_data, str_data]
  constructor
  ·intro h
   refine bs_inj.1 (str_inj (bs_lt p) (bs_lt q) ?_)
   unfold str; rw [h]
  ·intro h; rw [h])
 clear hb hb2
 go_enter Tryz.func109, Tryz.ntmps109
 go_wp2
 go_ret
 exact ⟨GF.ret_bool HE.out, rfl⟩
def codeC (g : Nat) (A : Option Addr) (n c k : Nat) : Array Value := #[.pointer (some ⟨g, 0, none⟩), .slice A n c, .int .i64 k]
theorem isNone_nil (w : World) : Calls Tryz.prog 126 #[.pointer none] w fun e w' => e = .returned (.bool true) ∧ w = w' := by
 go_enter Tryz.func126, Tryz.ntmps126
 go_wp2
 go_ret
 exact ⟨rfl, rfl⟩
theorem isNone_calls {w : World} {b g : Nat} {A : Option Addr} {n c k : Nat} (h : Block w b 153 (codeC g A n c k)) (hk : 1 ≤ k) :
  Calls Tryz.prog 126 #[.pointer (some ⟨b, 0, none⟩)] w fun e w' => e = .returned (.bool false) ∧ w = w' := by
 have h2 := h.cell 2
 simp only [codeC] at h2
 have hk2 : ((k : Int) == 0) = false := by simp; omega
 go_enter Tryz.func126, Tryz.ntmps126
 go_wp2
 go_ret
 exact ⟨rfl, rfl⟩
set_option maxRecDepth 100000 in
set_option maxHeartbeats 1000000 in
theorem repeat_calls (A : Option Addr) (p : List F8) (m c : Nat) (w : World) (hl : p.length = m) (hb : Bytes w A (bs p)) (hm : m ≤ 1000000) :
  Calls Tryz.prog 98 #[.slice A m c] w fun e w' => e = .returned (.bool (!decide p.Nodup)) ∧ Below w.heap.size w w' := by
 have hz := zero_seen
 have HB := Lib.hid hb
 clear hb
 go_enter Tryz.func98, Tryz.ntmps98
 go_wp2
 go_loopw [8] (fun i wr => ∃ k : Nat, k ≤ m ∧ i = .int .i64 k ∧ Hid (Block wr w.heap.size 197 (seenC (p.take k))) ∧ Hid ((p.take k).Nodup) ∧ Below w.heap.size w wr) (fun i _ => m - (intOf i).toNat)
 case atStart => exact ⟨0, by omega, rfl, Lib.hid (Block.new w _ _), Lib.hid (by simp), (Below.refl _ w).alloc (Nat.le_refl _) _⟩
 case round =>
  obtain ⟨k, hk, rfl, HS, HN, HW⟩ := hrel
  by_cases hkk : k < m
  ·obtain ⟨b, off, rfl⟩ := where_ HB.out (by omega)
   have hcell := cellAt (HB.out.below HW) k (by omega)
   obtain ⟨x, hx⟩ : ∃ x, coef p k = x := ⟨_, rfl⟩
   rw [hx] at hcell
   have hxb := f8_bounds x
   have ht : p.take (k + 1) = p.take k ++ [x] := by rw [take_succ' p (by omega), ← coef_of_lt (by omega), hx]
   have HT := Lib.hid ht
   have hs := (HS.out.cell x.n).trans (seenC_get _ _)
   rw [any_n] at hs
   have hfz := HS.out.frozen x.n
   clear hx ht
   by_cases hin : x ∈ p.take k
   ·rw [decide_eq_true hin] at hs
    have HNO : Hid (decide p.Nodup = false) := Lib.hid (decide_eq_false (not_nodup_of_take (k := k + 1) (by rw [HT.out, nodup_snoc]; exact fun h => h.2 hin)))
    clear hin
    go_wp2
    go_ret
    exact ⟨by rw [HNO.out]; rfl, HW⟩
   ·rw [decide_eq_false hin] at hs
    have HN2 : Hid ((p.take (k + 1)).Nodup) := Lib.hid (by rw [HT.out, nodup_snoc]; exact ⟨HN.out, hin⟩)
    have HS2 : Hid (Block (wr.setCell ⟨w.heap.size, x.n, none⟩ (.bool true)) w.heap.size 197 (seenC (p.take (k + 1)))) := Lib.hid (by rw [HT.out, ← seenC_set]; exact HS.out.set_ _ _)
    clear hin
    go_wp2
    go_roundw
    case rel => exact ⟨k + 1, by omega, by go_num, HS2, HN2, HW.setCell (p := ⟨w.heap.size, x.n, none⟩) (Nat.le_refl _) _⟩
    case measure => simp [intOf]; omega
  ·obtain rfl : k = m := by omega
   have HY : Hid (decide p.Nodup = true) := Lib.hid (decide_eq_true (by have := HN.out; rwa [List.take_of_length_le (by omega)] at this))
   clear HN hl hkk
   go_wp2
   go_ret
   exact ⟨by rw [HY.out]; rfl, HW⟩
def zs (l : List Int) : List Value := l.map fun z => Value.int .i64 z
theorem zs_length (l : List Int) : (zs l).length = l.length := by simp [zs]
theorem zs_at {w : World} {A : Option Addr} {l : List Int} (h : Row w A (zs l)) {k : Nat} (hk : k < l.length) : ∃ b off, A = some ⟨b, off, none⟩ ∧ w.cell? ⟨b, off + k, none⟩ = some (.int .i64 l[k]) :=
 h k _ (by simp [zs, hk])
def seenI (l : List Int) : Array Value := Array.ofFn (n := 256) fun i => .bool (l.any fun x => x == (i.val : Int))
theorem zero_seenI (w : World) : (zeroValue 197).run Tryz.prog w = .ok (.agg (seenI [])) w := by kernel_rfl
theorem seenI_get (l : List Int) (x : Nat) (hx : x < 256) : (seenI l)[x]? = some (.bool (decide ((x : Int) ∈ l))) := by
 have e : (l.any fun y => y == (x : Int)) = decide ((x : Int) ∈ l) := by
  rw [Bool.eq_iff_iff]
  simp only [List.any_eq_true, beq_iff_eq, decide_eq_true_eq]
  exact ⟨fun ⟨y, hy, e⟩ => by rw [← e]; exact hy, fun h => ⟨_, h, rfl⟩⟩
 simp [seenI, hx]
 simpa using e
theorem seenI_set (l : List Int) (x : Nat) : (seenI l).setIfInBounds x (.bool true) = seenI (l ++ [(x : Int)]) := by
 apply Array.ext
 ·simp [seenI]
 ·intro i h1 h2
  have h3 : i < (seenI l).size := by simpa using h1
  rw [Array.getElem_setIfInBounds h3]
  simp only [seenI, Array.getElem_ofFn, List.any_append, List.any_cons, List.any_nil, Bool.or_false]
  by_cases e : x = i
  ·simp [e]
  ·have : ((x : Int) == (i : Int)) = false := by simp; omega
   rw [if_neg e, this, Bool.or_false]
theorem okP_take {n : Nat} {pl : List Int} {k : Nat} (hk : k < pl.length) (h : OkP n (pl.take k)) : OkP n (pl.take (k + 1)) ↔ (0 ≤ pl[k] ∧ pl[k] < (n : Int)) ∧ pl[k] ∉ pl.take k := by
 rw [take_succ' pl hk]
 unfold OkP
 rw [List.nodup_append]
 constructor
 ·rintro ⟨h1, _, _, h3⟩
  exact ⟨h1 _ (List.mem_append.2 (.inr (List.mem_singleton.2 rfl))), fun hx => h3 _ hx _ (List.mem_singleton.2 rfl) rfl⟩
 ·rintro ⟨h1, h2⟩
  refine ⟨fun i hi => ?_, h.2, by simp, fun a ha b hb e => by simp at hb; subst hb; subst e; exact h2 ha⟩
  rcases List.mem_append.1 hi with hi | hi
  ·exact h.1 i hi
  ·simp at hi; subst hi; exact h1
theorem okP_of_take {n : Nat} {pl : List Int} (k : Nat) (h : OkP n pl) : OkP n (pl.take k) := ⟨fun i hi => h.1 i (List.mem_of_mem_take hi), h.2.sublist (List.take_sublist _ _)⟩
instance (n : Nat) (pl : List Int) : Decidable (OkP n pl) := inferInstanceAs (Decidable (_ ∧ _))
set_option maxRecDepth 100000 in
set_option maxHeartbeats 2000000 in
theorem have_calls (A : Option Addr) (n c : Nat) (hn : n ≤ 256) (B : Option Addr) (pl : List Int) (m d : Nat) (w : World) (hl : pl.length = m) (hb : Row w B (zs pl)) (hm : m ≤ 1000000000) :
  Calls Tryz.prog 195 #[.slice A n c, .slice B m d] w fun e w' => e = .returned (.bool (decide (OkP n pl))) ∧ Below w.heap.size w w' := by
 have hz := zero_seenI
 have HB := Lib.hid hb
 clear hb
 go_enter Tryz.func195, Tryz.ntmps195
 go_wp2
 go_loopw [10] (fun i wr => ∃ k : Nat, k ≤ m ∧ i = .int .i64 k ∧ Hid (Block wr w.heap.size 197 (seenI (pl.take k))) ∧ Hid (OkP n (pl.take k)) ∧ Below w.heap.size w wr) (fun i _ => m - (intOf i).toNat)
 case atStart => exact ⟨0, by omega, rfl, Lib.hid (Block.new w _ _), Lib.hid ⟨by simp, by simp⟩, (Below.refl _ w).alloc (Nat.le_refl _) _⟩
 case round =>
  obtain ⟨k, hk, rfl, HS, HN, HW⟩ := hrel
  by_cases hkk : k < m
  ·obtain ⟨b, off, rfl, hcell⟩ := zs_at (HB.out.below HW) (k := k) (by omega)
   have hiff := okP_take (n := n) (by omega : k < pl.length) HN.out
   have hout : ¬ OkP n (pl.take (k + 1)) → decide (OkP n pl) = false := fun h => decide_eq_false fun h2 => h (okP_of_take (k + 1) h2)
   have HT : Hid (pl.take (k + 1) = pl.take k ++ [pl[k]]) := Lib.hid (take_succ' pl (by omega))
   obtain ⟨z, hz2⟩ : ∃ z, pl[k] = z := ⟨_, rfl⟩
   rw [hz2] at hcell hiff HT
   have HI := Lib.hid hiff
   have HOUT := Lib.hid hout
   clear hz2 hiff hout
   by_cases h0 : z < 0
   ·have HNO : Hid (decide (OkP n pl) = false) := Lib.hid (HOUT.out (by rw [HI.out]; rintro ⟨⟨h, _⟩, _⟩; omega))
    go_wp2
    go_ret
    exact ⟨by rw [HNO.out]; rfl, HW⟩
   by_cases h1 : (n : Int) ≤ z
   ·have HNO : Hid (decide (OkP n pl) = false) := Lib.hid (HOUT.out (by rw [HI.out]; rintro ⟨⟨_, h⟩, _⟩; omega))
    go_wp2
    go_ret
    exact ⟨by rw [HNO.out]; rfl, HW⟩
   obtain ⟨x, rfl⟩ : ∃ x : Nat, z = (x : Int) := ⟨z.toNat, by omega⟩
   have hx : x < 256 := by omega
   have hxn : (x : Int) < (n : Int) := by omega
   have hs := (HS.out.cell x).trans (seenI_get _ x hx)
   have hfz := HS.out.frozen x
   clear h0 h1
   by_cases hin : (x : Int) ∈ pl.take k
   ·rw [decide_eq_true hin] at hs
    have HNO : Hid (decide (OkP n pl) = false) := Lib.hid (HOUT.out (by rw [HI.out]; rintro ⟨_, h⟩; exact h hin))
    clear hin
    go_wp2
    go_ret
    exact ⟨by rw [HNO.out]; rfl, HW⟩
   ·rw [decide_eq_false hin] at hs
    have HN2 : Hid (OkP n (pl.take (k + 1))) := Lib.hid (by rw [HI.out]; exact ⟨⟨by omega, hxn⟩, hin⟩)
    have HS2 : Hid (Block (wr.setCell ⟨w.heap.size, x, none⟩ (.bool true)) w.heap.size 197 (seenI (pl.take (k + 1)))) := Lib.hid (by rw [HT.out, ← seenI_set]; exact HS.out.set_ _ _)
    clear hin
    go_wp2
    go_roundw
    case rel => exact ⟨k + 1, by omega, by go_num, HS2, HN2, HW.setCell (p := ⟨w.heap.size, x, none⟩) (Nat.le_refl _) _⟩
    case measure => simp [intOf]; omega
  ·obtain rfl : k = m := by omega
   have HY : Hid (decide (OkP n pl) = true) := Lib.hid (decide_eq_true (by have := HN.out; rwa [List.take_of_length_le (by omega)] at this))
   clear HN hl hkk
   go_wp2
   go_ret
   exact ⟨by rw [HY.out]; rfl, HW⟩
end Go.Proofs.YtofihklinkpbiaaGreat.Rd
