/- Of the program, joined: SySym, TrHelp, TrDec. -/
import Derived.Test.YtimcmdnlhallmabPb08
import Derived.StillTailTactics
import Derived.Deep.RegionHeld
import Derived.Test.YtimcmdnlhallmabPb07
namespace Go.Proofs.Ytimcmdnlhallmab.Sy
open Go.RowKit Go.Shelf F8 Poly GF Rd Ms
attribute [local go_sem] Oper.semAt_some
theorem isNode_calls (z : Int) (n : Nat) (w : World) : Calls Try.prog 33 #[.int .i64 z, .int .i64 n] w fun e w' => e = .returned (.bool (decide (0 ≤ z ∧ z < (n : Int)))) ∧ w = w' := by
 by_cases h0 : 0 ≤ z
 ·have h2 : decide (0 ≤ z) = true := decide_eq_true h0
  by_cases h1 : z < (n : Int)
  ·have h3 : decide (z < (n : Int)) = true := decide_eq_true h1
   have HB : Hid (decide (0 ≤ z ∧ z < (n : Int)) = true) := Lib.hid (decide_eq_true ⟨h0, h1⟩)
   go_enter Try.func33, Try.ntmps33
   go_wp2
   go_ret
   first | exact ⟨ret_bool HB.out.symm, rfl⟩ | exact ⟨rfl, rfl⟩
  ·have h3 : decide (z < (n : Int)) = false := decide_eq_false h1
   have HB : Hid (decide (0 ≤ z ∧ z < (n : Int)) = false) := Lib.hid (decide_eq_false (fun e => h1 e.2))
   go_enter Try.func33, Try.ntmps33
   go_wp2
   go_ret
   first | exact ⟨ret_bool HB.out.symm, rfl⟩ | exact ⟨rfl, rfl⟩
 ·have h2 : decide (0 ≤ z) = false := decide_eq_false h0
  have HB : Hid (decide (0 ≤ z ∧ z < (n : Int)) = false) := Lib.hid (decide_eq_false (fun e => h0 e.1))
  go_enter Try.func33, Try.ntmps33
  go_wp2
  go_ret
  first | exact ⟨ret_bool HB.out.symm, rfl⟩ | exact ⟨rfl, rfl⟩
def VOk (n s : Nat) (ps : List Int) (sh : List (Int × Nat)) : Prop := (sh.map Prod.fst).Nodup ∧ ∀ o ∈ sh, (0 ≤ o.1 ∧ o.1 < (n : Int)) ∧ o.1 ∉ ps ∧ o.2 = s
instance (n s : Nat) (ps : List Int) (sh : List (Int × Nat)) : Decidable (VOk n s ps sh) := inferInstanceAs (Decidable (_ ∧ _))
theorem vok_nil (n s : Nat) (ps : List Int) : VOk n s ps [] := ⟨List.nodup_nil, fun _ h => by simp at h⟩
theorem vok_snoc {n s : Nat} {ps : List Int} {sh : List (Int × Nat)} {o : Int × Nat} : VOk n s ps (sh ++ [o]) ↔ VOk n s ps sh ∧ ((0 ≤ o.1 ∧ o.1 < (n : Int)) ∧ o.1 ∉ sh.map Prod.fst ∧ o.1 ∉ ps ∧ o.2 = s) := by
 unfold VOk
 rw [List.map_append, List.nodup_append]
 constructor
 ·rintro ⟨⟨h1, _, h3⟩, h4⟩
  have h5 := h4 o (by simp)
  exact ⟨⟨h1, fun u hu => h4 u (List.mem_append_left _ hu)⟩, h5.1, fun hm => h3 _ hm o.1 (by simp) rfl, h5.2.1, h5.2.2⟩
 ·rintro ⟨⟨h1, h2⟩, h3, h4, h5, h6⟩
  refine ⟨⟨h1, by simp, fun a ha b hb e => ?_⟩, fun u hu => ?_⟩
  ·have : b = o.1 := by simpa using hb
   exact h4 (this ▸ e ▸ ha)
  ·rcases List.mem_append.1 hu with hu | hu
   ·exact h2 u hu
   ·have : u = o := by simpa using hu
    subst this; exact ⟨h3, h5, h6⟩
theorem vok_take {n s : Nat} {ps : List Int} {sh : List (Int × Nat)} (h : VOk n s ps sh) (i : Nat) : VOk n s ps (sh.take i) :=
 ⟨h.1.sublist ((List.take_sublist i sh).map _), fun o ho => h.2 o (List.mem_of_mem_take ho)⟩
def seenV (n : Nat) (ps : List Int) : List Value := (List.range n).map fun j : Nat => .bool (decide ((j : Int) ∈ ps))
theorem seenV_length (n : Nat) (ps : List Int) : (seenV n ps).length = n := by simp [seenV]
theorem seenV_set (n : Nat) (ps : List Int) (q : Nat) : (seenV n ps).set q (.bool true) = seenV n (ps ++ [(q : Int)]) := by
 apply List.ext_getElem
 ·simp [seenV]
 ·intro i h1 h2
  rw [List.getElem_set]
  simp only [seenV, List.getElem_map, List.getElem_range, List.mem_append, List.mem_singleton]
  by_cases e : q = i
  ·subst e; simp
  ·rw [if_neg e]
   congr 1
   have : ¬ ((i : Int) = (q : Int)) := by omega
   simp [this]
def elsN (l : List El) : List (Int × Nat) := l.map fun e => (e.p, e.s.length)
theorem info_bool : (Try.prog.info? 4).map (fun i => (i.zero, i.size, i.bytes)) = some (some (.bool false), 1, 1) := by kernel_rfl
theorem make_bools (w : World) (n : Nat) (hn : n ≤ 1000000) :
  ∃ w', (Instr.makeSlice 99 (.int .i64 (n : Int)) (.int .i64 (n : Int))).run Try.prog w = .ok (.slice (some ⟨w.heap.size, 0, none⟩) n n) w' ∧ Own w' w.heap.size 4 (.slice (some ⟨w.heap.size, 0, none⟩) n n) (seenV n []) ∧ Below w.heap.size w w' := by
 obtain ⟨i0, hi, hi1, hi2, hi3⟩ := info_parts info_bool
 obtain ⟨w1, hmk, ho, hg⟩ := run_make_full (P := Try.prog) w w.heap.size 99 4 i0 _ 1 Try.underlying99 hi hi1 hi2 .i64 .i64 n (by rw [hi3]; omega) (by simp only [maxLen]; omega) (Nat.le_refl _)
 have e : (madeCells (Value.bool false).cells (n * 1)).toList = seenV n [] := by
  apply List.ext_getElem
  ·simp [madeCells, Value.cells, seenV]
  ·intro i h1 h2
   simp [madeCells, Value.cells, seenV, Nat.mod_one]
 rw [e] at ho
 refine ⟨w1, hmk, ?_, (Below.refl w.heap.size w).grown hg (Nat.le_refl _) (fun _ h => by cases h)⟩
 unfold Own; rw [seenV_length]; exact ho
set_option maxRecDepth 100000 in
set_option maxHeartbeats 4000000 in
theorem valid_calls (A : Option Addr) (l : List El) (m c n s : Nat) (P : Option Addr) (ps : List Int) (k d : Nat) (w : World) (hl : l.length = m) (hm : m ≤ 1000) (hr : Row w A (cells2 l)) (hn : n ≤ 1000) (hk : ps.length = k) (hk2 : k ≤ 1000) (hp : Row w P (zs ps)) :
  Calls Try.prog 38 #[.slice A m c, .int .i64 (n : Nat), .int .i64 (s : Nat), .slice P k d] w fun e w' => e = .returned (.bool (decide (VOk n s ps (elsN l)))) ∧ Below w.heap.size w w' := by
 obtain ⟨w1, hmk, hO1, hB1⟩ := make_bools w n (by omega)
 have HR := Lib.hid hr
 have HM := Lib.hid hl
 have HP := Lib.hid hp
 have HK := Lib.hid hk
 have HO1 := Lib.hid hO1
 have HB1 := Lib.hid hB1
 have hmx1 : max (n : Int) 0 = (n : Int) := by omega
 clear hr hl hp hk hO1 hB1
 go_enter Try.func38, Try.ntmps38
 go_wp2
 go_loopw [17] (fun i wr => ∃ t : Nat, t ≤ m ∧ i = .int .i64 t ∧ Hid (VOk n s ps ((elsN l).take t)) ∧ Hid (Own wr w.heap.size 4 (.slice (some ⟨w.heap.size, 0, none⟩) n n) (seenV n (((elsN l).take t).map Prod.fst))) ∧ Hid (Below w.heap.size w wr)) (fun i _ => m - (intOf i).toNat)
 case atStart => exact ⟨0, by omega, rfl, Lib.hid (vok_nil _ _ _), HO1, HB1⟩
 case round =>
  clear HO1 HB1
  obtain ⟨t, ht, rfl, HV, HO, HW⟩ := hrel
  by_cases htm : t < m
  ·have hti : t < l.length := by rw [HM.out]; exact htm
   obtain ⟨b, off, rfl, hc0, hc1⟩ := row2_at (HR.out.below HW.out) hti
   have HE : Hid ((elsN l).take (t + 1) = (elsN l).take t ++ [((l[t]).p, (l[t]).s.length)]) := Lib.hid (by unfold elsN; rw [← List.map_take, take_succ' l hti, List.map_append, List.map_take]; rfl)
   obtain ⟨e, he⟩ : ∃ e, l[t] = e := ⟨_, rfl⟩
   rw [he] at hc0 hc1 HE
   obtain ⟨ep, h5⟩ : ∃ a, e.p = a := ⟨_, rfl⟩
   obtain ⟨eA, h6⟩ : ∃ a, e.A = a := ⟨_, rfl⟩
   obtain ⟨en, h7⟩ : ∃ a, e.s.length = a := ⟨_, rfl⟩
   obtain ⟨ec, h8⟩ : ∃ a, e.c = a := ⟨_, rfl⟩
   rw [h5] at hc0 HE
   rw [h7] at HE
   rw [h6, h7, h8] at hc1
   have hsz := HW.out.size
   have hv0 := (Block.new wr 52 #[.int .i64 ep, .slice eA en ec]).cell 0
   have hv1 := (Block.new wr 52 #[.int .i64 ep, .slice eA en ec]).cell 1
   have HWa := Lib.hid (HW.out.alloc hsz (.cells #[.int .i64 ep, .slice eA en ec] 52))
   have HOa := Lib.hid (HO.out.alloc (.cells #[.int .i64 ep, .slice eA en ec] 52))
   have HBad : ∀ X : Prop, (VOk n s ps ((elsN l).take (t + 1)) → X) → ¬ X → decide (VOk n s ps (elsN l)) = false := fun X hX hnX => decide_eq_false fun hv => hnX (hX (vok_take hv _))
   rw [HE.out] at HBad
   clear he h5 h6 h7 h8
   by_cases hnode : 0 ≤ ep ∧ ep < (n : Int)
   ·obtain ⟨q, rfl⟩ : ∃ q : Nat, ep = (q : Int) := ⟨ep.toNat, by omega⟩
    have hqn : q < n := by omega
    have HI : Hid (∀ V : World, Calls Try.prog 33 #[.int .i64 (q : Int), .int .i64 n] V fun e w' => e = .returned (.bool true) ∧ V = w') := Lib.hid fun V => by
     have := isNode_calls (q : Int) n V
     rw [decide_eq_true hnode] at this
     exact this
    have hcs := HOa.out.cellAt (seenV_length _ _) q (by rw [seenV_length]; exact hqn)
    have hgs : (seenV n (((elsN l).take t).map Prod.fst))[q]'(by rw [seenV_length]; exact hqn) = .bool (decide ((q : Int) ∈ ((elsN l).take t).map Prod.fst)) := by simp [seenV]
    rw [hgs] at hcs
    clear hgs
    by_cases hseen : (q : Int) ∈ ((elsN l).take t).map Prod.fst
    ·have HX := Lib.hid (HBad _ (fun h => (vok_snoc.1 h).2.2.1) (fun h => h hseen))
     rw [decide_eq_true hseen] at hcs
     clear HBad hseen hnode
     go_wp2_with (first | (go_at_call 33; refine (HI.out _).mono ?_; rintro e w1 ⟨rfl, rfl⟩))
     go_ret
     exact ⟨ret_bool HX.out.symm, HWa.out⟩
    ·rw [decide_eq_false hseen] at hcs
     have hcc := contains_calls P ps k d (q : Int) (wr.alloc (.cells #[.int .i64 (q : Int), .slice eA en ec] 52)) HK.out (by omega) (HP.out.below HWa.out)
     by_cases hout : (q : Int) ∈ ps
     ·have HX := Lib.hid (HBad _ (fun h => (vok_snoc.1 h).2.2.2.1) (fun h => h hout))
      rw [decide_eq_true hout] at hcc
      have HC := Lib.hid hcc
      clear HBad hseen hnode hout hcc
      go_wp2_with (first | (go_at_call 33; refine (HI.out _).mono ?_; rintro e w1 ⟨rfl, rfl⟩) | (go_at_call 48; refine HC.out.mono ?_; rintro e w1 ⟨rfl, rfl⟩))
      go_ret
      exact ⟨ret_bool HX.out.symm, HWa.out⟩
     ·rw [decide_eq_false hout] at hcc
      have HC := Lib.hid hcc
      clear hcc
      by_cases hlen : en = s
      ·have HV2 := Lib.hid (vok_snoc.2 ⟨HV.out, hnode, hseen, hout, hlen⟩ : VOk n s ps ((elsN l).take t ++ [((q : Int), en)]))
       have hd : ((en : Int) != (s : Int)) = false := by simp; omega
       have HO2 := Lib.hid (HOa.out.set_ (seenV_length _ _) q (.bool true))
       have hfz := HOa.out.frozenAt (seenV_length _ _) q
       have HW2 := Lib.hid (HWa.out.setCell (p := ⟨w.heap.size, q, none⟩) (Nat.le_refl _) (.bool true))
       have HS : Hid ((seenV n (((elsN l).take t).map Prod.fst)).set q (.bool true) = seenV n (((elsN l).take (t + 1)).map Prod.fst)) := Lib.hid (by rw [seenV_set, HE.out, List.map_append]; rfl)
       rw [HS.out] at HO2
       rw [← HE.out] at HV2
       clear HBad hseen hnode hout hlen HWa HOa HE HV HO HW
       go_wp2_with (first | (go_at_call 33; refine (HI.out _).mono ?_; rintro e w1 ⟨rfl, rfl⟩) | (go_at_call 48; refine HC.out.mono ?_; rintro e w1 ⟨rfl, rfl⟩))
       go_roundw
       case rel => exact ⟨t + 1, by omega, by go_num, HV2, HO2, HW2⟩
       case measure => simp [intOf]; omega
      ·have HX := Lib.hid (HBad _ (fun h => (vok_snoc.1 h).2.2.2.2) hlen)
       have hd : ((en : Int) != (s : Int)) = true := by simp; omega
       clear HBad hseen hnode hout
       go_wp2_with (first | (go_at_call 33; refine (HI.out _).mono ?_; rintro e w1 ⟨rfl, rfl⟩) | (go_at_call 48; refine HC.out.mono ?_; rintro e w1 ⟨rfl, rfl⟩))
       go_ret
       exact ⟨ret_bool HX.out.symm, HWa.out⟩
   ·have HI : Hid (∀ V : World, Calls Try.prog 33 #[.int .i64 ep, .int .i64 n] V fun e w' => e = .returned (.bool false) ∧ V = w') := Lib.hid fun V => by
     have := isNode_calls ep n V
     rw [decide_eq_false hnode] at this
     exact this
    have HX := Lib.hid (HBad _ (fun h => (vok_snoc.1 h).2.1) hnode)
    clear HBad hnode
    go_wp2_with (first | (go_at_call 33; refine (HI.out _).mono ?_; rintro e w1 ⟨rfl, rfl⟩))
    go_ret
    exact ⟨ret_bool HX.out.symm, HWa.out⟩
  ·obtain rfl : t = m := by omega
   have hv := HV.out
   rw [List.take_of_length_le (by unfold elsN; rw [List.length_map, HM.out]; exact Nat.le_refl _)] at hv
   have HX := Lib.hid (decide_eq_true hv : decide (VOk n s ps (elsN l)) = true)
   clear hv
   go_wp2
   go_ret
   exact ⟨ret_bool HX.out.symm, HW.out⟩
end Go.Proofs.Ytimcmdnlhallmab.Sy

namespace Go.Proofs.Ytimcmdnlhallmab.Tr
open Go.RowKit Go.Shelf F8 Poly GF Rd Ms
attribute [local go_sem] Oper.semAt_some
def HelpOk (n : Nat) (x y : Int) (m : Nat) : Prop := (0 ≤ x ∧ x < (n : Int)) ∧ (0 ≤ y ∧ y < (n : Int)) ∧ x ≠ y ∧ m = n - 1
instance (n : Nat) (x y : Int) (m : Nat) : Decidable (HelpOk n x y m) := inferInstanceAs (Decidable (_ ∧ _))
set_option maxRecDepth 100000 in
set_option maxHeartbeats 2000000 in
theorem help_good {S : Tc} {w : World} (h : S.Ok w) (i j : Nat) (hi : i < S.n) (hj : j < S.n) (hij : j ≠ i) (A : Option Addr) (s : List F8) (m c : Nat) (hl : s.length = m) (hm : m = S.n - 1) (hb : Bytes w A (bs s)) :
  Calls Try.prog 17 #[.pointer (some ⟨S.b, 0, none⟩), .int .i64 (i : Nat), .int .i64 (j : Nat), .slice A m c] w fun e w' => e = .returned (.tuple #[.int .u8 (coef s (idx i j)).n, .int .i64 0]) ∧ w = w' := by
 obtain ⟨c0, -⟩ := h.cells
 have HNone := Lib.hid (isNone_calls h)
 have hA := alpha_calls h
 rw [← hm] at hA
 have HA := Lib.hid hA
 have h1 := Sy.isNode_calls (i : Int) S.n w
 rw [decide_eq_true (by omega)] at h1
 have h2 := Sy.isNode_calls (j : Int) S.n w
 rw [decide_eq_true (by omega)] at h2
 have H1 := Lib.hid h1
 have H2 := Lib.hid h2
 have hn := h.n24
 have HI := Lib.hid (indexOf_calls i j (by omega) (by omega) w)
 have hix := idx_lt hi hj hij
 rw [← hm, ← hl] at hix
 obtain ⟨b, off, rfl⟩ := where_ hb (by omega)
 have hcell := cellAt hb _ hix
 obtain ⟨q, hq⟩ : ∃ q, idx i j = q := ⟨_, rfl⟩
 rw [hq] at hcell hix
 have hI' := HI.out
 rw [hq] at hI' ⊢
 obtain ⟨y, hy⟩ : ∃ y, coef s q = y := ⟨_, rfl⟩
 rw [hy] at hcell ⊢
 have HI' := Lib.hid hI'
 rw [hl] at hix
 have hne : ((i : Int) == (j : Int)) = false := by simp; omega
 have hmm : ((m : Int) != (m : Int)) = false := by simp
 clear h hA h1 h2 hI' HI hb hq hy hl
 go_enter Try.func17, Try.ntmps17
 go_wp2_with (first
  | (go_at_call 27; refine HNone.out.mono ?_; rintro e w1 ⟨rfl, rfl⟩)
  | (go_at_call 33; (with_reducible refine H1.out.mono ?_); rintro e w1 ⟨rfl, rfl⟩)
  | (go_at_call 33; (with_reducible refine H2.out.mono ?_); rintro e w1 ⟨rfl, rfl⟩)
  | (go_at_call 11; refine HA.out.mono ?_; rintro e w1 ⟨rfl, rfl⟩)
  | (go_at_call 34; refine HI'.out.mono ?_; rintro e w1 ⟨rfl, rfl⟩))
 go_ret2
 exact ⟨rfl, rfl⟩
set_option maxRecDepth 100000 in
set_option maxHeartbeats 2000000 in
theorem help_bad {S : Tc} {w : World} (h : S.Ok w) (x y : Int) (A : Option Addr) (m c : Nat) (hno : ¬ HelpOk S.n x y m) :
  Calls Try.prog 17 #[.pointer (some ⟨S.b, 0, none⟩), .int .i64 x, .int .i64 y, .slice A m c] w fun e w' => e = .returned (.tuple #[.int .u8 0, .int .i64 2]) ∧ w = w' := by
 obtain ⟨c0, -⟩ := h.cells
 have HNone := Lib.hid (isNone_calls h)
 have HA := Lib.hid (alpha_calls h)
 have h1 := Sy.isNode_calls x S.n w
 have h2 := Sy.isNode_calls y S.n w
 clear h
 by_cases d1 : 0 ≤ x ∧ x < (S.n : Int)
 ·rw [decide_eq_true d1] at h1
  by_cases d2 : 0 ≤ y ∧ y < (S.n : Int)
  ·rw [decide_eq_true d2] at h2
   by_cases d3 : x = y
   ·have hne : (x == y) = true := by simpa using d3
    subst d3
    have H1 := Lib.hid h1
    clear h1 h2 d1 d2 hno
    go_enter Try.func17, Try.ntmps17
    go_wp2_with (first
     | (go_at_call 27; refine HNone.out.mono ?_; rintro e w1 ⟨rfl, rfl⟩)
     | (go_at_call 33; (with_reducible refine H1.out.mono ?_); rintro e w1 ⟨rfl, rfl⟩))
    go_ret2
    exact ⟨rfl, rfl⟩
   ·have hne : (x == y) = false := by simpa using d3
    have d4 : m ≠ S.n - 1 := fun e => hno ⟨d1, d2, d3, e⟩
    obtain ⟨a, ha⟩ : ∃ a, S.n - 1 = a := ⟨_, rfl⟩
    rw [ha] at d4 HA
    have hmm : ((m : Int) != (a : Int)) = true := by simp; omega
    have H1 := Lib.hid h1
    have H2 := Lib.hid h2
    clear h1 h2 d1 d2 d3 hno ha
    go_enter Try.func17, Try.ntmps17
    go_wp2_with (first
     | (go_at_call 27; refine HNone.out.mono ?_; rintro e w1 ⟨rfl, rfl⟩)
     | (go_at_call 33; (with_reducible refine H1.out.mono ?_); rintro e w1 ⟨rfl, rfl⟩)
     | (go_at_call 33; (with_reducible refine H2.out.mono ?_); rintro e w1 ⟨rfl, rfl⟩)
     | (go_at_call 11; refine HA.out.mono ?_; rintro e w1 ⟨rfl, rfl⟩))
    go_ret2
    exact ⟨rfl, rfl⟩
  ·rw [decide_eq_false d2] at h2
   have H1 := Lib.hid h1
   have H2 := Lib.hid h2
   clear h1 h2 d1 d2 hno HA
   go_enter Try.func17, Try.ntmps17
   go_wp2_with (first
    | (go_at_call 27; refine HNone.out.mono ?_; rintro e w1 ⟨rfl, rfl⟩)
    | (go_at_call 33; (with_reducible refine H2.out.mono ?_); rintro e w1 ⟨rfl, rfl⟩)
    | (go_at_call 33; (with_reducible refine H1.out.mono ?_); rintro e w1 ⟨rfl, rfl⟩))
   go_ret2
   exact ⟨rfl, rfl⟩
 ·rw [decide_eq_false d1] at h1
  have H1 := Lib.hid h1
  clear h1 h2 d1 hno HA
  go_enter Try.func17, Try.ntmps17
  go_wp2_with (first
   | (go_at_call 27; refine HNone.out.mono ?_; rintro e w1 ⟨rfl, rfl⟩)
   | (go_at_call 33; (with_reducible refine H1.out.mono ?_); rintro e w1 ⟨rfl, rfl⟩))
  go_ret2
  exact ⟨rfl, rfl⟩
def RepG (S : Tc) (i : Nat) (l : List El) (w : World) (e : Ending) (w' : World) : Prop :=
 ∃ A c s, e = .returned (.tuple #[.slice A (S.n - 1) c, .int .i64 0]) ∧ S.n - 1 ≤ c ∧ s.length = S.n - 1 ∧ (∀ o ∈ l, coef s (idx i o.p.toNat) = coef o.s 0) ∧ Own w' w.heap.size 5 (.slice A (S.n - 1) c) (bv (bs s)) ∧ Below w.heap.size w w'
theorem idx_inj {i a b : Nat} (ha : a ≠ i) (hb : b ≠ i) (h : idx i a = idx i b) : a = b := by unfold idx at h; split at h <;> split at h <;> omega
theorem coef_set {F : List F8} {i j : Nat} (x : F8) (hi : i < F.length) : coef (F.set i x) j = if i = j then x else coef F j := by
 simp only [coef, List.getD_eq_getElem?_getD, List.getElem?_set]
 by_cases h : i = j
 ·subst h; simp [hi]
 ·simp [h]
def RepF (i : Nat) (F : List F8) (l : List El) : Prop := ∀ o ∈ l, coef F (idx i o.p.toNat) = coef o.s 0
set_option maxRecDepth 100000 in
set_option maxHeartbeats 8000000 in
theorem repair_good {S : Tc} {w : World} (h : S.Ok w) (i : Nat) (hi : i < S.n) (A : Option Addr) (l : List El) (m c : Nat) (hl : l.length = m) (hm9 : m ≤ 1000) (hE : Els S.g w A l) (hv : Sy.VOk S.n 1 [(i : Int)] (Sy.elsN l)) (hm : S.n - 1 ≤ m) :
  Calls Try.prog 24 #[.pointer (some ⟨S.b, 0, none⟩), .int .i64 (i : Nat), .slice A m c] w (RepG S i l w) := by
 obtain ⟨c0, -⟩ := h.cells
 have HNone := Lib.hid (isNone_calls h)
 have hn := h.n24
 have H := Lib.hid h
 have HAl : Hid (∀ V, Below w.heap.size w V → Calls Try.prog 11 #[.pointer (some ⟨S.b, 0, none⟩)] V fun e w' => e = .returned (.int .i64 (S.n - 1 : Nat)) ∧ V = w') := Lib.hid fun V hV => alpha_calls (h.below hV)
 have h1 := Sy.isNode_calls (i : Int) S.n w
 rw [decide_eq_true (by omega)] at h1
 have H1 := Lib.hid h1
 have hb0 : Below w.heap.size w (w.alloc (.cells #[.int .i64 (i : Int)] 3)) := (Below.refl _ _).alloc (Nat.le_refl _) _
 have hV := Sy.valid_calls A l m c S.n 1 (some ⟨w.heap.size, 0, none⟩) [(i : Int)] 1 1 (w.alloc (.cells #[.int .i64 (i : Int)] 3)) hl hm9 (hE.below hb0).row (by omega) rfl (by omega) (Row.new w #[.int .i64 (i : Int)] 3 (0, 0))
 rw [decide_eq_true hv, show ((1 : Nat) : Int) = 1 from rfl] at hV
 have HV := Lib.hid hV
 have HE := Lib.hid hE
 have HL := Lib.hid hl
 have HVk := Lib.hid hv
 have HB0 := Lib.hid hb0
 obtain ⟨u, hu⟩ : ∃ u, S.n - 1 = u := ⟨_, rfl⟩
 have HU := Lib.hid hu
 rw [hu] at hm HAl
 clear h1 hV hE hl hv hb0 h hu
 go_enter Try.func24, Try.ntmps24
 go_wp2_with (first
  | (go_at_call 27; refine HNone.out.mono ?_; rintro e w1 ⟨rfl, rfl⟩)
  | (go_at_call 33; (with_reducible refine H1.out.mono ?_); rintro e w1 ⟨rfl, rfl⟩)
  | (go_at_call 38; (with_reducible refine HV.out.mono ?_); rintro e w1 ⟨rfl, hb1⟩; have HB1 := Lib.hid (HB0.out.trans (hb1.mono HB0.out.size)); clear hb1; obtain ⟨w2, hmk, hO2, hB2⟩ := make_run w1 u (by have := HU.out; omega); have HO2 := Lib.hid hO2; have HB2 := Lib.hid hB2; clear hO2 hB2; have hle : decide ((m : Int) < (u : Int)) = false := (by simp; omega))
  | (go_at_call 11; refine (HAl.out _ HB1.out).mono ?_; rintro e w9 ⟨rfl, rfl⟩))
 have hs1 : w.heap.size ≤ w1.heap.size := HB1.out.size
 have hs2 : w1.heap.size < w2.heap.size := by have := (HO2.out.lt w1.heap.size rfl).2; exact this
 go_loopw [41] (fun tv wr => ∃ (t : Nat) (F : List F8), t ≤ m ∧ tv = .int .i64 t ∧ Hid (F.length = u) ∧ Hid (RepF i F (l.take t)) ∧ Hid (Own wr w.heap.size 5 (.slice (some ⟨w1.heap.size, 0, none⟩) u u) (bv (bs F))) ∧ Hid (Below w.heap.size w wr)) (fun tv _ => m - (intOf tv).toNat)
 case atStart => exact ⟨0, List.replicate u 0, by omega, rfl, Lib.hid (by simp), Lib.hid (fun o ho => by simp at ho), Lib.hid (HO2.out.more hs1), Lib.hid (HB1.out.trans (HB2.out.mono hs1))⟩
 case round =>
  clear HO2 HB2 hmk HV
  obtain ⟨t, F, ht, rfl, HFl, HFc, HO, HW⟩ := hrel
  by_cases htm : t < m
  ·have hti : t < l.length := by rw [HL.out]; exact htm
   obtain ⟨b, off, rfl, hc0, hc1⟩ := row2_at (HE.out.below HW.out).row hti
   have hvo := HVk.out.2 (l[t].p, l[t].s.length) (List.mem_map.2 ⟨l[t], List.getElem_mem hti, rfl⟩)
   have hby := ((HE.out.below HW.out).lst _ (List.getElem_mem hti)).1.by_
   have hdist : ∀ o ∈ l.take t, o.p ≠ l[t].p := fun o ho e => by
    obtain ⟨q, hq, rfl⟩ := List.getElem_of_mem ho
    rw [List.length_take] at hq
    rw [List.getElem_take] at e
    have hnd := HVk.out.1
    unfold Sy.elsN at hnd
    rw [List.map_map] at hnd
    have := List.pairwise_iff_getElem.1 hnd q t (by simp; omega) (by simpa using hti) (by omega)
    simp at this
    exact this e
   have HTk : Hid (l.take (t + 1) = l.take t ++ [l[t]]) := Lib.hid (take_succ' l hti)
   have hnode : ∀ o ∈ l.take t, ¬ o.p = (i : Int) ∧ 0 ≤ o.p := fun o ho => by
    have := HVk.out.2 (o.p, o.s.length) (List.mem_map.2 ⟨o, List.mem_of_mem_take ho, rfl⟩)
    exact ⟨by simpa using this.2.1, this.1.1⟩
   obtain ⟨e, he⟩ : ∃ e, l[t] = e := ⟨_, rfl⟩
   rw [he] at hc0 hc1 hvo hby hdist HTk
   obtain ⟨ep, eA, es, ec⟩ := e
   obtain ⟨⟨hp0', hpn'⟩, hpo, hlen'⟩ := hvo
   have hlen : es.length = 1 := hlen'
   have hp0 : 0 ≤ ep := hp0'
   have hpn : ep < (S.n : Int) := hpn'
   clear hp0' hpn' hlen'
   obtain ⟨j, rfl⟩ : ∃ j : Nat, ep = (j : Int) := ⟨ep.toNat, by omega⟩
   have hjn : j < S.n := by omega
   have hji : j ≠ i := by
    rintro rfl
    exact hpo (by simp)
   obtain ⟨b3, o3, rfl⟩ := where_ hby (by show 0 < es.length; omega)
   have hcd := cellAt hby 0 (by show 0 < es.length; omega)
   obtain ⟨y, hy⟩ : ∃ y, coef es 0 = y := ⟨_, rfl⟩
   have hcd : wr.cell? ⟨b3, o3, none⟩ = some (.int .u8 (y.n : Nat)) := by rw [← hy]; simpa using hcd
   have hc1 : wr.cell? ⟨b, off + t * 2 + 1, none⟩ = some (.slice (some ⟨b3, o3, none⟩) es.length ec) := hc1
   rw [hlen] at hc1
   have hc0 : wr.cell? ⟨b, off + t * 2, none⟩ = some (.int .i64 (j : Int)) := hc0
   obtain ⟨q, hq⟩ : ∃ q, idx i j = q := ⟨_, rfl⟩
   have hqu : q < u := by rw [← hq, ← HU.out]; exact idx_lt hi hjn hji
   have HI : Hid (∀ V, Calls Try.prog 34 #[.int .i64 (i : Nat), .int .i64 (j : Nat)] V fun e w' => e = .returned (.int .i64 (q : Nat)) ∧ V = w') := Lib.hid fun V => by
    have := indexOf_calls i j (by omega) (by omega) V
    rw [hq] at this
    exact this
   have HFq : Hid (RepF i (F.set q y) (l.take (t + 1))) := Lib.hid (by
    intro o ho
    rw [coef_set y (by rw [HFl.out]; exact hqu)]
    rw [HTk.out] at ho
    rcases List.mem_append.1 ho with ho | ho
    ·rw [if_neg, HFc.out o ho]
     intro e
     have h5 := hnode o ho
     rw [← hq] at e
     have := idx_inj hji (by omega) e
     exact hdist o ho (by show o.p = (j : Int); omega)
    ·obtain rfl := List.mem_singleton.1 ho
     rw [if_pos (by show q = idx i ((j : Int)).toNat; rw [← hq]; rfl)]
     exact hy.symm)
   have hO3 := HO.out.alloc (.cells #[.int .i64 (j : Int), .slice (some ⟨b3, o3, none⟩) 1 ec] 52)
   have hv0 := (Block.new wr 52 #[.int .i64 (j : Int), .slice (some ⟨b3, o3, none⟩) 1 ec]).cell 0
   have hv1 := (Block.new wr 52 #[.int .i64 (j : Int), .slice (some ⟨b3, o3, none⟩) 1 ec]).cell 1
   have hcd2 : (wr.alloc (.cells #[.int .i64 (j : Int), .slice (some ⟨b3, o3, none⟩) 1 ec] 52)).cell? ⟨b3, o3, none⟩ = some (.int .u8 (y.n : Nat)) := by
    have h5 := cellAt (hby.below ((Below.refl _ wr).alloc (Nat.le_refl _) (.cells #[.int .i64 (j : Int), .slice (some ⟨b3, o3, none⟩) 1 ec] 52))) 0 (by show 0 < es.length; omega)
    rw [← hy]; simpa using h5
   have hcs := own_cell hO3 HFl.out (k := q) hqu
   have hfz := Own.frozenAt hO3 (by rw [bvs_length, HFl.out]) q
   have HO4 := Lib.hid (own_set hO3 HFl.out (k := q) (x := y))
   have hsw := HW.out.size
   have HW4 := Lib.hid ((HW.out.alloc hsw (.cells #[.int .i64 (j : Int), .slice (some ⟨b3, o3, none⟩) 1 ec] 52)).setCell (p := ⟨w1.heap.size, q, none⟩) hs1 (.int .u8 (y.n : Int)))
   have HF4 : Hid ((F.set q y).length = u) := Lib.hid (by rw [List.length_set]; exact HFl.out)
   clear hby hcd hq hdist hnode hO3 hy HO HW he
   go_wp2
   go_region_with (go_at_call 34; (with_reducible refine (HI.out _).mono ?_); rintro e w9 ⟨rfl, rfl⟩)
   all_goals
    have HOd := Lib.hid HO4.out.drew
    have HWd := Lib.hid HW4.out.drew
    clear HO4 HW4 hc0 hc1 hv0 hv1 hcd2 hcs hfz
    obtain ⟨w6, hw6⟩ : ∃ w6, ((wr.alloc (.cells #[.int .i64 (j : Int), .slice (some ⟨b3, o3, none⟩) 1 ec] 52)).setCell ⟨w1.heap.size, q, none⟩ (.int .u8 (y.n : Int))).drew = w6 := ⟨_, rfl⟩
    rw [hw6] at HOd HWd ⊢
    clear hw6
    go_wp2
    go_roundw
    case rel => exact ⟨t + 1, _, by omega, by go_num, HF4, HFq, HOd, HWd⟩
    case measure => simp [intOf]; omega
  ·have hF := HFc.out
   rw [List.take_of_length_le (by rw [HL.out]; omega)] at hF
   have hX : RepG S i l w (.returned (.tuple #[.slice (some ⟨w1.heap.size, 0, none⟩) u u, .int .i64 0])) wr := ⟨some ⟨w1.heap.size, 0, none⟩, u, F, by rw [HU.out], by rw [HU.out]; exact Nat.le_refl _, by rw [HU.out]; exact HFl.out, hF, by rw [HU.out]; exact HO.out, HW.out⟩
   have HX := Lib.hid hX
   have htm' : ¬ ((t : Int) < (m : Int)) := by omega
   clear hX hF HO HW HFc HFl
   go_wp2
   go_ret2
   exact HX.out
end Go.Proofs.Ytimcmdnlhallmab.Tr

namespace Go.Proofs.Ytimcmdnlhallmab.Tr
open Go.RowKit Go.Shelf F8 Poly GF Rd Ms
attribute [local go_sem] Oper.semAt_some
def TM (w : World) (b : Nat) (D : List (Nat × F8)) (k : Nat) : Prop :=
 ∃ f, MapF w 3 5 .u8 b k f ∧ ∀ p : Nat, p < 1000 → (p ∉ D.map Prod.fst → f (.int .i64 (p : Int)) = none) ∧ ∀ y, (p, y) ∈ D → f (.int .i64 (p : Int)) = some ((y.n : Nat) : Int)
section
variable {w w' : World} {b k : Nat} {D : List (Nat × F8)}
theorem TM.below (h : TM w b D k) (hb : Below w.heap.size w w') : TM w' b D k := by
 obtain ⟨f, h1, h2⟩ := h
 exact ⟨f, h1.below hb, h2⟩
theorem TM.look_no (h : TM w b D k) {p : Nat} (hp : p < 1000) (hn : p ∉ D.map Prod.fst) : (Instr.lookup 101 (.map (some b)) (.int .i64 (p : Int)) true).run Try.prog w = .ok (.tuple #[.int .u8 0, .bool false]) w := by
 obtain ⟨f, h1, h2⟩ := h
 have h3 := h1.look2 int_keyedI Try.underlying101 Try.underlying5 (zero_u8 w) (int_key (a := (p : Int)) (by omega))
 rw [(h2 p hp).1 hn] at h3
 exact h3
theorem TM.look_yes (h : TM w b D k) {p : Nat} (hp : p < 1000) {y : F8} (hy : (p, y) ∈ D) : (Instr.lookup 101 (.map (some b)) (.int .i64 (p : Int)) true).run Try.prog w = .ok (.tuple #[.int .u8 (y.n : Nat), .bool true]) w := by
 obtain ⟨f, h1, h2⟩ := h
 have h3 := h1.look2 int_keyedI Try.underlying101 Try.underlying5 (zero_u8 w) (int_key (a := (p : Int)) (by omega))
 rw [(h2 p hp).2 y hy] at h3
 exact h3
theorem TM.put (h : TM w b D k) (hk : k < 1000000) {p : Nat} (hp : p < 1000) (hn : p ∉ D.map Prod.fst) (y : F8) :
  ∃ w', (Instr.mapUpdate 101 (.map (some b)) (.int .i64 (p : Int)) (.int .u8 (y.n : Nat))).run Try.prog w = .ok () w' ∧ w.grownBy w' (some b) ∧ TM w' b (D ++ [(p, y)]) (k + 1) := by
 classical
 obtain ⟨f, h1, h2⟩ := h
 have hyl := y.h
 obtain ⟨w', hrun, hg, hf⟩ := h1.put int_keyedI Try.underlying101 Try.underlying5 (by simp only [maxLen]; omega) (int_key (a := (p : Int)) (by omega)) ((y.n : Nat) : Int) (WalkArith.wf_u8 (by omega))
 refine ⟨w', hrun, hg, fun x => if x = .int .i64 (p : Int) then some ((y.n : Nat) : Int) else f x, hf _ (if_pos rfl) (fun x hx => if_neg hx), fun q hq => ?_⟩
 have key : ∀ q : Nat, q ≠ p → Value.int .i64 (q : Int) ≠ .int .i64 (p : Int) := fun q hne e => by
  injection e with _ e
  omega
 constructor
 ·intro hnq
  rw [List.map_append, List.mem_append] at hnq
  have hqp : q ≠ p := fun e => hnq (.inr (by simp [e]))
  show (if _ then _ else _) = _
  rw [if_neg (key q hqp)]
  exact (h2 q hq).1 fun e => hnq (.inl e)
 ·intro z hz
  show (if _ then _ else _) = _
  rcases List.mem_append.1 hz with hz | hz
  ·have hqp : q ≠ p := fun e => hn (e ▸ List.mem_map_of_mem (f := Prod.fst) hz)
   rw [if_neg (key q hqp)]
   exact (h2 q hq).2 z hz
  ·obtain ⟨rfl, rfl⟩ : q = p ∧ z = y := by simpa using hz
   rw [if_pos rfl]
end
structure KS (w : World) (mb pb : Nat) (st : Array Value) (B3 : Nat) (plv : Value) (pls : List Int) (P : List Int) (Y : List F8) (D : List (Nat × F8)) (kk : Nat) (pv yv : Value) (V : World) : Prop where
 own1 : Own V w.heap.size 3 pv (zs P)
 own2 : Own V w.heap.size 5 yv (bv (bs Y))
 tm : TM V mb D kk
 blk : Block V pb 52 st
 pl : Own V B3 3 plv (zs pls)
 ap : plv.ownBlock = none ∨ plv.ownBlock ≠ pv.ownBlock
 bel : Below w.heap.size w V
 mbs : w.heap.size ≤ mb
theorem own_apart2 {w : World} {B B' : Nat} {e e' : TypeId} {v v' : Value} {xs ys : List Value} (h : Own w B e v xs) (h' : Own w B' e' v' ys) (hne : e ≠ e') : v.ownBlock = none ∨ v.ownBlock ≠ v'.ownBlock := Rd.own_apart h h' hne
theorem own_lt {w : World} {B : Nat} {e : TypeId} {v : Value} {xs : List Value} (h : Own w B e v xs) {b : Nat} (hb : v.ownBlock = some b) : B ≤ b ∧ b < w.heap.size := h.lt b hb
section
variable {w V V' : World} {mb pb B3 kk : Nat} {st : Array Value} {plv pv yv : Value} {pls P : List Int} {Y : List F8} {D : List (Nat × F8)} (h : KS w mb pb st B3 plv pls P Y D kk pv yv V)
include h
theorem KS.below (hb : Below V.heap.size V V') : KS w mb pb st B3 plv pls P Y D kk pv yv V' :=
 ⟨h.own1.below hb, h.own2.below hb, h.tm.below hb, h.blk.below hb h.blk.lt, h.pl.below hb, h.ap, h.bel.trans (hb.mono h.bel.size), h.mbs⟩
theorem KS.alloc (o : Obj) : KS w mb pb st B3 plv pls P Y D kk pv yv (V.alloc o) := h.below ((Below.refl _ _).alloc (Nat.le_refl _) o)
theorem KS.drew : KS w mb pb st B3 plv pls P Y D kk pv yv V.drew := h.below (Below.refl _ _).drew
theorem KS.put (hk : kk < 1000000) {p : Nat} (hp : p < 1000) (hn : p ∉ D.map Prod.fst) (y : F8) :
  ∃ V', (Instr.mapUpdate 101 (.map (some mb)) (.int .i64 (p : Int)) (.int .u8 (y.n : Nat))).run Try.prog V = .ok () V' ∧ KS w mb pb st B3 plv pls P Y (D ++ [(p, y)]) (kk + 1) pv yv V' ∧ V.heap.size ≤ V'.heap.size := by
 obtain ⟨V', hrun, hg, ht⟩ := h.tm.put hk hp hn y
 obtain ⟨f, hf, -⟩ := h.tm
 exact ⟨V', hrun, ⟨h.own1.grown hg (.inr (own_not_map h.own1 hf)), h.own2.grown hg (.inr (own_not_map h.own2 hf)), ht, (hg.block _ h.blk.lt (fun e => by
  cases e
  obtain ⟨D', ⟨es, clock, hb, -⟩, -⟩ := hf
  have := h.blk
  unfold Block at this
  rw [hb] at this
  cases this)).trans h.blk, h.pl.grown hg (.inr (own_not_map h.pl hf)), h.ap, h.bel.grown hg h.bel.size (fun k hk => by cases hk; exact h.mbs), h.mbs⟩, hg.size⟩
attribute [-go_sem] Builtin.append_
theorem KS.appP {b : Nat} {p : Int} (hb : Block V b 3 #[.int .i64 p]) (hl : P.length ≤ 1000000) :
  ∃ pv' V', (Builtin.append_ #[46, 46] 46 #[pv, .slice (some ⟨b, 0, none⟩) 1 1]).run Try.prog V = .ok pv' V' ∧ KS w mb pb st B3 plv pls (P ++ [p]) Y D kk pv' yv V' ∧ V.heap.size ≤ V'.heap.size ∧ ∀ c cs, Block V c 5 cs → Block V' c 5 cs := by
 have hK : OwnK 1 V w.heap.size 3 pv P.length (zs P) := by
  have := h.own1
  unfold Own at this
  rw [zs_length] at this
  exact this
 obtain ⟨v', V', hrun, hown, hg, hloc⟩ := run_appK (P := Try.prog) V 1 w.heap.size 46 46 3 _ 8 Try.underlying46 info_i rfl (by omega) pv P.length (zs P) hK ⟨b, 0, none⟩ 1 1 (zs [p]) rfl (fun k u hu => by
  have hk : k = 0 := by
   have := (List.getElem?_eq_some_iff.1 hu).1
   simp [zs] at this
   omega
  subst hk
  refine ⟨b, 0, rfl, ?_⟩
  have := hb.cell 0
  rw [Nat.zero_add]
  rw [this]
  simpa [zs] using hu) (zs_one _) (by omega) (by omega) h.bel.size
 rw [← zs_append] at hown
 obtain ⟨ho1, -⟩ := own1_of hown
 obtain ⟨f, hf, hf2⟩ := h.tm
 refine ⟨v', V', hrun, ⟨ho1, h.own2.grown hg (own_apart2 h.own2 h.own1 (by decide)), ⟨f, hf.grown hg (own_not_map h.own1 hf).symm, hf2⟩, (hg.block _ h.blk.lt (own_not_block h.own1 h.blk (by decide)).symm).trans h.blk, h.pl.grown hg h.ap, ?_, h.bel.grown hg h.bel.size (fun k hk => (own_lt h.own1 hk).1), h.mbs⟩, hg.size, fun c cs hc => (hg.block _ hc.lt (own_not_block h.own1 hc (by decide)).symm).trans hc⟩
 rcases hloc with e | e
 ·rw [e]; exact h.ap
 ·rw [e]
  cases hp : plv.ownBlock with
  | none => exact .inl rfl
  | some x =>
   refine .inr fun e2 => ?_
   have := (own_lt h.pl hp).2
   cases e2
   omega
theorem KS.appY {b : Nat} {y : F8} (hb : Block V b 5 #[.int .u8 (y.n : Nat)]) (hl : Y.length ≤ 1000000) :
  ∃ yv' V', (Builtin.append_ #[34, 34] 34 #[yv, .slice (some ⟨b, 0, none⟩) 1 1]).run Try.prog V = .ok yv' V' ∧ KS w mb pb st B3 plv pls P (Y ++ [y]) D kk pv yv' V' ∧ V.heap.size ≤ V'.heap.size ∧ ∀ c cs, Block V c 3 cs → Block V' c 3 cs := by
 have hK : OwnK 1 V w.heap.size 5 yv Y.length (bv (bs Y)) := by
  have := h.own2
  unfold Own at this
  rw [bvs_length] at this
  exact this
 obtain ⟨v', V', hrun, hown, hg, hloc⟩ := run_appK (P := Try.prog) V 1 w.heap.size 34 34 5 _ 1 Try.underlying34 info_u8 rfl (by omega) yv Y.length (bv (bs Y)) hK ⟨b, 0, none⟩ 1 1 (bv [y.n]) rfl (fun k u hu => by
  have hk : k = 0 := by
   have := (List.getElem?_eq_some_iff.1 hu).1
   simp [bv] at this
   omega
  subst hk
  refine ⟨b, 0, rfl, ?_⟩
  have := hb.cell 0
  rw [Nat.zero_add]
  rw [this]
  simpa [bv] using hu) (bv_one _) (by omega) (by omega) h.bel.size
 rw [← bvs_snoc] at hown
 obtain ⟨ho1, -⟩ := own1_of hown
 obtain ⟨f, hf, hf2⟩ := h.tm
 refine ⟨v', V', hrun, ⟨h.own1.grown hg (own_apart2 h.own1 h.own2 (by decide)), ho1, ⟨f, hf.grown hg (own_not_map h.own2 hf).symm, hf2⟩, (hg.block _ h.blk.lt (own_not_block h.own2 h.blk (by decide)).symm).trans h.blk, h.pl.grown hg (own_apart2 h.pl h.own2 (by decide)), h.ap, h.bel.grown hg h.bel.size (fun k hk => (own_lt h.own2 hk).1), h.mbs⟩, hg.size, fun c cs hc => (hg.block _ hc.lt (own_not_block h.own2 hc (by decide)).symm).trans hc⟩
end
theorem KS.apps {w V : World} {mb pb B3 kk : Nat} {st : Array Value} {plv pv yv : Value} {pls P : List Int} {Y : List F8} {D : List (Nat × F8)} (h : KS w mb pb st B3 plv pls P Y D kk pv yv V) (p : Int) (y : F8) (hP : P.length ≤ 1000000) (hY : Y.length ≤ 1000000) :
  (∃ v V1 u V2, (Builtin.append_ #[46, 46] 46 #[pv, .slice (some ⟨V.heap.size, 0, none⟩) 1 1]).run Try.prog (V.alloc (.cells #[.int .i64 p] 3)).drew = .ok v V1 ∧
   (Builtin.append_ #[34, 34] 34 #[yv, .slice (some ⟨V1.heap.size, 0, none⟩) 1 1]).run Try.prog (V1.alloc (.cells #[.int .u8 (y.n : Nat)] 5)) = .ok u V2 ∧ KS w mb pb st B3 plv pls (P ++ [p]) (Y ++ [y]) D kk v u V2 ∧ KS w mb pb st B3 plv pls (P ++ [p]) Y D kk v yv V1) ∧
  (∃ v V1 u V2, (Builtin.append_ #[46, 46] 46 #[pv, .slice (some ⟨V.heap.size, 0, none⟩) 1 1]).run Try.prog ((V.alloc (.cells #[.int .i64 p] 3)).alloc (.cells #[.int .u8 (y.n : Nat)] 5)).drew = .ok v V1 ∧
   (Builtin.append_ #[34, 34] 34 #[yv, .slice (some ⟨V.heap.size + 1, 0, none⟩) 1 1]).run Try.prog V1 = .ok u V2 ∧ KS w mb pb st B3 plv pls (P ++ [p]) (Y ++ [y]) D kk v u V2) ∧
  (∃ v V1 u V2, (Builtin.append_ #[34, 34] 34 #[yv, .slice (some ⟨V.heap.size + 1, 0, none⟩) 1 1]).run Try.prog ((V.alloc (.cells #[.int .i64 p] 3)).alloc (.cells #[.int .u8 (y.n : Nat)] 5)).drew = .ok u V1 ∧
   (Builtin.append_ #[46, 46] 46 #[pv, .slice (some ⟨V.heap.size, 0, none⟩) 1 1]).run Try.prog V1 = .ok v V2 ∧ KS w mb pb st B3 plv pls (P ++ [p]) (Y ++ [y]) D kk v u V2) ∧
  (∃ v V1 u V2, (Builtin.append_ #[46, 46] 46 #[pv, .slice (some ⟨V.heap.size + 1, 0, none⟩) 1 1]).run Try.prog ((V.alloc (.cells #[.int .u8 (y.n : Nat)] 5)).alloc (.cells #[.int .i64 p] 3)).drew = .ok v V1 ∧
   (Builtin.append_ #[34, 34] 34 #[yv, .slice (some ⟨V.heap.size, 0, none⟩) 1 1]).run Try.prog V1 = .ok u V2 ∧ KS w mb pb st B3 plv pls (P ++ [p]) (Y ++ [y]) D kk v u V2) ∧
  (∃ v V1 u V2, (Builtin.append_ #[34, 34] 34 #[yv, .slice (some ⟨V.heap.size, 0, none⟩) 1 1]).run Try.prog ((V.alloc (.cells #[.int .u8 (y.n : Nat)] 5)).alloc (.cells #[.int .i64 p] 3)).drew = .ok u V1 ∧
   (Builtin.append_ #[46, 46] 46 #[pv, .slice (some ⟨V.heap.size + 1, 0, none⟩) 1 1]).run Try.prog V1 = .ok v V2 ∧ KS w mb pb st B3 plv pls (P ++ [p]) (Y ++ [y]) D kk v u V2) ∧
  (∃ v V1 u V2, (Builtin.append_ #[34, 34] 34 #[yv, .slice (some ⟨V.heap.size, 0, none⟩) 1 1]).run Try.prog (V.alloc (.cells #[.int .u8 (y.n : Nat)] 5)).drew = .ok u V1 ∧
   (Builtin.append_ #[46, 46] 46 #[pv, .slice (some ⟨V1.heap.size, 0, none⟩) 1 1]).run Try.prog (V1.alloc (.cells #[.int .i64 p] 3)) = .ok v V2 ∧ KS w mb pb st B3 plv pls (P ++ [p]) (Y ++ [y]) D kk v u V2) := by
 have e1 : (V.alloc (.cells #[.int .i64 p] 3)).heap.size = V.heap.size + 1 := World.size_alloc _ _
 have e2 : (V.alloc (.cells #[.int .u8 (y.n : Nat)] 5)).heap.size = V.heap.size + 1 := World.size_alloc _ _
 have bP := Block.new V 3 #[.int .i64 p]
 have bY := Block.new V 5 #[.int .u8 (y.n : Nat)]
 have bPY : Block (V.alloc (.cells #[.int .i64 p] 3)) V.heap.size 3 #[.int .i64 p] := bP
 have bY2 : Block ((V.alloc (.cells #[.int .i64 p] 3)).alloc (.cells #[.int .u8 (y.n : Nat)] 5)) (V.heap.size + 1) 5 #[.int .u8 (y.n : Nat)] := by
  have := Block.new (V.alloc (.cells #[.int .i64 p] 3)) 5 #[.int .u8 (y.n : Nat)]
  rw [e1] at this; exact this
 have bP2 : Block ((V.alloc (.cells #[.int .u8 (y.n : Nat)] 5)).alloc (.cells #[.int .i64 p] 3)) (V.heap.size + 1) 3 #[.int .i64 p] := by
  have := Block.new (V.alloc (.cells #[.int .u8 (y.n : Nat)] 5)) 3 #[.int .i64 p]
  rw [e2] at this; exact this
 refine ⟨?_, ?_, ?_, ?_, ?_, ?_⟩
 ·obtain ⟨v, V1, r1, k1, -, -⟩ := (h.alloc (.cells #[.int .i64 p] 3)).drew.appP bP.drew hP
  obtain ⟨u, V2, r2, k2, -, -⟩ := (k1.alloc (.cells #[.int .u8 (y.n : Nat)] 5)).appY (Block.new V1 5 #[.int .u8 (y.n : Nat)]) hY
  exact ⟨v, V1, u, V2, r1, r2, k2, k1⟩
 ·obtain ⟨v, V1, r1, k1, -, q1⟩ := ((h.alloc (.cells #[.int .i64 p] 3)).alloc (.cells #[.int .u8 (y.n : Nat)] 5)).drew.appP (bP.alloc _).drew hP
  obtain ⟨u, V2, r2, k2, -, -⟩ := k1.appY (q1 _ _ bY2.drew) hY
  exact ⟨v, V1, u, V2, r1, r2, k2⟩
 ·obtain ⟨u, V1, r1, k1, -, q1⟩ := ((h.alloc (.cells #[.int .i64 p] 3)).alloc (.cells #[.int .u8 (y.n : Nat)] 5)).drew.appY bY2.drew hY
  obtain ⟨v, V2, r2, k2, -, -⟩ := k1.appP (q1 _ _ (bP.alloc _).drew) hP
  exact ⟨v, V1, u, V2, r1, r2, k2⟩
 ·obtain ⟨v, V1, r1, k1, -, q1⟩ := ((h.alloc (.cells #[.int .u8 (y.n : Nat)] 5)).alloc (.cells #[.int .i64 p] 3)).drew.appP bP2.drew hP
  obtain ⟨u, V2, r2, k2, -, -⟩ := k1.appY (q1 _ _ (bY.alloc _).drew) hY
  exact ⟨v, V1, u, V2, r1, r2, k2⟩
 ·obtain ⟨u, V1, r1, k1, -, q1⟩ := ((h.alloc (.cells #[.int .u8 (y.n : Nat)] 5)).alloc (.cells #[.int .i64 p] 3)).drew.appY (bY.alloc _).drew hY
  obtain ⟨v, V2, r2, k2, -, -⟩ := k1.appP (q1 _ _ bP2.drew) hP
  exact ⟨v, V1, u, V2, r1, r2, k2⟩
 ·obtain ⟨u, V1, r1, k1, -, -⟩ := (h.alloc (.cells #[.int .u8 (y.n : Nat)] 5)).drew.appY bY.drew hY
  obtain ⟨v, V2, r2, k2, -, -⟩ := (k1.alloc (.cells #[.int .i64 p] 3)).appP (Block.new V1 3 #[.int .i64 p]) hP
  exact ⟨v, V1, u, V2, r1, r2, k2⟩
structure KO (w : World) (mb : Nat) (L : List (Nat × F8)) (pv yv : Value) (V : World) : Prop where
 own1 : Own V w.heap.size 3 pv (zs (plI (seen L)))
 own2 : Own V w.heap.size 5 yv (bv (bs (ysD (seen L))))
 tm : TM V mb (seen L) (seen L).length
 bel : Below w.heap.size w V
 cons : Cons L
def itT (n i : Nat) (s : List F8) (t : Nat) : List (Nat × F8) := ((plcs n i).zip s).take t
theorem itT_succ {n i t : Nat} {s : List F8} (hs : s.length = (plcs n i).length) (ht : t < (plcs n i).length) : itT n i s (t + 1) = itT n i s t ++ [((plcs n i)[t], coef s t)] := by
 unfold itT
 have h1 : t < ((plcs n i).zip s).length := by rw [List.length_zip]; omega
 rw [take_succ' _ h1, List.getElem_zip, coef_of_lt (by omega)]
theorem itT_full {n i : Nat} {s : List F8} (hs : s.length = (plcs n i).length) : itT n i s (plcs n i).length = (plcs n i).zip s := by
 unfold itT
 rw [List.take_of_length_le (by rw [List.length_zip]; omega)]
theorem items_snoc (n : Nat) (sh : List (Nat × List F8)) (o : Nat × List F8) : items n (sh ++ [o]) = items n sh ++ (plcs n o.1).zip o.2 := by unfold items; rw [List.flatMap_append]; simp
theorem cons_old {L : List (Nat × F8)} {p : Nat} {y y0 : F8} (hc : Cons L) (hd : (p, y0) ∈ seen L) (he : y0 = y) : Cons (L ++ [(p, y)]) := by
 have key : ∀ z ∈ L, z.1 = p → z.2 = y := fun z hz e => by rw [← he]; exact hc z hz (p, y0) (seen_sub _ _ hd) e
 intro x hx z hz e
 rcases List.mem_append.1 hx with hx | hx <;> rcases List.mem_append.1 hz with hz | hz
 ·exact hc x hx z hz e
 ·obtain rfl := List.mem_singleton.1 hz; exact key x hx e
 ·obtain rfl := List.mem_singleton.1 hx; exact (key z hz e.symm).symm
 ·rw [List.mem_singleton.1 hx, List.mem_singleton.1 hz]
theorem cons_new {L : List (Nat × F8)} {p : Nat} {y : F8} (hc : Cons L) (hd : p ∉ (seen L).map Prod.fst) : Cons (L ++ [(p, y)]) := by
 have key : ∀ z ∈ L, z.1 ≠ p := fun z hz e => hd ((seen_places L p).2 (e ▸ List.mem_map_of_mem (f := Prod.fst) hz))
 intro x hx z hz e
 rcases List.mem_append.1 hx with hx | hx <;> rcases List.mem_append.1 hz with hz | hz
 ·exact hc x hx z hz e
 ·obtain rfl := List.mem_singleton.1 hz; exact absurd e (key x hx)
 ·obtain rfl := List.mem_singleton.1 hx; exact absurd e.symm (key z hz)
 ·rw [List.mem_singleton.1 hx, List.mem_singleton.1 hz]
theorem cons_not {L M : List (Nat × F8)} {p : Nat} {y y0 : F8} (hd : (p, y0) ∈ seen L) (he : y0 ≠ y) (hs : ∀ z ∈ L ++ [(p, y)], z ∈ M) : ¬ Cons M := fun hc =>
 he (hc (p, y0) (hs _ (List.mem_append_left _ (seen_sub _ _ hd))) (p, y) (hs _ (by simp)) rfl)
theorem seen_old {L : List (Nat × F8)} {p : Nat} {y : F8} (h : p ∈ (seen L).map Prod.fst) : seen (L ++ [(p, y)]) = seen L := by rw [seen_snoc]; exact if_pos h
theorem seen_new {L : List (Nat × F8)} {p : Nat} {y : F8} (h : p ∉ (seen L).map Prod.fst) : seen (L ++ [(p, y)]) = seen L ++ [(p, y)] := by rw [seen_snoc]; exact if_neg h
end Go.Proofs.Ytimcmdnlhallmab.Tr
