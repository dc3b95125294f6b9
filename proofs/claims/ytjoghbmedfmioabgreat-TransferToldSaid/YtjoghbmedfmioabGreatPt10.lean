/- Of the program, joined: TrHelp, TrDec, TrKnown0, TrDecode, TrSt. -/
import Derived.Test.YtjoghbmedfmioabGreatPt09
import Derived.Test.YtjoghbmedfmioabGreatPt08
import Derived.Deep.RegionHeld
import Derived.WalkMore
import Derived.Test.YtjoghbmedfmioabGreatPt04
namespace Go.Proofs.YtjoghbmedfmioabGreat.Tr
open Go.RowKit Go.Shelf F8 Poly GF Rd Ms
attribute [local go_sem] Oper.semAt_some
set_option maxRecDepth 100000 in
set_option maxHeartbeats 2000000 in
theorem help_good {S : Tc} {w : World} (h : S.Ok w) (i j : Nat) (hi : i < S.n) (hj : j < S.n) (hij : j ≠ i) (A : Option Addr) (s : List F8) (m c : Nat) (hl : s.length = m) (hm : m = S.n - 1) (hb : Bytes w A (bs s)) :
  Calls Tryz.prog 18 #[.pointer (some ⟨S.b, 0, none⟩), .int .i64 (i : Nat), .int .i64 (j : Nat), .slice A m c] w fun e w' => e = .returned (.tuple #[.int .u8 (coef s (idx i j)).n, .int .i64 0]) ∧ w = w' := by
 obtain ⟨c0, -⟩ := h.cells
 have HNone := Lib.hid (isNone_calls h)
 have hA := alpha_calls h
 rw [← hm] at hA
 have HA := Lib.hid hA
 have h1 := Sy.isNode_calls (i : Int) S.n w
 rw [decide_eq_true (by omega)] at h1
 have h2 := Sy.isNode_calls (j : Int) S.n w
 rw [decide_eq_true (by omega)] at h2
 have H1 := Lib.hid h1
 have H2 := Lib.hid h2
 have hn := h.n24
 have HI := Lib.hid (indexOf_calls i j (by omega) (by omega) w)
 have hix := idx_lt hi hj hij
 rw [← hm, ← hl] at hix
 obtain ⟨b, off, rfl⟩ := where_ hb (by omega)
 have hcell := cellAt hb _ hix
 obtain ⟨q, hq⟩ : ∃ q, idx i j = q := ⟨_, rfl⟩
 rw [hq] at hcell hix
 have hI' := HI.out
 rw [hq] at hI' ⊢
 obtain ⟨y, hy⟩ : ∃ y, coef s q = y := ⟨_, rfl⟩
 rw [hy] at hcell ⊢
 have HI' := Lib.hid hI'
 rw [hl] at hix
 have hne : ((i : Int) == (j : Int)) = false := by simp; omega
 have hmm : ((m : Int) != (m : Int)) = false := by simp
 clear h hA h1 h2 hI' HI hb hq hy hl
 go_enter Tryz.func18, Tryz.ntmps18
 go_wp2_with (first
  | (go_at_call 29; refine HNone.out.mono ?_; rintro e w1 ⟨rfl, rfl⟩)
  | (go_at_call 30; (with_reducible refine H1.out.mono ?_); rintro e w1 ⟨rfl, rfl⟩)
  | (go_at_call 30; (with_reducible refine H2.out.mono ?_); rintro e w1 ⟨rfl, rfl⟩)
  | (go_at_call 19; refine HA.out.mono ?_; rintro e w1 ⟨rfl, rfl⟩)
  | (go_at_call 32; refine HI'.out.mono ?_; rintro e w1 ⟨rfl, rfl⟩))
 go_ret2
 exact ⟨rfl, rfl⟩
def RepG (S : Tc) (i : Nat) (l : List El) (w : World) (e : Ending) (w' : World) : Prop :=
 ∃ A c s, e = .returned (.tuple #[.slice A (S.n - 1) c, .int .i64 0]) ∧ S.n - 1 ≤ c ∧ s.length = S.n - 1 ∧ (∀ o ∈ l, coef s (idx i o.p.toNat) = coef o.s 0) ∧ Own w' w.heap.size 5 (.slice A (S.n - 1) c) (bv (bs s)) ∧ Below w.heap.size w w'
theorem idx_inj {i a b : Nat} (ha : a ≠ i) (hb : b ≠ i) (h : idx i a = idx i b) : a = b := by unfold idx at h; split at h <;> split at h <;> omega
theorem coef_set {F : List F8} {i j : Nat} (x : F8) (hi : i < F.length) : coef (F.set i x) j = if i = j then x else coef F j := by
 simp only [coef, List.getD_eq_getElem?_getD, List.getElem?_set]
 by_cases h : i = j
 ·subst h; simp [hi]
 ·simp [h]
def RepF (i : Nat) (F : List F8) (l : List El) : Prop := ∀ o ∈ l, coef F (idx i o.p.toNat) = coef o.s 0
set_option maxRecDepth 100000 in
set_option maxHeartbeats 8000000 in
theorem repair_good {S : Tc} {w : World} (h : S.Ok w) (i : Nat) (hi : i < S.n) (A : Option Addr) (l : List El) (m c : Nat) (hl : l.length = m) (hm9 : m ≤ 1000) (hE : Els S.g w A l) (hv : Sy.VOk S.n 1 [(i : Int)] (Sy.elsN l)) (hm : S.n - 1 ≤ m) :
  Calls Tryz.prog 11 #[.pointer (some ⟨S.b, 0, none⟩), .int .i64 (i : Nat), .slice A m c] w (RepG S i l w) := by
 obtain ⟨c0, -⟩ := h.cells
 have HNone := Lib.hid (isNone_calls h)
 have hn := h.n24
 have H := Lib.hid h
 have HAl : Hid (∀ V, Below w.heap.size w V → Calls Tryz.prog 19 #[.pointer (some ⟨S.b, 0, none⟩)] V fun e w' => e = .returned (.int .i64 (S.n - 1 : Nat)) ∧ V = w') := Lib.hid fun V hV => alpha_calls (h.below hV)
 have h1 := Sy.isNode_calls (i : Int) S.n w
 rw [decide_eq_true (by omega)] at h1
 have H1 := Lib.hid h1
 have hb0 : Below w.heap.size w (w.alloc (.cells #[.int .i64 (i : Int)] 3)) := (Below.refl _ _).alloc (Nat.le_refl _) _
 have hV := Sy.valid_calls A l m c S.n 1 (some ⟨w.heap.size, 0, none⟩) [(i : Int)] 1 1 (w.alloc (.cells #[.int .i64 (i : Int)] 3)) hl hm9 (hE.below hb0).row (by omega) rfl (by omega) (Row.new w #[.int .i64 (i : Int)] 3 (0, 0))
 rw [decide_eq_true hv, show ((1 : Nat) : Int) = 1 from rfl] at hV
 have HV := Lib.hid hV
 have HE := Lib.hid hE
 have HL := Lib.hid hl
 have HVk := Lib.hid hv
 have HB0 := Lib.hid hb0
 obtain ⟨u, hu⟩ : ∃ u, S.n - 1 = u := ⟨_, rfl⟩
 have HU := Lib.hid hu
 rw [hu] at hm HAl
 clear h1 hV hE hl hv hb0 h hu
 go_enter Tryz.func11, Tryz.ntmps11
 go_wp2_with (first
  | (go_at_call 29; refine HNone.out.mono ?_; rintro e w1 ⟨rfl, rfl⟩)
  | (go_at_call 30; (with_reducible refine H1.out.mono ?_); rintro e w1 ⟨rfl, rfl⟩)
  | (go_at_call 31; (with_reducible refine HV.out.mono ?_); rintro e w1 ⟨rfl, hb1⟩; have HB1 := Lib.hid (HB0.out.trans (hb1.mono HB0.out.size)); clear hb1; obtain ⟨w2, hmk, hO2, hB2⟩ := make_run w1 u (by have := HU.out; omega); have HO2 := Lib.hid hO2; have HB2 := Lib.hid hB2; clear hO2 hB2; have hle : decide ((m : Int) < (u : Int)) = false := (by simp; omega))
  | (go_at_call 19; refine (HAl.out _ HB1.out).mono ?_; rintro e w9 ⟨rfl, rfl⟩))
 have hs1 : w.heap.size ≤ w1.heap.size := HB1.out.size
 have hs2 : w1.heap.size < w2.heap.size := by have := (HO2.out.lt w1.heap.size rfl).2; exact this
 go_loopw [41] (fun tv wr => ∃ (t : Nat) (F : List F8), t ≤ m ∧ tv = .int .i64 t ∧ Hid (F.length = u) ∧ Hid (RepF i F (l.take t)) ∧ Hid (Own wr w.heap.size 5 (.slice (some ⟨w1.heap.size, 0, none⟩) u u) (bv (bs F))) ∧ Hid (Below w.heap.size w wr)) (fun tv _ => m - (intOf tv).toNat)
 case atStart => exact ⟨0, List.replicate u 0, by omega, rfl, Lib.hid (by simp), Lib.hid (fun o ho => by simp at ho), Lib.hid (HO2.out.more hs1), Lib.hid (HB1.out.trans (HB2.out.mono hs1))⟩
 case round =>
  clear HO2 HB2 hmk HV
  obtain ⟨t, F, ht, rfl, HFl, HFc, HO, HW⟩ := hrel
  by_cases htm : t < m
  ·have hti : t < l.length := by rw [HL.out]; exact htm
   obtain ⟨b, off, rfl, hc0, hc1⟩ := row2_at (HE.out.below HW.out).row hti
   have hvo := HVk.out.2 (l[t].p, l[t].s.length) (List.mem_map.2 ⟨l[t], List.getElem_mem hti, rfl⟩)
   have hby := ((HE.out.below HW.out).lst _ (List.getElem_mem hti)).1.by_
   have hdist : ∀ o ∈ l.take t, o.p ≠ l[t].p := fun o ho e => by
    obtain ⟨q, hq, rfl⟩ := List.getElem_of_mem ho
    rw [List.length_take] at hq
    rw [List.getElem_take] at e
    have hnd := HVk.out.1
    unfold Sy.elsN at hnd
    rw [List.map_map] at hnd
    have := List.pairwise_iff_getElem.1 hnd q t (by simp; omega) (by simpa using hti) (by omega)
    simp at this
    exact this e
   have HTk : Hid (l.take (t + 1) = l.take t ++ [l[t]]) := Lib.hid (take_succ' l hti)
   have hnode : ∀ o ∈ l.take t, ¬ o.p = (i : Int) ∧ 0 ≤ o.p := fun o ho => by
    have := HVk.out.2 (o.p, o.s.length) (List.mem_map.2 ⟨o, List.mem_of_mem_take ho, rfl⟩)
    exact ⟨by simpa using this.2.1, this.1.1⟩
   obtain ⟨e, he⟩ : ∃ e, l[t] = e := ⟨_, rfl⟩
   rw [he] at hc0 hc1 hvo hby hdist HTk
   obtain ⟨ep, eA, es, ec⟩ := e
   obtain ⟨⟨hp0', hpn'⟩, hpo, hlen'⟩ := hvo
   have hlen : es.length = 1 := hlen'
   have hp0 : 0 ≤ ep := hp0'
   have hpn : ep < (S.n : Int) := hpn'
   clear hp0' hpn' hlen'
   obtain ⟨j, rfl⟩ : ∃ j : Nat, ep = (j : Int) := ⟨ep.toNat, by omega⟩
   have hjn : j < S.n := by omega
   have hji : j ≠ i := by
    rintro rfl
    exact hpo (by simp)
   obtain ⟨b3, o3, rfl⟩ := where_ hby (by show 0 < es.length; omega)
   have hcd := cellAt hby 0 (by show 0 < es.length; omega)
   obtain ⟨y, hy⟩ : ∃ y, coef es 0 = y := ⟨_, rfl⟩
   have hcd : wr.cell? ⟨b3, o3, none⟩ = some (.int .u8 (y.n : Nat)) := by rw [← hy]; simpa using hcd
   have hc1 : wr.cell? ⟨b, off + t * 2 + 1, none⟩ = some (.slice (some ⟨b3, o3, none⟩) es.length ec) := hc1
   rw [hlen] at hc1
   have hc0 : wr.cell? ⟨b, off + t * 2, none⟩ = some (.int .i64 (j : Int)) := hc0
   obtain ⟨q, hq⟩ : ∃ q, idx i j = q := ⟨_, rfl⟩
   have hqu : q < u := by rw [← hq, ← HU.out]; exact idx_lt hi hjn hji
   have HI : Hid (∀ V, Calls Tryz.prog 32 #[.int .i64 (i : Nat), .int .i64 (j : Nat)] V fun e w' => e = .returned (.int .i64 (q : Nat)) ∧ V = w') := Lib.hid fun V => by
    have := indexOf_calls i j (by omega) (by omega) V
    rw [hq] at this
    exact this
   have HFq : Hid (RepF i (F.set q y) (l.take (t + 1))) := Lib.hid (by
    intro o ho
    rw [coef_set y (by rw [HFl.out]; exact hqu)]
    rw [HTk.out] at ho
    rcases List.mem_append.1 ho with ho | ho
    ·rw [if_neg, HFc.out o ho]
     intro e
     have h5 := hnode o ho
     rw [← hq] at e
     have := idx_inj hji (by omega) e
     exact hdist o ho (by show o.p = (j : Int); omega)
    ·obtain rfl := List.mem_singleton.1 ho
     rw [if_pos (by show q = idx i ((j : Int)).toNat; rw [← hq]; rfl)]
     exact hy.symm)
   have hO3 := HO.out.alloc (.cells #[.int .i64 (j : Int), .slice (some ⟨b3, o3, none⟩) 1 ec] 55)
   have hv0 := (Block.new wr 55 #[.int .i64 (j : Int), .slice (some ⟨b3, o3, none⟩) 1 ec]).cell 0
   have hv1 := (Block.new wr 55 #[.int .i64 (j : Int), .slice (some ⟨b3, o3, none⟩) 1 ec]).cell 1
   have hcd2 : (wr.alloc (.cells #[.int .i64 (j : Int), .slice (some ⟨b3, o3, none⟩) 1 ec] 55)).cell? ⟨b3, o3, none⟩ = some (.int .u8 (y.n : Nat)) := by
    have h5 := cellAt (hby.below ((Below.refl _ wr).alloc (Nat.le_refl _) (.cells #[.int .i64 (j : Int), .slice (some ⟨b3, o3, none⟩) 1 ec] 55))) 0 (by show 0 < es.length; omega)
    rw [← hy]; simpa using h5
   have hcs := own_cell hO3 HFl.out (k := q) hqu
   have hfz := Own.frozenAt hO3 (by rw [bvs_length, HFl.out]) q
   have HO4 := Lib.hid (own_set hO3 HFl.out (k := q) (x := y))
   have hsw := HW.out.size
   have HW4 := Lib.hid ((HW.out.alloc hsw (.cells #[.int .i64 (j : Int), .slice (some ⟨b3, o3, none⟩) 1 ec] 55)).setCell (p := ⟨w1.heap.size, q, none⟩) hs1 (.int .u8 (y.n : Int)))
   have HF4 : Hid ((F.set q y).length = u) := Lib.hid (by rw [List.length_set]; exact HFl.out)
   clear hby hcd hq hdist hnode hO3 hy HO HW he
   go_wp2
   go_region_with (go_at_call 32; (with_reducible refine (HI.out _).mono ?_); rintro e w9 ⟨rfl, rfl⟩)
   all_goals
    have HOd := Lib.hid HO4.out.drew
    have HWd := Lib.hid HW4.out.drew
    clear HO4 HW4 hc0 hc1 hv0 hv1 hcd2 hcs hfz
    obtain ⟨w6, hw6⟩ : ∃ w6, ((wr.alloc (.cells #[.int .i64 (j : Int), .slice (some ⟨b3, o3, none⟩) 1 ec] 55)).setCell ⟨w1.heap.size, q, none⟩ (.int .u8 (y.n : Int))).drew = w6 := ⟨_, rfl⟩
    rw [hw6] at HOd HWd ⊢
    clear hw6
    go_wp2
    go_roundw
    case rel => exact ⟨t + 1, _, by omega, by go_num, HF4, HFq, HOd, HWd⟩
    case measure => simp [intOf]; omega
  ·have hF := HFc.out
   rw [List.take_of_length_le (by rw [HL.out]; omega)] at hF
   have hX : RepG S i l w (.returned (.tuple #[.slice (some ⟨w1.heap.size, 0, none⟩) u u, .int .i64 0])) wr := ⟨some ⟨w1.heap.size, 0, none⟩, u, F, by rw [HU.out], by rw [HU.out]; exact Nat.le_refl _, by rw [HU.out]; exact HFl.out, hF, by rw [HU.out]; exact HO.out, HW.out⟩
   have HX := Lib.hid hX
   have htm' : ¬ ((t : Int) < (m : Int)) := by omega
   clear hX hF HO HW HFc HFl
   go_wp2
   go_ret2
   exact HX.out
end Go.Proofs.YtjoghbmedfmioabGreat.Tr

namespace Go.Proofs.YtjoghbmedfmioabGreat.Tr
open Go.RowKit Go.Shelf F8 Poly GF Rd Ms
attribute [local go_sem] Oper.semAt_some
def TM (w : World) (b : Nat) (D : List (Nat × F8)) (k : Nat) : Prop :=
 ∃ f, MapF w 3 5 .u8 b k f ∧ ∀ p : Nat, p < 1000 → (p ∉ D.map Prod.fst → f (.int .i64 (p : Int)) = none) ∧ ∀ y, (p, y) ∈ D → f (.int .i64 (p : Int)) = some ((y.n : Nat) : Int)
section
variable {w w' : World} {b k : Nat} {D : List (Nat × F8)}
theorem TM.below (h : TM w b D k) (hb : Below w.heap.size w w') : TM w' b D k := by
 obtain ⟨f, h1, h2⟩ := h
 exact ⟨f, h1.below hb, h2⟩
theorem TM.look_no (h : TM w b D k) {p : Nat} (hp : p < 1000) (hn : p ∉ D.map Prod.fst) : (Instr.lookup 105 (.map (some b)) (.int .i64 (p : Int)) true).run Tryz.prog w = .ok (.tuple #[.int .u8 0, .bool false]) w := by
 obtain ⟨f, h1, h2⟩ := h
 have h3 := h1.look2 int_keyedI Tryz.underlying105 Tryz.underlying5 (zero_u8 w) (int_key (a := (p : Int)) (by omega))
 rw [(h2 p hp).1 hn] at h3
 exact h3
theorem TM.look_yes (h : TM w b D k) {p : Nat} (hp : p < 1000) {y : F8} (hy : (p, y) ∈ D) : (Instr.lookup 105 (.map (some b)) (.int .i64 (p : Int)) true).run Tryz.prog w = .ok (.tuple #[.int .u8 (y.n : Nat), .bool true]) w := by
 obtain ⟨f, h1, h2⟩ := h
 have h3 := h1.look2 int_keyedI Tryz.underlying105 Tryz.underlying5 (zero_u8 w) (int_key (a := (p : Int)) (by omega))
 rw [(h2 p hp).2 y hy] at h3
 exact h3
theorem TM.put (h : TM w b D k) (hk : k < 1000000) {p : Nat} (hp : p < 1000) (hn : p ∉ D.map Prod.fst) (y : F8) :
  ∃ w', (Instr.mapUpdate 105 (.map (some b)) (.int .i64 (p : Int)) (.int .u8 (y.n : Nat))).run Tryz.prog w = .ok () w' ∧ w.grownBy w' (some b) ∧ TM w' b (D ++ [(p, y)]) (k + 1) := by
 classical
 obtain ⟨f, h1, h2⟩ := h
 have hyl := y.h
 obtain ⟨w', hrun, hg, hf⟩ := h1.put int_keyedI Tryz.underlying105 Tryz.underlying5 (by simp only [maxLen]; omega) (int_key (a := (p : Int)) (by omega)) ((y.n : Nat) : Int) (WalkArith.wf_u8 (by omega))
 refine ⟨w', hrun, hg, fun x => if x = .int .i64 (p : Int) then some ((y.n : Nat) : Int) else f x, hf _ (if_pos rfl) (fun x hx => if_neg hx), fun q hq => ?_⟩
 have key : ∀ q : Nat, q ≠ p → Value.int .i64 (q : Int) ≠ .int .i64 (p : Int) := fun q hne e => by
  injection e with _ e
  omega
 constructor
 ·intro hnq
  rw [List.map_append, List.mem_append] at hnq
  have hqp : q ≠ p := fun e => hnq (.inr (by simp [e]))
  show (if _ then _ else _) = _
  rw [if_neg (key q hqp)]
  exact (h2 q hq).1 fun e => hnq (.inl e)
 ·intro z hz
  show (if _ then _ else _) = _
  rcases List.mem_append.1 hz with hz | hz
  ·have hqp : q ≠ p := fun e => hn (e ▸ List.mem_map_of_mem (f := Prod.fst) hz)
   rw [if_neg (key q hqp)]
   exact (h2 q hq).2 z hz
  ·obtain ⟨rfl, rfl⟩ : q = p ∧ z = y := by simpa using hz
   rw [if_pos rfl]
end
structure KS (w : World) (mb pb : Nat) (st : Array Value) (B3 : Nat) (plv : Value) (pls : List Int) (P : List Int) (Y : List F8) (D : List (Nat × F8)) (kk : Nat) (pv yv : Value) (V : World) : Prop where
 own1 : Own V w.heap.size 3 pv (zs P)
 own2 : Own V w.heap.size 5 yv (bv (bs Y))
 tm : TM V mb D kk
 blk : Block V pb 55 st
 pl : Own V B3 3 plv (zs pls)
 ap : plv.ownBlock = none ∨ plv.ownBlock ≠ pv.ownBlock
 bel : Below w.heap.size w V
 mbs : w.heap.size ≤ mb
theorem own_apart2 {w : World} {B B' : Nat} {e e' : TypeId} {v v' : Value} {xs ys : List Value} (h : Own w B e v xs) (h' : Own w B' e' v' ys) (hne : e ≠ e') : v.ownBlock = none ∨ v.ownBlock ≠ v'.ownBlock := Rd.own_apart h h' hne
theorem own_lt {w : World} {B : Nat} {e : TypeId} {v : Value} {xs : List Value} (h : Own w B e v xs) {b : Nat} (hb : v.ownBlock = some b) : B ≤ b ∧ b < w.heap.size := h.lt b hb
section
variable {w V V' : World} {mb pb B3 kk : Nat} {st : Array Value} {plv pv yv : Value} {pls P : List Int} {Y : List F8} {D : List (Nat × F8)} (h : KS w mb pb st B3 plv pls P Y D kk pv yv V)
include h
theorem KS.below (hb : Below V.heap.size V V') : KS w mb pb st B3 plv pls P Y D kk pv yv V' :=
 ⟨h.own1.below hb, h.own2.below hb, h.tm.below hb, h.blk.below hb h.blk.lt, h.pl.below hb, h.ap, h.bel.trans (hb.mono h.bel.size), h.mbs⟩
theorem KS.alloc (o : Obj) : KS w mb pb st B3 plv pls P Y D kk pv yv (V.alloc o) := h.below ((Below.refl _ _).alloc (Nat.le_refl _) o)
theorem KS.drew : KS w mb pb st B3 plv pls P Y D kk pv yv V.drew := h.below (Below.refl _ _).drew
theorem KS.put (hk : kk < 1000000) {p : Nat} (hp : p < 1000) (hn : p ∉ D.map Prod.fst) (y : F8) :
  ∃ V', (Instr.mapUpdate 105 (.map (some mb)) (.int .i64 (p : Int)) (.int .u8 (y.n : Nat))).run Tryz.prog V = .ok () V' ∧ KS w mb pb st B3 plv pls P Y (D ++ [(p, y)]) (kk + 1) pv yv V' ∧ V.heap.size ≤ V'.heap.size := by
 obtain ⟨V', hrun, hg, ht⟩ := h.tm.put hk hp hn y
 obtain ⟨f, hf, -⟩ := h.tm
 exact ⟨V', hrun, ⟨h.own1.grown hg (.inr (own_not_map h.own1 hf)), h.own2.grown hg (.inr (own_not_map h.own2 hf)), ht, (hg.block _ h.blk.lt (fun e => by
  cases e
  obtain ⟨D', ⟨es, clock, hb, -⟩, -⟩ := hf
  have := h.blk
  unfold Block at this
  rw [hb] at this
  cases this)).trans h.blk, h.pl.grown hg (.inr (own_not_map h.pl hf)), h.ap, h.bel.grown hg h.bel.size (fun k hk => by cases hk; exact h.mbs), h.mbs⟩, hg.size⟩
attribute [-go_sem] Builtin.append_
theorem KS.appP {b : Nat} {p : Int} (hb : Block V b 3 #[.int .i64 p]) (hl : P.length ≤ 1000000) :
  ∃ pv' V', (Builtin.append_ #[51, 51] 51 #[pv, .slice (some ⟨b, 0, none⟩) 1 1]).run Tryz.prog V = .ok pv' V' ∧ KS w mb pb st B3 plv pls (P ++ [p]) Y D kk pv' yv V' ∧ V.heap.size ≤ V'.heap.size ∧ ∀ c cs, Block V c 5 cs → Block V' c 5 cs := by
 have hK : OwnK 1 V w.heap.size 3 pv P.length (zs P) := by
  have := h.own1
  unfold Own at this
  rw [zs_length] at this
  exact this
 obtain ⟨v', V', hrun, hown, hg, hloc⟩ := run_appK (P := Tryz.prog) V 1 w.heap.size 51 51 3 _ 8 Tryz.underlying51 info_i rfl (by omega) pv P.length (zs P) hK ⟨b, 0, none⟩ 1 1 (zs [p]) rfl (fun k u hu => by
  have hk : k = 0 := by
   have := (List.getElem?_eq_some_iff.1 hu).1
   simp [zs] at this
   omega
  subst hk
  refine ⟨b, 0, rfl, ?_⟩
  have := hb.cell 0
  rw [Nat.zero_add]
  rw [this]
  simpa [zs] using hu) (zs_one _) (by omega) (by omega) h.bel.size
 rw [← zs_append] at hown
 obtain ⟨ho1, -⟩ := own1_of hown
 obtain ⟨f, hf, hf2⟩ := h.tm
 refine ⟨v', V', hrun, ⟨ho1, h.own2.grown hg (own_apart2 h.own2 h.own1 (by decide)), ⟨f, hf.grown hg (own_not_map h.own1 hf).symm, hf2⟩, (hg.block _ h.blk.lt (own_not_block h.own1 h.blk (by decide)).symm).trans h.blk, h.pl.grown hg h.ap, ?_, h.bel.grown hg h.bel.size (fun k hk => (own_lt h.own1 hk).1), h.mbs⟩, hg.size, fun c cs hc => (hg.block _ hc.lt (own_not_block h.own1 hc (by decide)).symm).trans hc⟩
 rcases hloc with e | e
 ·rw [e]; exact h.ap
 ·rw [e]
  cases hp : plv.ownBlock with
  | none => exact .inl rfl
  | some x =>
   refine .inr fun e2 => ?_
   have := (own_lt h.pl hp).2
   cases e2
   omega
theorem KS.appY {b : Nat} {y : F8} (hb : Block V b 5 #[.int .u8 (y.n : Nat)]) (hl : Y.length ≤ 1000000) :
  ∃ yv' V', (Builtin.append_ #[35, 35] 35 #[yv, .slice (some ⟨b, 0, none⟩) 1 1]).run Tryz.prog V = .ok yv' V' ∧ KS w mb pb st B3 plv pls P (Y ++ [y]) D kk pv yv' V' ∧ V.heap.size ≤ V'.heap.size ∧ ∀ c cs, Block V c 3 cs → Block V' c 3 cs := by
 have hK : OwnK 1 V w.heap.size 5 yv Y.length (bv (bs Y)) := by
  have := h.own2
  unfold Own at this
  rw [bvs_length] at this
  exact this
 obtain ⟨v', V', hrun, hown, hg, hloc⟩ := run_appK (P := Tryz.prog) V 1 w.heap.size 35 35 5 _ 1 Tryz.underlying35 info_u8 rfl (by omega) yv Y.length (bv (bs Y)) hK ⟨b, 0, none⟩ 1 1 (bv [y.n]) rfl (fun k u hu => by
  have hk : k = 0 := by
   have := (List.getElem?_eq_some_iff.1 hu).1
   simp [bv] at this
   omega
  subst hk
  refine ⟨b, 0, rfl, ?_⟩
  have := hb.cell 0
  rw [Nat.zero_add]
  rw [this]
  simpa [bv] using hu) (bv_one _) (by omega) (by omega) h.bel.size
 rw [← bvs_snoc] at hown
 obtain ⟨ho1, -⟩ := own1_of hown
 obtain ⟨f, hf, hf2⟩ := h.tm
 refine ⟨v', V', hrun, ⟨h.own1.grown hg (own_apart2 h.own1 h.own2 (by decide)), ho1, ⟨f, hf.grown hg (own_not_map h.own2 hf).symm, hf2⟩, (hg.block _ h.blk.lt (own_not_block h.own2 h.blk (by decide)).symm).trans h.blk, h.pl.grown hg (own_apart2 h.pl h.own2 (by decide)), h.ap, h.bel.grown hg h.bel.size (fun k hk => (own_lt h.own2 hk).1), h.mbs⟩, hg.size, fun c cs hc => (hg.block _ hc.lt (own_not_block h.own2 hc (by decide)).symm).trans hc⟩
end
theorem KS.apps {w V : World} {mb pb B3 kk : Nat} {st : Array Value} {plv pv yv : Value} {pls P : List Int} {Y : List F8} {D : List (Nat × F8)} (h : KS w mb pb st B3 plv pls P Y D kk pv yv V) (p : Int) (y : F8) (hP : P.length ≤ 1000000) (hY : Y.length ≤ 1000000) :
  (∃ v V1 u V2, (Builtin.append_ #[51, 51] 51 #[pv, .slice (some ⟨V.heap.size, 0, none⟩) 1 1]).run Tryz.prog (V.alloc (.cells #[.int .i64 p] 3)).drew = .ok v V1 ∧
   (Builtin.append_ #[35, 35] 35 #[yv, .slice (some ⟨V1.heap.size, 0, none⟩) 1 1]).run Tryz.prog (V1.alloc (.cells #[.int .u8 (y.n : Nat)] 5)) = .ok u V2 ∧ KS w mb pb st B3 plv pls (P ++ [p]) (Y ++ [y]) D kk v u V2 ∧ KS w mb pb st B3 plv pls (P ++ [p]) Y D kk v yv V1) ∧
  (∃ v V1 u V2, (Builtin.append_ #[51, 51] 51 #[pv, .slice (some ⟨V.heap.size, 0, none⟩) 1 1]).run Tryz.prog ((V.alloc (.cells #[.int .i64 p] 3)).alloc (.cells #[.int .u8 (y.n : Nat)] 5)).drew = .ok v V1 ∧
   (Builtin.append_ #[35, 35] 35 #[yv, .slice (some ⟨V.heap.size + 1, 0, none⟩) 1 1]).run Tryz.prog V1 = .ok u V2 ∧ KS w mb pb st B3 plv pls (P ++ [p]) (Y ++ [y]) D kk v u V2) ∧
  (∃ v V1 u V2, (Builtin.append_ #[35, 35] 35 #[yv, .slice (some ⟨V.heap.size + 1, 0, none⟩) 1 1]).run Tryz.prog ((V.alloc (.cells #[.int .i64 p] 3)).alloc (.cells #[.int .u8 (y.n : Nat)] 5)).drew = .ok u V1 ∧
   (Builtin.append_ #[51, 51] 51 #[pv, .slice (some ⟨V.heap.size, 0, none⟩) 1 1]).run Tryz.prog V1 = .ok v V2 ∧ KS w mb pb st B3 plv pls (P ++ [p]) (Y ++ [y]) D kk v u V2) ∧
  (∃ v V1 u V2, (Builtin.append_ #[51, 51] 51 #[pv, .slice (some ⟨V.heap.size + 1, 0, none⟩) 1 1]).run Tryz.prog ((V.alloc (.cells #[.int .u8 (y.n : Nat)] 5)).alloc (.cells #[.int .i64 p] 3)).drew = .ok v V1 ∧
   (Builtin.append_ #[35, 35] 35 #[yv, .slice (some ⟨V.heap.size, 0, none⟩) 1 1]).run Tryz.prog V1 = .ok u V2 ∧ KS w mb pb st B3 plv pls (P ++ [p]) (Y ++ [y]) D kk v u V2) ∧
  (∃ v V1 u V2, (Builtin.append_ #[35, 35] 35 #[yv, .slice (some ⟨V.heap.size, 0, none⟩) 1 1]).run Tryz.prog ((V.alloc (.cells #[.int .u8 (y.n : Nat)] 5)).alloc (.cells #[.int .i64 p] 3)).drew = .ok u V1 ∧
   (Builtin.append_ #[51, 51] 51 #[pv, .slice (some ⟨V.heap.size + 1, 0, none⟩) 1 1]).run Tryz.prog V1 = .ok v V2 ∧ KS w mb pb st B3 plv pls (P ++ [p]) (Y ++ [y]) D kk v u V2) ∧
  (∃ v V1 u V2, (Builtin.append_ #[35, 35] 35 #[yv, .slice (some ⟨V.heap.size, 0, none⟩) 1 1]).run Tryz.prog (V.alloc (.cells #[.int .u8 (y.n : Nat)] 5)).drew = .ok u V1 ∧
   (Builtin.append_ #[51, 51] 51 #[pv, .slice (some ⟨V1.heap.size, 0, none⟩) 1 1]).run Tryz.prog (V1.alloc (.cells #[.int .i64 p] 3)) = .ok v V2 ∧ KS w mb pb st B3 plv pls (P ++ [p]) (Y ++ [y]) D kk v u V2) := by
 have e1 : (V.alloc (.cells #[.int .i64 p] 3)).heap.size = V.heap.size + 1 := World.size_alloc _ _
 have e2 : (V.alloc (.cells #[.int .u8 (y.n : Nat)] 5)).heap.size = V.heap.size + 1 := World.size_alloc _ _
 have bP := Block.new V 3 #[.int .i64 p]
 have bY := Block.new V 5 #[.int .u8 (y.n : Nat)]
 have bPY : Block (V.alloc (.cells #[.int .i64 p] 3)) V.heap.size 3 #[.int .i64 p] := bP
 have bY2 : Block ((V.alloc (.cells #[.int .i64 p] 3)).alloc (.cells #[.int .u8 (y.n : Nat)] 5)) (V.heap.size + 1) 5 #[.int .u8 (y.n : Nat)] := by
  have := Block.new (V.alloc (.cells #[.int .i64 p] 3)) 5 #[.int .u8 (y.n : Nat)]
  rw [e1] at this; exact this
 have bP2 : Block ((V.alloc (.cells #[.int .u8 (y.n : Nat)] 5)).alloc (.cells #[.int .i64 p] 3)) (V.heap.size + 1) 3 #[.int .i64 p] := by
  have := Block.new (V.alloc (.cells #[.int .u8 (y.n : Nat)] 5)) 3 #[.int .i64 p]
  rw [e2] at this; exact this
 refine ⟨?_, ?_, ?_, ?_, ?_, ?_⟩
 ·obtain ⟨v, V1, r1, k1, -, -⟩ := (h.alloc (.cells #[.int .i64 p] 3)).drew.appP bP.drew hP
  obtain ⟨u, V2, r2, k2, -, -⟩ := (k1.alloc (.cells #[.int .u8 (y.n : Nat)] 5)).appY (Block.new V1 5 #[.int .u8 (y.n : Nat)]) hY
  exact ⟨v, V1, u, V2, r1, r2, k2, k1⟩
 ·obtain ⟨v, V1, r1, k1, -, q1⟩ := ((h.alloc (.cells #[.int .i64 p] 3)).alloc (.cells #[.int .u8 (y.n : Nat)] 5)).drew.appP (bP.alloc _).drew hP
  obtain ⟨u, V2, r2, k2, -, -⟩ := k1.appY (q1 _ _ bY2.drew) hY
  exact ⟨v, V1, u, V2, r1, r2, k2⟩
 ·obtain ⟨u, V1, r1, k1, -, q1⟩ := ((h.alloc (.cells #[.int .i64 p] 3)).alloc (.cells #[.int .u8 (y.n : Nat)] 5)).drew.appY bY2.drew hY
  obtain ⟨v, V2, r2, k2, -, -⟩ := k1.appP (q1 _ _ (bP.alloc _).drew) hP
  exact ⟨v, V1, u, V2, r1, r2, k2⟩
 ·obtain ⟨v, V1, r1, k1, -, q1⟩ := ((h.alloc (.cells #[.int .u8 (y.n : Nat)] 5)).alloc (.cells #[.int .i64 p] 3)).drew.appP bP2.drew hP
  obtain ⟨u, V2, r2, k2, -, -⟩ := k1.appY (q1 _ _ (bY.alloc _).drew) hY
  exact ⟨v, V1, u, V2, r1, r2, k2⟩
 ·obtain ⟨u, V1, r1, k1, -, q1⟩ := ((h.alloc (.cells #[.int .u8 (y.n : Nat)] 5)).alloc (.cells #[.int .i64 p] 3)).drew.appY (bY.alloc _).drew hY
  obtain ⟨v, V2, r2, k2, -, -⟩ := k1.appP (q1 _ _ bP2.drew) hP
  exact ⟨v, V1, u, V2, r1, r2, k2⟩
 ·obtain ⟨u, V1, r1, k1, -, -⟩ := (h.alloc (.cells #[.int .u8 (y.n : Nat)] 5)).drew.appY bY.drew hY
  obtain ⟨v, V2, r2, k2, -, -⟩ := (k1.alloc (.cells #[.int .i64 p] 3)).appP (Block.new V1 3 #[.int .i64 p]) hP
  exact ⟨v, V1, u, V2, r1, r2, k2⟩
structure KO (w : World) (mb : Nat) (L : List (Nat × F8)) (pv yv : Value) (V : World) : Prop where
 own1 : Own V w.heap.size 3 pv (zs (plI (seen L)))
 own2 : Own V w.heap.size 5 yv (bv (bs (ysD (seen L))))
 tm : TM V mb (seen L) (seen L).length
 bel : Below w.heap.size w V
 cons : Cons L
def itT (n i : Nat) (s : List F8) (t : Nat) : List (Nat × F8) := ((plcs n i).zip s).take t
theorem itT_succ {n i t : Nat} {s : List F8} (hs : s.length = (plcs n i).length) (ht : t < (plcs n i).length) : itT n i s (t + 1) = itT n i s t ++ [((plcs n i)[t], coef s t)] := by
 unfold itT
 have h1 : t < ((plcs n i).zip s).length := by rw [List.length_zip]; omega
 rw [take_succ' _ h1, List.getElem_zip, coef_of_lt (by omega)]
theorem itT_full {n i : Nat} {s : List F8} (hs : s.length = (plcs n i).length) : itT n i s (plcs n i).length = (plcs n i).zip s := by
 unfold itT
 rw [List.take_of_length_le (by rw [List.length_zip]; omega)]
theorem items_snoc (n : Nat) (sh : List (Nat × List F8)) (o : Nat × List F8) : items n (sh ++ [o]) = items n sh ++ (plcs n o.1).zip o.2 := by unfold items; rw [List.flatMap_append]; simp
theorem cons_old {L : List (Nat × F8)} {p : Nat} {y y0 : F8} (hc : Cons L) (hd : (p, y0) ∈ seen L) (he : y0 = y) : Cons (L ++ [(p, y)]) := by
 have key : ∀ z ∈ L, z.1 = p → z.2 = y := fun z hz e => by rw [← he]; exact hc z hz (p, y0) (seen_sub _ _ hd) e
 intro x hx z hz e
 rcases List.mem_append.1 hx with hx | hx <;> rcases List.mem_append.1 hz with hz | hz
 ·exact hc x hx z hz e
 ·obtain rfl := List.mem_singleton.1 hz; exact key x hx e
 ·obtain rfl := List.mem_singleton.1 hx; exact (key z hz e.symm).symm
 ·rw [List.mem_singleton.1 hx, List.mem_singleton.1 hz]
theorem cons_new {L : List (Nat × F8)} {p : Nat} {y : F8} (hc : Cons L) (hd : p ∉ (seen L).map Prod.fst) : Cons (L ++ [(p, y)]) := by
 have key : ∀ z ∈ L, z.1 ≠ p := fun z hz e => hd ((seen_places L p).2 (e ▸ List.mem_map_of_mem (f := Prod.fst) hz))
 intro x hx z hz e
 rcases List.mem_append.1 hx with hx | hx <;> rcases List.mem_append.1 hz with hz | hz
 ·exact hc x hx z hz e
 ·obtain rfl := List.mem_singleton.1 hz; exact absurd e (key x hx)
 ·obtain rfl := List.mem_singleton.1 hx; exact absurd e.symm (key z hz)
 ·rw [List.mem_singleton.1 hx, List.mem_singleton.1 hz]
theorem cons_not {L M : List (Nat × F8)} {p : Nat} {y y0 : F8} (hd : (p, y0) ∈ seen L) (he : y0 ≠ y) (hs : ∀ z ∈ L ++ [(p, y)], z ∈ M) : ¬ Cons M := fun hc =>
 he (hc (p, y0) (hs _ (List.mem_append_left _ (seen_sub _ _ hd))) (p, y) (hs _ (by simp)) rfl)
theorem seen_old {L : List (Nat × F8)} {p : Nat} {y : F8} (h : p ∈ (seen L).map Prod.fst) : seen (L ++ [(p, y)]) = seen L := by rw [seen_snoc]; exact if_pos h
theorem seen_new {L : List (Nat × F8)} {p : Nat} {y : F8} (h : p ∉ (seen L).map Prod.fst) : seen (L ++ [(p, y)]) = seen L ++ [(p, y)] := by rw [seen_snoc]; exact if_neg h
end Go.Proofs.YtjoghbmedfmioabGreat.Tr

namespace Go.Proofs.YtjoghbmedfmioabGreat.Tr
open Go.RowKit Go.Shelf F8 Poly GF Rd Ms
attribute [local go_sem] Oper.semAt_some
def KnG (n : Nat) (l : List El) (w : World) (e : Ending) (w' : World) : Prop :=
 (Cons (items n (nat (shE l))) ∧ ∃ A c B d, e = .returned (.tuple #[.slice A (seen (items n (nat (shE l)))).length c, .slice B (seen (items n (nat (shE l)))).length d, .bool true]) ∧ (seen (items n (nat (shE l)))).length ≤ c ∧ (seen (items n (nat (shE l)))).length ≤ d ∧
  Own w' w.heap.size 3 (.slice A (seen (items n (nat (shE l)))).length c) (zs (plI (seen (items n (nat (shE l)))))) ∧ Own w' w.heap.size 5 (.slice B (seen (items n (nat (shE l)))).length d) (bv (bs (ysD (seen (items n (nat (shE l))))))) ∧ Below w.heap.size w w') ∨
 (¬ Cons (items n (nat (shE l))) ∧ e = .returned (.tuple #[.slice none 0 0, .slice none 0 0, .bool false]) ∧ Below w.heap.size w w')
theorem nat_snoc (l : List El) (e : El) : nat (shE (l ++ [e])) = nat (shE l) ++ [(e.p.toNat, e.s)] := by simp [nat, shE]
theorem seen_le {n : Nat} {sh : List (Nat × List F8)} (h : ∀ o ∈ sh, o.1 < n ∧ o.2.length = n - 1) {L : List (Nat × F8)} (hL : ∀ z ∈ L, z ∈ items n sh) : (seen L).length ≤ rs n n := by
 have h1 := nodup_le (rs n n) _ (seen_nodup L) fun p hp => by
  have h2 := (seen_places L p).1 hp
  obtain ⟨z, hz, rfl⟩ := List.mem_map.1 h2
  obtain ⟨o, ho, hpo⟩ := (mem_items h).1 (List.mem_map_of_mem (f := Prod.fst) (hL z hz))
  exact plcs_lt (h o ho).1 hpo
 rwa [List.length_map] at h1
attribute [-go_sem] Builtin.append_
set_option maxRecDepth 100000 in
set_option maxHeartbeats 16000000 in
theorem known_calls {S : Tc} {w : World} (h : S.Ok w) (A : Option Addr) (l : List El) (m c : Nat) (hl : l.length = m) (hm9 : m ≤ 1000) (hE : Els S.g w A l) (hok : ShOk S.n (S.n - 1) (shE l)) :
  Calls Tryz.prog 34 #[.pointer (some ⟨S.b, 0, none⟩), .slice A m c] w (KnG S.n l w) := by
 have H := Lib.hid h
 have HE := Lib.hid hE
 have HL := Lib.hid hl
 have hn := h.n24
 have HOk := Lib.hid (nat_ok hok).1
 have HE9 := Lib.hid h.e255
 have hmm := @run_makeMap Tryz.prog
 have HSh : Hid (∀ e ∈ l, ∃ i : Nat, e.p = (i : Int) ∧ i < S.n ∧ e.s.length = S.n - 1) := Lib.hid fun e he => by
  have := hok.1 (e.p, e.s) (List.mem_map.2 ⟨e, he, rfl⟩)
  exact ⟨e.p.toNat, by omega, by omega, this.2⟩
 clear h hE hl hok
 go_enter Tryz.func34, Tryz.ntmps34
 go_wp2
 go_loopw [4, 5, 17] (fun pv yv tv wr => ∃ t : Nat, t ≤ m ∧ tv = .int .i64 t ∧ Hid (KO w w.heap.size (items S.n (nat (shE (l.take t)))) pv yv wr)) (fun _ _ tv _ => m - (intOf tv).toNat)
 case atStart =>
  refine ⟨0, by omega, rfl, Lib.hid ⟨Own.nil _ _ _, Own.nil _ _ _, ⟨_, MapF.made w _ _ _, fun p hp => ⟨fun _ => rfl, fun y hy => by simp [items, nat, shE, seen] at hy⟩⟩, (Below.refl _ _).alloc (Nat.le_refl _) _, fun x hx => by simp [items, nat, shE] at hx⟩⟩
 case round =>
  clear hmm
  obtain ⟨t, ht, rfl, HK⟩ := hrel
  by_cases htm : t < m
  ·have hd : decide (t < m) = true := by simpa using htm
   have hti : t < l.length := by rw [HL.out]; exact htm
   obtain ⟨b, off, rfl, hc0, hc1⟩ := row2_at (HE.out.below HK.out.bel).row hti
   have HTk : Hid (l.take (t + 1) = l.take t ++ [l[t]]) := Lib.hid (take_succ' l hti)
   have hmem : l[t] ∈ l := List.getElem_mem hti
   obtain ⟨e, he⟩ : ∃ e, l[t] = e := ⟨_, rfl⟩
   rw [he] at hc0 hc1 HTk hmem
   obtain ⟨i, hi1, hin, hsl⟩ := HSh.out e hmem
   obtain ⟨ep, eA, es, ec⟩ := e
   obtain rfl : ep = (i : Int) := hi1
   obtain ⟨u, hu⟩ : ∃ u, S.n - 1 = u := ⟨_, rfl⟩
   have hsl2 : es.length = u := by rw [← hu]; exact hsl
   replace hc0 : wr.cell? ⟨b, off + t * 2, none⟩ = some (.int .i64 (i : Int)) := hc0
   replace hc1 : wr.cell? ⟨b, off + t * 2 + 1, none⟩ = some (.slice eA es.length ec) := hc1
   rw [hsl2] at hc1
   have hsw := HK.out.bel.size
   have hba : Below wr.heap.size wr (wr.alloc (.cells #[.int .i64 (i : Int), .slice eA u ec] 55)) := (Below.refl _ _).alloc (Nat.le_refl _) _
   have hv0 := (Block.new wr 55 #[.int .i64 (i : Int), .slice eA u ec]).cell 0
   have HPl := Lib.hid (placesOf_calls ((H.out.below HK.out.bel).below hba) i hin)
   have HBk := Lib.hid (Block.new wr 55 #[.int .i64 (i : Int), .slice eA u ec])
   have HBa := Lib.hid hba
   have HSl := Lib.hid hsl2
   have HU := Lib.hid hu
   have HMe := Lib.hid hmem
   have hu9 : u ≤ 23 := by omega
   rw [hu] at HPl
   obtain ⟨pb, hpb⟩ : ∃ pb, wr.heap.size = pb := ⟨_, rfl⟩
   have HPb := Lib.hid hpb
   clear hba hsl hsl2 he hmem hu
   go_wp2_with fail
   refine HPl.out.mono ?_
   rintro e w3 ⟨A3, c3, rfl, hc3, hO3, hb3⟩
   rw [World.size_alloc, hpb] at hO3
   have hplv : ∀ x, (Value.slice A3 u c3).ownBlock = some x → pb + 1 ≤ x := fun x hx => (own_lt hO3 hx).1
   have HKs : Hid (KS w w.heap.size pb #[.int .i64 (i : Int), .slice eA u ec] (pb + 1) (.slice A3 u c3) (plT S.n i S.n) (plI (seen (items S.n (nat (shE (l.take t)))))) (ysD (seen (items S.n (nat (shE (l.take t)))))) (seen (items S.n (nat (shE (l.take t))))) (seen (items S.n (nat (shE (l.take t))))).length u4 u5 w3) := Lib.hid (by
    have hbb : Below wr.heap.size wr w3 := HBa.out.trans (hb3.mono HBa.out.size)
    refine ⟨HK.out.own1.below hbb, HK.out.own2.below hbb, HK.out.tm.below hbb, ?_, hO3, ?_, HK.out.bel.trans (hbb.mono hsw), Nat.le_refl _⟩
    ·rw [← HPb.out]
     exact HBk.out.below hb3 HBk.out.lt
    ·cases hp : (Value.slice A3 u c3).ownBlock with
     | none => exact .inl rfl
     | some x =>
      refine .inr fun e2 => ?_
      have h1 := hplv x hp
      have h2 := (own_lt HK.out.own1 e2.symm).2
      omega)
   have HCn := Lib.hid HK.out.cons
   have HLp : Hid ((plcs S.n i).length = u) := Lib.hid (by rw [plcs_length hin, HU.out])
   have HPe := Lib.hid (plT_full S.n i)
   obtain ⟨L0, hL0⟩ : ∃ L0, items S.n (nat (shE (l.take t))) = L0 := ⟨_, rfl⟩
   rw [hL0] at HKs HCn
   have HL0 := Lib.hid hL0
   have HIt : Hid (items S.n (nat (shE (l.take (t + 1)))) = L0 ++ itT S.n i es u) := Lib.hid (by
    rw [HTk.out, nat_snoc, items_snoc, hL0]
    congr 1
    have h5 := itT_full (n := S.n) (i := i) (s := es) (by rw [HSl.out, HLp.out])
    rw [HLp.out] at h5
    exact h5.symm)
   have HSub : Hid (∀ r, r ≤ u → ∀ z ∈ L0 ++ itT S.n i es r, z ∈ items S.n (nat (shE l))) := Lib.hid (fun r hr z hz => by
    have h1 : z ∈ items S.n (nat (shE (l.take (t + 1)))) := by
     rw [HIt.out]
     rcases List.mem_append.1 hz with hz | hz
     ·exact List.mem_append_left _ hz
     ·refine List.mem_append_right _ ?_
      unfold itT at hz ⊢
      exact (List.take_sublist_take_left hr).subset hz
    unfold items at h1 ⊢
    rw [List.mem_flatMap] at h1 ⊢
    obtain ⟨o, ho, hz⟩ := h1
    refine ⟨o, ?_, hz⟩
    unfold nat shE at ho ⊢
    rw [List.map_take, List.map_take] at ho
    exact List.mem_of_mem_take ho)
   clear hO3 hb3 hplv HK HPl HBa HBk hv0 hc0 hc1 hL0
   go_wp2_with fail
   go_loopw [4, 5, 26] (fun pv yv rv wr => ∃ (r kk : Nat), r ≤ u ∧ rv = .int .i64 r ∧ Hid (KS w w.heap.size pb #[.int .i64 (i : Int), .slice eA u ec] (pb + 1) (.slice A3 u c3) (plT S.n i S.n) (plI (seen (L0 ++ itT S.n i es r))) (ysD (seen (L0 ++ itT S.n i es r))) (seen (L0 ++ itT S.n i es r)) kk pv yv wr) ∧ Hid (Cons (L0 ++ itT S.n i es r)) ∧ kk = (seen (L0 ++ itT S.n i es r)).length) (fun _ _ rv _ => u - (intOf rv).toNat)
   case atStart =>
    have e0 : L0 ++ itT S.n i es 0 = L0 := by simp [itT]
    exact ⟨0, _, by omega, rfl, by rw [e0]; exact HKs, by rw [e0]; exact HCn, by rw [e0]⟩
   case round =>
    clear HKs HCn
    obtain ⟨r, kk, hr, rfl, HKs, HCn, hkk⟩ := hrel
    by_cases hru : r < u
    ·have hrp : r < (plcs S.n i).length := by rw [HLp.out]; exact hru
     have hri : r < (plT S.n i S.n).length := by rw [HPe.out, List.length_map]; exact hrp
     obtain ⟨b4, o4, hA3, hcell⟩ := zs_at (own_row HKs.out.pl) hri
     subst hA3
     have hval : (plT S.n i S.n)[r] = (((plcs S.n i)[r] : Nat) : Int) := by simp [HPe.out]
     rw [hval] at hcell
     have hpl := plcs_lt hin (List.getElem_mem hrp)
     have HEi := Lib.hid (itT_succ (n := S.n) (i := i) (s := es) (by rw [HSl.out, HLp.out]) hrp)
     obtain ⟨p, hp⟩ : ∃ p, (plcs S.n i)[r] = p := ⟨_, rfl⟩
     rw [hp] at hcell hpl HEi
     have hby := ((HE.out.below HKs.out.bel).lst _ HMe.out).1.by_
     obtain ⟨b5, o5, hA5⟩ := where_ hby (by show 0 < es.length; rw [HSl.out]; omega)
     have hA5 : eA = some ⟨b5, o5, none⟩ := hA5
     subst hA5
     have hcd := cellAt hby r (by show r < es.length; rw [HSl.out]; exact hru)
     obtain ⟨y, hy⟩ : ∃ y, coef es r = y := ⟨_, rfl⟩
     rw [hy] at HEi
     have HY := Lib.hid hy
     replace hcd : wr.cell? ⟨b5, o5 + r, none⟩ = some (.int .u8 (y.n : Nat)) := by rw [← hy]; exact hcd
     have hv0 := HKs.out.blk.cell 1
     have hv1 : wr.cell? ⟨pb, 1, none⟩ = some (.slice (some ⟨b5, o5, none⟩) u ec) := hv0
     have hpE : p < 1000 := by have := HE9.out; unfold Tc.E at this; omega
     obtain ⟨L1, hL1⟩ : ∃ L1, L0 ++ itT S.n i es r = L1 := ⟨_, rfl⟩
     have hL2 : L0 ++ itT S.n i es (r + 1) = L1 ++ [(p, y)] := by rw [HEi.out, ← List.append_assoc, hL1]
     rw [hL1] at HKs HCn hkk
     have HL2 := Lib.hid hL2
     have HSb := Lib.hid (HSub.out (r + 1) (by omega))
     rw [hL2] at HSb
     have hk9 : kk < 1000 := by
      have h5 := seen_le HOk.out (L := L1) (fun z hz => HSub.out r (by omega) z (by rw [hL1]; exact hz))
      have := HE9.out
      unfold Tc.E at this
      omega
     have HKk := Lib.hid hkk
     clear hL1 hL2 hy hp hval hv0 hby hkk
     by_cases hpd : p ∈ (seen L1).map Prod.fst
     ·obtain ⟨⟨p', y0⟩, hd0, hpp⟩ := List.mem_map.1 hpd
      obtain rfl : p' = p := hpp
      have hlk := HKs.out.tm.look_yes hpE hd0
      by_cases hyy : y0 = y
      ·have hne : ((y0.n : Int) != (y.n : Int)) = false := by rw [hyy]; simp
       have HC2 := Lib.hid (cons_old HCn.out hd0 hyy)
       have hse := seen_old (y := y) hpd
       have HK2 : Hid (KS w w.heap.size pb #[.int .i64 (i : Int), .slice (some ⟨b5, o5, none⟩) u ec] (pb + 1) (.slice (some ⟨b4, o4, none⟩) u c3) (plT S.n i S.n) (plI (seen (L1 ++ [(p', y)]))) (ysD (seen (L1 ++ [(p', y)]))) (seen (L1 ++ [(p', y)])) kk u4 u5 wr) := Lib.hid (by rw [hse]; exact HKs.out)
       have HKk2 : Hid (kk = (seen (L1 ++ [(p', y)])).length) := Lib.hid (by rw [hse]; exact HKk.out)
       rw [← HL2.out] at HC2 HK2 HKk2
       clear hd0 hpd hyy hse
       go_wp2
       go_roundw
       case rel => exact ⟨r + 1, kk, by omega, by go_num, HK2, HC2, HKk2.out⟩
       case measure => simp [intOf]; omega
      ·have hnn : y0.n ≠ y.n := fun e => hyy (F8.n_inj.1 e)
       have hne : ((y0.n : Int) != (y.n : Int)) = true := by simp; omega
       have HX : Hid (KnG S.n l w (.returned (.tuple #[.slice none 0 0, .slice none 0 0, .bool false])) wr) := Lib.hid (.inr ⟨cons_not hd0 hyy HSb.out, rfl, HKs.out.bel⟩)
       clear hd0 hpd hyy hnn
       go_wp2
       go_ret3
       exact HX.out
     ·have hlk := HKs.out.tm.look_no hpE hpd
      obtain ⟨V1, hput, hk1, hs1⟩ := HKs.out.put (by omega) hpE hpd y
      have HC2 := Lib.hid (cons_new (y := y) HCn.out hpd)
      have hse := seen_new (y := y) hpd
      have hPl : (plI (seen L1)).length ≤ 1000000 := by have := HKk.out; simp [plI]; omega
      have hYl : (ysD (seen L1)).length ≤ 1000000 := by have := HKk.out; simp [ysD]; omega
      have hfin : ∀ v u V, KS w w.heap.size pb #[.int .i64 (i : Int), .slice (some ⟨b5, o5, none⟩) (S.n - 1) ec] (pb + 1) (.slice (some ⟨b4, o4, none⟩) (S.n - 1) c3) (plT S.n i S.n) (plI (seen L1) ++ [(p : Int)]) (ysD (seen L1) ++ [y]) (seen L1 ++ [(p, y)]) (kk + 1) v u V → KS w w.heap.size pb #[.int .i64 (i : Int), .slice (some ⟨b5, o5, none⟩) (S.n - 1) ec] (pb + 1) (.slice (some ⟨b4, o4, none⟩) (S.n - 1) c3) (plT S.n i S.n) (plI (seen (L0 ++ itT S.n i es (r + 1)))) (ysD (seen (L0 ++ itT S.n i es (r + 1)))) (seen (L0 ++ itT S.n i es (r + 1))) (kk + 1) v u V := fun v u V hh => by
       rw [HL2.out, hse]
       unfold plI ysD at hh ⊢
       rw [List.map_append, List.map_append]
       exact hh
      have HFin := Lib.hid hfin
      rw [HU.out] at HFin
      have HKk2 : Hid (kk + 1 = (seen (L0 ++ itT S.n i es (r + 1))).length) := Lib.hid (by rw [HL2.out, hse, List.length_append, HKk.out]; rfl)
      rw [← HL2.out] at HC2
      have HCell : Hid (∀ X : World, Below w.heap.size w X → Block X pb 55 #[.int .i64 (i : Int), .slice (some ⟨b5, o5, none⟩) u ec] → X.cell? ⟨pb, 1, none⟩ = some (.slice (some ⟨b5, o5, none⟩) u ec) ∧ X.cell? ⟨b5, o5 + r, none⟩ = some (.int .u8 (y.n : Nat))) := Lib.hid (fun X hX hB => by
       have hby := ((HE.out.below hX).lst _ HMe.out).1.by_
       have h5 := cellAt hby r (by show r < es.length; rw [HSl.out]; exact hru)
       exact ⟨hB.cell 1, by rw [← HY.out]; exact h5⟩)
      obtain ⟨hv2, hcd2⟩ := HCell.out V1 hk1.bel hk1.blk
      have hk1a := (hk1.alloc (.cells #[.int .i64 (p : Int)] 3)).drew
      obtain ⟨hv3, hcd3⟩ := HCell.out _ hk1a.bel hk1a.blk
      obtain ⟨⟨va, Va, ua, Wa, ra, sa, ka, kaa⟩, ⟨vb, Vb, ub, Wb, rb, sb, kb⟩, ⟨vc, Vc, uc, Wc, rc, sc, kc⟩, ⟨vd, Vd, ud, Wd, rd, sd, kd⟩, ⟨ve, Ve, ue, We, re, se, ke⟩, ⟨vf, Vf, uf, Wf, rf, sf, kf⟩⟩ := hk1.apps (p : Int) y hPl hYl
      obtain ⟨hv4, hcd4⟩ := HCell.out _ kaa.bel kaa.blk
      have Ka := Lib.hid (HFin.out _ _ _ ka)
      have Kb := Lib.hid (HFin.out _ _ _ kb)
      have Kc := Lib.hid (HFin.out _ _ _ kc)
      have Kd := Lib.hid (HFin.out _ _ _ kd)
      have Ke := Lib.hid (HFin.out _ _ _ ke)
      have Kf := Lib.hid (HFin.out _ _ _ kf)
      clear ka kaa hk1a kb kc kd ke kf hse hPl hYl hfin hk1 hpd
      go_wp2
      go_region
      all_goals
       clear ra sa rb sb rc sc rd sd re se rf sf hput hv2 hcd2 hv3 hcd3 hv4 hcd4 hv1 hcd hlk hcell
       go_wp2
       go_roundw
       case rel => first | exact ⟨r + 1, kk + 1, by omega, by go_num, Ka, HC2, HKk2.out⟩ | exact ⟨r + 1, kk + 1, by omega, by go_num, Kb, HC2, HKk2.out⟩ | exact ⟨r + 1, kk + 1, by omega, by go_num, Kc, HC2, HKk2.out⟩ | exact ⟨r + 1, kk + 1, by omega, by go_num, Kd, HC2, HKk2.out⟩ | exact ⟨r + 1, kk + 1, by omega, by go_num, Ke, HC2, HKk2.out⟩ | exact ⟨r + 1, kk + 1, by omega, by go_num, Kf, HC2, HKk2.out⟩
       case measure => simp [intOf]; omega
    ·have e1 : r = u := by omega
     have hk := HKs.out
     have hc := HCn.out
     rw [e1, ← HIt.out] at hk hc hkk
     rw [hkk] at hk
     have HK2 : Hid (KO w w.heap.size (items S.n (nat (shE (l.take (t + 1))))) u4 u5 wr) := Lib.hid ⟨hk.own1, hk.own2, hk.tm, hk.bel, hc⟩
     have hru' : ¬ ((r : Int) < (u : Int)) := by omega
     clear hk hc hkk HKs HCn
     go_wp2
     go_roundw
     case rel => exact ⟨t + 1, by omega, by go_num, HK2⟩
     case measure => simp [intOf]; omega
  ·have hk := HK.out
   rw [List.take_of_length_le (by rw [HL.out]; omega)] at hk
   obtain ⟨A1, c1, rfl, -, -⟩ := hk.own1.form
   obtain ⟨A2, c2, rfl, -, -⟩ := hk.own2.form
   have h1 := hk.own1
   have h2 := hk.own2
   have e1 : (zs (plI (seen (items S.n (nat (shE l)))))).length = (seen (items S.n (nat (shE l)))).length := by rw [zs_length]; simp [plI]
   have e2 : (bv (bs (ysD (seen (items S.n (nat (shE l))))))).length = (seen (items S.n (nat (shE l)))).length := by rw [bvs_length]; simp [ysD]
   rw [e1] at h1 ⊢
   rw [e2] at h2 ⊢
   have HX : Hid (KnG S.n l w (.returned (.tuple #[.slice A1 (seen (items S.n (nat (shE l)))).length c1, .slice A2 (seen (items S.n (nat (shE l)))).length c2, .bool true])) wr) := Lib.hid (.inl ⟨hk.cons, A1, c1, A2, c2, rfl, own_cap2 h1 e1, own_cap2 h2 e2, h1, h2, hk.bel⟩)
   obtain ⟨N, hN⟩ : ∃ N, (seen (items S.n (nat (shE l)))).length = N := ⟨_, rfl⟩
   rw [hN] at HX ⊢
   have htm' : ¬ ((t : Int) < (m : Int)) := by omega
   clear hk h1 h2 e1 e2 HK hN
   go_wp2
   go_ret3
   exact HX.out
end Go.Proofs.YtjoghbmedfmioabGreat.Tr

namespace Go.Proofs.YtjoghbmedfmioabGreat.Tr
open Go.RowKit Go.Shelf F8 Poly GF Rd Ms
attribute [local go_sem] Oper.semAt_some
theorem shok_iff {n a : Nat} {l : List El} : ShOk n a (shE l) ↔ Sy.VOk n a [] (Sy.elsN l) := by
 have e1 : (shE l).map Prod.fst = (Sy.elsN l).map Prod.fst := by simp [shE, Sy.elsN]
 unfold ShOk Sy.VOk
 rw [e1]
 constructor
 ·rintro ⟨h2, h1⟩
  refine ⟨h1, fun o ho => ?_⟩
  obtain ⟨e, he, rfl⟩ := List.mem_map.1 ho
  have := h2 (e.p, e.s) (List.mem_map.2 ⟨e, he, rfl⟩)
  exact ⟨this.1, by simp, this.2⟩
 ·rintro ⟨h1, h2⟩
  refine ⟨fun o ho => ?_, h1⟩
  obtain ⟨e, he, rfl⟩ := List.mem_map.1 ho
  have := h2 (e.p, e.s.length) (List.mem_map.2 ⟨e, he, rfl⟩)
  exact ⟨this.1, this.2.2⟩
def DecG (S : Tc) (sh : List (Int × List F8)) (w : World) (e : Ending) (w' : World) : Prop :=
 ∃ ms z, TIs S.n S.k (pts S.E) sh ms z ∧ PolyResE (some ⟨S.g, 0, none⟩) w w' e ms z
theorem DecG.err {S : Tc} {sh : List (Int × List F8)} {w w' : World} {z : Int} (hf : FldP w' (some ⟨S.g, 0, none⟩)) (hp : Past w.heap.size S.g w w') (h : TIs S.n S.k (pts S.E) sh [] z) : DecG S sh w (.returned (.tuple #[.slice none 0 0, .int .i64 z])) w' :=
 ⟨[], z, h, none, 0, rfl, Nat.le_refl _, Own.nil _ _ _, hf, hp⟩
set_option maxRecDepth 100000 in
set_option maxHeartbeats 8000000 in
theorem decode_calls (PS : Poly.Spec) {S : Tc} {w : World} (h : S.Ok w) (A : Option Addr) (l : List El) (m c : Nat) (hl : l.length = m) (hm9 : m ≤ 1000) (hE : Els S.g w A l) :
  Calls Tryz.prog 13 #[.pointer (some ⟨S.b, 0, none⟩), .slice A m c] w (DecG S (shE l) w) := by
 have HNone := Lib.hid (isNone_calls h)
 have hn := h.n24
 have hkn := h.kn
 have H := Lib.hid h
 have HE := Lib.hid hE
 have HL := Lib.hid hl
 obtain ⟨u, hu⟩ : ∃ u, S.n - 1 = u := ⟨_, rfl⟩
 have HU := Lib.hid hu
 have HAl : Hid (∀ V, S.Ok V → Calls Tryz.prog 19 #[.pointer (some ⟨S.b, 0, none⟩)] V fun e w' => e = .returned (.int .i64 (u : Nat)) ∧ V = w') := Lib.hid fun V hV => by rw [← hu]; exact alpha_calls hV
 have HVal : Hid (∀ V, Below w.heap.size w V → Calls Tryz.prog 31 #[.slice A m c, .int .i64 (S.n : Nat), .int .i64 (u : Nat), .slice none 0 0] V fun e w' => e = .returned (.bool (decide (Sy.VOk S.n u [] (Sy.elsN l)))) ∧ Below V.heap.size V w') := Lib.hid fun V hV =>
  Sy.valid_calls A l m c S.n u none [] 0 0 V hl hm9 (hE.below hV).row (by omega) rfl (by omega) (Row.nil _ _)
 have HC : Hid (∀ V, S.Ok V → V.cell? ⟨S.b, 0, none⟩ = some (.int .i64 S.n)) := Lib.hid fun V hV => hV.cells.1
 have HK := Lib.hid (h.below (Below.refl _ _).drew)
 have HB : Hid (Below w.heap.size w w.drew) := Lib.hid (Below.refl _ _).drew
 have HS := Lib.hid (HC.out _ HK.out)
 obtain ⟨bb, hbb⟩ : ∃ bb, decide (Sy.VOk S.n u [] (Sy.elsN l)) = bb := ⟨_, rfl⟩
 rw [hbb] at HVal
 clear h hE hl hu
 go_enter Tryz.func13, Tryz.ntmps13
 go_wp2_with (go_at_call 29; refine HNone.out.mono ?_; rintro e w1 ⟨rfl, rfl⟩)
 go_region_held (fun V => V.cell? ⟨S.b, 0, none⟩ = some (.int .i64 S.n)) (exact HS.out)
  ((first
   | (go_at_call 31; (with_reducible refine (HVal.out _ HB.out).mono ?_); rintro e1 w1 ⟨rfl, hb1⟩; replace HK := Lib.hid (HK.out.below hb1); replace HB := Lib.hid (HB.out.trans (hb1.mono HB.out.size)); replace HS := Lib.hid (HC.out _ HK.out); clear hb1)
   | (go_at_call 19; (with_reducible refine (HAl.out _ HK.out).mono ?_); rintro e1 w1 ⟨rfl, rfl⟩)))
 cases bb
 ·have hno : ¬ ShOk S.n (S.n - 1) (shE l) := fun hA => of_decide_eq_false hbb (by rw [HU.out] at hA; exact shok_iff.1 hA)
  have HX := Lib.hid (DecG.err HK.out.fld (Past.of_below HB.out _) (.inl ⟨hno, rfl, rfl⟩) : DecG S (shE l) w (.returned (.tuple #[.slice none 0 0, .int .i64 2])) w1)
  clear hno hbb
  go_wp2
  go_ret2
  exact HX.out
 have hA : ShOk S.n (S.n - 1) (shE l) := by rw [HU.out]; exact shok_iff.2 (of_decide_eq_true hbb)
 have hsl : (shE l).length = m := by rw [shE_length]; exact HL.out
 obtain ⟨-, c1, -, c3⟩ := HK.out.cells
 by_cases hk : m < S.k
 ·have HX := Lib.hid (DecG.err HK.out.fld (Past.of_below HB.out _) (.inr (.inl ⟨hA, by omega, rfl, rfl⟩)) : DecG S (shE l) w (.returned (.tuple #[.slice none 0 0, .int .i64 70])) w1)
  have hd : ((m : Int) < (S.k : Int)) := by omega
  clear hA hbb
  go_wp2
  go_ret2
  exact HX.out
 have hd : ¬ ((m : Int) < (S.k : Int)) := by omega
 have HKn := Lib.hid (known_calls HK.out A l m c HL.out hm9 (HE.out.below HB.out) hA)
 have HA := Lib.hid hA
 have HSl := Lib.hid hsl
 have hsw := HB.out.size
 clear hA hsl hbb HS HC HVal HAl
 go_wp2_with fail
 refine HKn.out.mono ?_
 rintro e w2 (⟨hcons, P, pc, Y, yc, rfl, hpc, hyc, hO1, hO2, hb2⟩ | ⟨hnc, rfl, hb2⟩)
 rotate_left
 ·have hB2 := HB.out.trans (hb2.mono hsw)
  have HX := Lib.hid (DecG.err (HK.out.fld.below hb2) (Past.of_below hB2 _) (tis_lost (pts_length _) HA.out (by rw [HSl.out]; omega) hnc) : DecG S (shE l) w (.returned (.tuple #[.slice none 0 0, .int .i64 80])) w2)
  clear hnc hb2 hB2 HKn
  go_wp2
  go_ret2
  exact HX.out
 have HK2 := Lib.hid (HK.out.below hb2)
 have HB2 := Lib.hid (HB.out.trans (hb2.mono hsw))
 obtain ⟨N, hN⟩ : ∃ N, (seen (items S.n (nat (shE l)))).length = N := ⟨_, rfl⟩
 rw [hN] at hpc hyc hO1 hO2 ⊢
 have hN9 : N ≤ 1000 := by
  have h5 := seen_le (nat_ok HA.out).1 (L := items S.n (nat (shE l))) (fun z hz => hz)
  have := HK2.out.e255
  unfold Tc.E at this
  omega
 have hglt := HK2.out.fld.fld.lt
 have hO2' : Own w2 w1.heap.size 5 (.slice Y N yc) (bv (bs (ysD (seen (items S.n (nat (shE l))))))) := hO2
 have hDc := Rd.decode_calls PS HK2.out.cd P (plI (seen (items S.n (nat (shE l))))) N pc (by simp [plI, hN]) (own_row hO1) hN9 Y (ysD (seen (items S.n (nat (shE l))))) N yc (by simp [ysD, hN]) (Own.bytes hO2') hyc hN9 (far_own HK2.out.fld.fld hO2')
 have HDc := Lib.hid hDc
 have HTis : Hid (∀ lm z, DecIs (pts S.E) S.B (plI (seen (items S.n (nat (shE l))))) (ysD (seen (items S.n (nat (shE l))))) lm z → TIs S.n S.k (pts S.E) (shE l) (if z = 0 then lm else []) (if z = 0 then 0 else 80)) := Lib.hid fun lm z hd => tis_of (pts_length _) HA.out (by rw [HSl.out]; omega) hcons hd
 obtain ⟨-, -, -, c3⟩ := HK2.out.cells
 have hs2 := HB2.out.size
 clear hcons hO1 hO2 hO2' hb2 hN hDc HKn
 go_wp2_with fail
 refine HDc.out.mono ?_
 rintro e w3 ⟨lm, z, hdi, A9, c9, rfl, hc9, hO9, hf9, hp9⟩
 have hp9' : Past w2.heap.size S.g w2 w3 := hp9
 have hti := HTis.out lm z hdi
 have hpw : Past w.heap.size S.g w w3 := (Past.of_below HB2.out _).trans (hp9'.mono hs2)
 by_cases hz : z = 0
 ·rw [if_pos hz, if_pos hz] at hti
  have HX : Hid (DecG S (shE l) w (.returned (.tuple #[.slice A9 lm.length c9, .int .i64 0])) w3) := Lib.hid ⟨lm, 0, hti, A9, c9, rfl, hc9, hO9.more hs2, hf9, hpw⟩
  have hzz : (z != 0) = false := by simp [hz]
  obtain ⟨q, hq⟩ : ∃ q, lm.length = q := ⟨_, rfl⟩
  rw [hq] at HX ⊢
  clear hti hdi hO9 hf9 hp9 hp9' hpw hz hc9 hq HDc HTis
  go_wp2
  go_ret2
  exact HX.out
 ·rw [if_neg hz, if_neg hz] at hti
  have HX := Lib.hid (DecG.err hf9 hpw hti)
  have hzz : (z != 0) = true := by simp [hz]
  obtain ⟨q, hq⟩ : ∃ q, lm.length = q := ⟨_, rfl⟩
  rw [hq]
  clear hti hdi hO9 hf9 hp9 hp9' hpw hz hc9 hq HDc HTis
  go_wp2
  go_ret2
  exact HX.out
end Go.Proofs.YtjoghbmedfmioabGreat.Tr

namespace Go.Proofs.YtjoghbmedfmioabGreat.Tr
open Go.RowKit Go.Shelf F8 Poly GF Rd Ms
attribute [local go_sem] Oper.semAt_some
theorem two_elsL {g : Nat} {w : World} (hf : Fld w g) (p q : Int) (cx cy : Array Value) (x y : List F8) (n m : Nat) (hx : cx.toList = bv (bs x)) (hy : cy.toList = bv (bs y)) (hn : x.length = n) (hm : y.length = m) :
  Els g (((w.alloc (.cells cx 5)).alloc (.cells cy 5)).alloc (.cells #[.int .i64 p, .slice (some ⟨w.heap.size, 0, none⟩) n n, .int .i64 q, .slice (some ⟨w.heap.size + 1, 0, none⟩) m m] 55)) (some ⟨w.heap.size + 1 + 1, 0, none⟩) [⟨p, some ⟨w.heap.size, 0, none⟩, x, n⟩, ⟨q, some ⟨w.heap.size + 1, 0, none⟩, y, m⟩] := by
 subst hn hm
 have hb1 : Below w.heap.size w (w.alloc (.cells cx 5)) := (Below.refl _ _).alloc (Nat.le_refl _) _
 have h1 := bf_new hf cx x hx
 have hf1 : Fld (w.alloc (.cells cx 5)) g := hf.below hb1 hf.lt
 have h2 := bf_new hf1 cy y hy
 have hb2 : Below (w.alloc (.cells cx 5)).heap.size (w.alloc (.cells cx 5)) ((w.alloc (.cells cx 5)).alloc (.cells cy 5)) := (Below.refl _ _).alloc (Nat.le_refl _) _
 have h1' := h1.below hb2
 rw [World.size_alloc] at h2
 obtain ⟨W, hW⟩ : ∃ W, (w.alloc (.cells cx 5)).alloc (.cells cy 5) = W := ⟨_, rfl⟩
 have hz : W.heap.size = w.heap.size + 1 + 1 := by rw [← hW, World.size_alloc, World.size_alloc]
 rw [hW] at h1' h2 ⊢
 have hb3 : Below W.heap.size W (W.alloc (.cells #[.int .i64 p, .slice (some ⟨w.heap.size, 0, none⟩) x.length x.length, .int .i64 q, .slice (some ⟨w.heap.size + 1, 0, none⟩) y.length y.length] 55)) := (Below.refl _ _).alloc (Nat.le_refl _) _
 refine ⟨?_, fun e he => ?_⟩
 ·have := Row.new W #[.int .i64 p, .slice (some ⟨w.heap.size, 0, none⟩) x.length x.length, .int .i64 q, .slice (some ⟨w.heap.size + 1, 0, none⟩) y.length y.length] 55 (0, 0)
  rw [hz] at this
  exact this
 ·simp only [List.mem_cons, List.not_mem_nil, or_false] at he
  rcases he with rfl | rfl
  ·exact ⟨h1'.below hb3, Nat.le_refl _⟩
  ·exact ⟨h2.below hb3, Nat.le_refl _⟩
structure Lw (S : Tc) (w : World) (V : World) : Prop where
 ok : S.Ok V
 bel : Below w.heap.size w V
 gw : w.heap.size ≤ S.g
section
variable {S : Tc} {w V V' : World}
theorem Lw.go (h : Lw S w V) (hf : FldP V' (some ⟨S.g, 0, none⟩)) (hp : Past V.heap.size S.g V V') : Lw S w V' := ⟨h.ok.past hf hp, h.bel.trans ((hp.mono h.bel.size).below h.gw), h.gw⟩
theorem Lw.below (h : Lw S w V) (hb : Below V.heap.size V V') : Lw S w V' := h.go (h.ok.fld.below hb) (Past.of_below hb _)
theorem Lw.alloc (h : Lw S w V) (o : Obj) : Lw S w (V.alloc o) := h.below ((Below.refl _ _).alloc (Nat.le_refl _) o)
end
structure Lz (S : Tc) (w : World) (n k : Int) (V : World) : Prop where
 lw : Lw S w V
 en : (S.n : Int) = n
 ek : (S.k : Int) = k
theorem made (n k : Int) (w w1 : World) (hw1 : w1 = w.alloc (.cells (fcells 0 0 0) 80)) (hn1 : -9223372036854775808 ≤ n) (hn2 : n < 9223372036854775808) (hk1 : -9223372036854775808 ≤ k) (hk2 : k < 9223372036854775808) :
  Calls Tryz.prog 8 #[.pointer (some ⟨w.heap.size, 0, none⟩), .int .i64 n, .int .i64 k] w1 fun e w' =>
   (Good n k ∧ ∃ S : Tc, Lz S w n k w' ∧ S.g = w.heap.size ∧ e = .returned (.tuple #[.pointer (some ⟨S.b, 0, none⟩), .int .i64 0])) ∨ (¬ Good n k ∧ e = .returned (.tuple #[.pointer none, .int .i64 2]) ∧ Below w.heap.size w w') := by
 have hF1 : FldP w1 (some ⟨w.heap.size, 0, none⟩) := FldP.of (by rw [hw1]; exact Fld.new w)
 have hB1 : Below w.heap.size w w1 := by rw [hw1]; exact (Below.refl _ _).alloc (Nat.le_refl _) _
 by_cases hg : Good n k
 ·obtain ⟨h1, h2, h3⟩ := hg
  obtain ⟨N, rfl⟩ : ∃ N : Nat, n = (N : Int) := ⟨n.toNat, by omega⟩
  obtain ⟨K, rfl⟩ : ∃ K : Nat, k = (K : Int) := ⟨k.toNat, by omega⟩
  refine (new_good w.heap.size N K (by omega) (by omega) (by omega) w1 hF1).mono ?_
  rintro e w2 ⟨S, hok, hSg, hSn, hSk, -, rfl, hp2⟩
  exact .inl ⟨⟨h1, h2, h3⟩, S, ⟨⟨hok, hB1.trans (Past.below (hp2.mono hB1.size) (Nat.le_refl _)), by omega⟩, by omega, by omega⟩, hSg, rfl⟩
 ·refine (new_bad w.heap.size n k hn1 hn2 hk1 hk2 hg w1).mono ?_
  rintro e w2 ⟨rfl, rfl⟩
  exact .inr ⟨hg, rfl, hB1⟩
def fb (x : Nat) (h : x < 256 := by decide) : F8 := ⟨x, h⟩
instance (L : List (Nat × F8)) : Decidable (Cons L) := inferInstanceAs (Decidable (∀ x ∈ L, ∀ y ∈ L, x.1 = y.1 → x.2 = y.2))
instance (n s : Nat) (sh : List (Int × List F8)) : Decidable (ShOk n s sh) := inferInstanceAs (Decidable (_ ∧ _))
theorem ex_a : (List.range 3).map (shr 3 (word [1, 0, 0] (pts (rs 3 3)))) = [[1, 1], [1, 1], [1, 1]] := by decide +kernel
theorem ex_b : (List.range 3).map (shr 3 (word [0, 1, 0] (pts (rs 3 3)))) = [[1, fb 2], [1, fb 4], [fb 2, fb 4]] := by decide +kernel
theorem ex_m : TIs 3 2 (pts (rs 3 3)) [((1 : Int), [1, fb 4]), (2, [fb 2, fb 4])] [0, 1, 0] 0 :=
 .inr (.inr (.inl ⟨by decide +kernel, by decide, rfl, by decide, by decide +kernel⟩))
theorem ex_l : TIs 3 2 (pts (rs 3 3)) [((1 : Int), [1, fb 4]), (2, [fb 2, fb 5])] [] 80 :=
 tis_lost (pts_length _) (by decide +kernel) (by decide) (by decide +kernel)
theorem share_at {g : Nat} {V : World} {A : Option Addr} {l : List El} (h : Shs g V A l) {L : List (List F8)} (hl : l.map El.s = L) {i : Nat} (hi : i < L.length) : ∃ b o B c, A = some ⟨b, o, none⟩ ∧ V.cell? ⟨b, o + i, none⟩ = some (.slice B (L[i]).length c) ∧ BF g V B L[i] := by
 subst hl
 have hi' : i < l.length := by simpa using hi
 obtain ⟨b, o, e, hc⟩ := cells1_at h.row hi'
 have h2 := h.lst _ (List.getElem_mem hi')
 have e2 : (l.map El.s)[i] = (l[i]).s := by simp
 rw [e2]
 exact ⟨b, o, _, _, e, hc, h2.1⟩
end Go.Proofs.YtjoghbmedfmioabGreat.Tr
