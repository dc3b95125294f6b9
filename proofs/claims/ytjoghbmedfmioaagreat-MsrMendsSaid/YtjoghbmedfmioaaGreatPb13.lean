/- Of the program, joined: MatMul1, MatMul2, MatFind, MatRedMath, MatMul3. -/
import Derived.Test.YtjoghbmedfmioaaGreatPb12
import Derived.Deep.QuietTactic
import Derived.BigQuiet
namespace Go.Proofs.YtjoghbmedfmioaaGreat.Mat
open Go.RowKit Go.Shelf F8 Poly GF
attribute [local go_sem] Oper.semAt_some
def mc (gf : Nat) (met : Nat → Nat) (tab : Nat → Option Addr) (i : Nat) : Value :=
 if i = 0 then .pointer (some ⟨gf, 0, none⟩) else if i < 257 then .int .i64 (met (i - 1) : Nat) else .pointer (tab (i - 257))
def mcells (gf : Nat) (met : Nat → Nat) (tab : Nat → Option Addr) : Array Value := Array.ofFn (n := 513) fun i => mc gf met tab i
theorem mcells_get (gf : Nat) (met : Nat → Nat) (tab : Nat → Option Addr) (i : Nat) (hi : i < 513) : (mcells gf met tab)[i]? = some (mc gf met tab i) := by
 unfold mcells; rw [Array.getElem?_ofFn, dif_pos hi]
theorem mcells_set (gf : Nat) (met met' : Nat → Nat) (tab tab' : Nat → Option Addr) (j : Nat) (v : Value) (hv : ∀ i, i < 513 → mc gf met' tab' i = if i = j then v else mc gf met tab i) : (mcells gf met tab).setIfInBounds j v = mcells gf met' tab' := by
 apply Array.ext
 ·simp [mcells]
 ·intro i h1 h2
  have hi : i < 513 := by simpa [mcells] using h2
  rw [Array.getElem_setIfInBounds (by simpa [mcells] using hi)]
  simp only [mcells, Array.getElem_ofFn]
  rw [hv i hi]
  by_cases h : j = i
  ·rw [if_pos h, if_pos h.symm]
  ·rw [if_neg h, if_neg (fun e => h e.symm)]
def upd {α : Type} (f : Nat → α) (k : Nat) (x : α) (i : Nat) : α := if i = k then x else f i
theorem mcells_met (gf : Nat) (met : Nat → Nat) (tab : Nat → Option Addr) (k x : Nat) (hk : k < 256) : (mcells gf met tab).setIfInBounds (1 + k) (.int .i64 (x : Nat)) = mcells gf (upd met k x) tab :=
 mcells_set _ _ _ _ _ _ _ fun i _ => by
  unfold mc upd
  by_cases e : i = 1 + k
  ·rw [if_pos e, if_neg (by omega), if_pos (by omega), if_pos (by omega)]
  ·rw [if_neg e]
   by_cases e0 : i = 0
   ·rw [if_pos e0, if_pos e0]
   ·rw [if_neg e0, if_neg e0]
    by_cases e1 : i < 257
    ·rw [if_pos e1, if_pos e1, if_neg (by omega)]
    ·rw [if_neg e1, if_neg e1]
theorem mcells_tab (gf : Nat) (met : Nat → Nat) (tab : Nat → Option Addr) (k : Nat) (x : Option Addr) (hk : k < 256) : (mcells gf met tab).setIfInBounds (257 + k) (.pointer x) = mcells gf met (upd tab k x) :=
 mcells_set _ _ _ _ _ _ _ fun i _ => by
  unfold mc upd
  by_cases e : i = 257 + k
  ·rw [if_pos e, if_neg (by omega), if_neg (by omega), if_pos (by omega)]
  ·rw [if_neg e]
   by_cases e0 : i = 0
   ·rw [if_pos e0, if_pos e0]
   ·rw [if_neg e0, if_neg e0]
    by_cases e1 : i < 257
    ·rw [if_pos e1, if_pos e1]
    ·rw [if_neg e1, if_neg e1, if_neg (by omega)]
def tc (f k i : Nat) : Value := .int .u8 ((if i < k then gm i f else 0 : Nat) : Int)
def tcells (f k : Nat) : Array Value := Array.ofFn (n := 256) fun i => tc f k i
theorem tcells_get (f k i : Nat) (hi : i < 256) : (tcells f k)[i]? = some (tc f k i) := by unfold tcells; rw [Array.getElem?_ofFn, dif_pos hi]
theorem tcells_set (f k : Nat) : (tcells f k).setIfInBounds k (.int .u8 (gm k f : Nat)) = tcells f (k + 1) := by
 apply Array.ext
 ·simp [tcells]
 ·intro i h1 h2
  have hi : i < 256 := by simpa [tcells] using h2
  rw [Array.getElem_setIfInBounds (by simpa [tcells] using hi)]
  simp only [tcells, Array.getElem_ofFn]
  unfold tc
  by_cases h : k = i
  ·subst h; rw [if_pos rfl, if_pos (by omega)]
  ·rw [if_neg h]
   by_cases h2 : i < k
   ·rw [if_pos h2, if_pos (by omega)]
   ·rw [if_neg h2, if_neg (by omega)]
theorem zero_table (w : World) : (zeroValue 79).run Tryz.prog w = .ok (.agg (tcells 0 0)) w := by kernel_rfl
theorem tcells_zero (f : Nat) : tcells 0 0 = tcells f 0 := by
 unfold tcells tc; simp
structure MulSt (w : World) (qm gf : Nat) : Prop where
 ex : ∃ met tab, Block w qm 135 (mcells gf met tab) ∧ (∀ f, met f ≤ 1099511627776) ∧ ∀ f, tab f = none ∨ ∃ t, tab f = some ⟨t, 0, none⟩ ∧ Block w t 79 (tcells f 256)
theorem MulSt.lt {w : World} {qm gf : Nat} (h : MulSt w qm gf) : qm < w.heap.size := by obtain ⟨met, tab, h, _⟩ := h.ex; exact h.lt
theorem MulSt.keep {w w' : World} {qm gf : Nat} (h : MulSt w qm gf) (hk : ∀ (k : Nat) (t : TypeId) (cs : Array Value), w.heap[k]? = some (Obj.cells cs t (0, 0)) → t = 135 ∨ t = 79 → w'.heap[k]? = w.heap[k]?) : MulSt w' qm gf := by
 obtain ⟨met, tab, h1, h2, h3⟩ := h.ex
 refine ⟨met, tab, (hk _ _ _ h1 (.inl rfl)).trans h1, h2, fun f => ?_⟩
 rcases h3 f with h | ⟨t, h, hb⟩
 ·exact .inl h
 ·exact .inr ⟨t, h, (hk _ _ _ hb (.inr rfl)).trans hb⟩
theorem MulSt.below {w w' : World} {qm gf : Nat} (h : MulSt w qm gf) (hb : Below w.heap.size w w') : MulSt w' qm gf :=
 h.keep fun _ _ _ hk _ => hb.block _ (Array.getElem?_eq_some_iff.1 hk).1
theorem MulSt.turn {B : Nat} {w w' : World} {qm gf : Nat} (h : MulSt w qm gf) (t : Turn B w w') : MulSt w' qm gf :=
 h.keep fun _ _ _ hk _ => (t.cells _ _ _ _ hk).trans hk.symm
theorem MulSt.past {w w' : World} {qm gf g : Nat} (h : MulSt w qm gf) (hf : Fld w g) (hp : Past w.heap.size g w w') : MulSt w' qm gf :=
 h.keep fun _ t cs hk ht => hp.block _ (Array.getElem?_eq_some_iff.1 hk).1 (fun e => by
  subst e
  exact Fld.ne_block hf hk (by rcases ht with rfl | rfl <;> decide) rfl)
theorem MulSt.store {w : World} {qm gf g B n c : Nat} {xs : List Value} (h : MulSt w qm gf) (ho : Own w B 5 (.slice (some ⟨g, 0, none⟩) n c) xs) (k : Nat) (u : Value) : MulSt (w.setCell ⟨g, k, none⟩ u) qm gf :=
 h.keep fun _ t cs hk ht => Below.heap_setCell _ _ _ _ (fun e => by
  simp only at e
  subst e
  exact own_ne ho hk (by rcases ht with rfl | rfl <;> decide) rfl)
theorem MulSt.field {w : World} {qm gf : Nat} (h : MulSt w qm gf) : w.cell? ⟨qm, 0, none⟩ = some (.pointer (some ⟨gf, 0, none⟩)) := by
 obtain ⟨met, tab, h, _⟩ := h.ex
 rw [h.cell, mcells_get _ _ _ _ (by decide)]; rfl
theorem MulSt.ne_own {w : World} {qm gf g B n c : Nat} {xs : List Value} (h : MulSt w qm gf) (ho : Own w B 5 (.slice (some ⟨g, 0, none⟩) n c) xs) : qm ≠ g := by
 obtain ⟨met, tab, h, _⟩ := h.ex
 rintro rfl
 exact own_ne ho h (by decide) rfl
theorem MulSt.ne_fld {w : World} {qm gf g : Nat} (h : MulSt w qm gf) (hf : Fld w g) : qm ≠ g := by
 obtain ⟨met, tab, h, _⟩ := h.ex
 exact fun e => Fld.ne_block hf h (by decide) e.symm
theorem keeps_but {w w' : World} {S : Nat → Prop} {l : Nat} (h : But w.heap.size S w w') (hS : ∀ k o, S k → w.heap[k]? = some o → o.isCells = true) : KeepsFrom l w w' :=
 ⟨h.size, fun k o _ hk ho => by
  refine (h.block k (Array.getElem?_eq_some_iff.1 hk).1 ?_).trans hk
  intro hs
  rw [hS k o hs hk] at ho
  cases ho⟩
theorem block_isCells {w : World} {k : Nat} {t : TypeId} {cs : Array Value} {o : Obj} (h : Block w k t cs) (ho : w.heap[k]? = some o) : o.isCells = true := by
 unfold Block at h; rw [h] at ho; cases ho; rfl
theorem fld_isCells {w : World} {g : Nat} {o : Obj} (h : Fld w g) (ho : w.heap[g]? = some o) : o.isCells = true := by
 rcases h with h | h <;> exact block_isCells h ho
theorem own_isCells {w : World} {B g n c : Nat} {e : TypeId} {xs : List Value} {o : Obj} (h : Own w B e (.slice (some ⟨g, 0, none⟩) n c) xs) (ho : w.heap[g]? = some o) : o.isCells = true := by
 obtain ⟨cs, hc⟩ := block_of_own h
 rw [hc] at ho; cases ho; rfl
theorem mulst_isCells {w : World} {qm gf : Nat} {o : Obj} (h : MulSt w qm gf) (ho : w.heap[qm]? = some o) : o.isCells = true := by
 obtain ⟨met, tab, h, _⟩ := h.ex
 exact block_isCells h ho
def mulS (qm gf : Nat) (k : Nat) : Prop := k = qm ∨ k = gf
def TabRes (qm gf f : Nat) (w : World) (e : Ending) (w' : World) : Prop :=
 ∃ t, e = .returned (.pointer (some ⟨t, 0, none⟩)) ∧ Block w' t 79 (tcells f 256) ∧ MulSt w' qm gf ∧ Fld w' gf ∧ But w.heap.size (mulS qm gf) w w'
set_option maxRecDepth 100000 in
set_option maxHeartbeats 4000000 in
theorem table_calls (qm gf : Nat) (f : Nat) (hf8 : f < 256) (w : World) (hM : MulSt w qm gf) (hF : Fld w gf) :
  Calls Tryz.prog 108 #[.pointer (some ⟨qm, 0, none⟩), .int .u8 f] w (TabRes qm gf f w) := by
 have hne := hM.ne_fld hF
 have hlt := hM.lt
 have HM := Lib.hid hM
 obtain ⟨met, tab, hb, hmet, htab⟩ := hM.ex
 clear hM
 have hc : w.cell? ⟨qm, 257 + f, none⟩ = some (.pointer (tab f)) := by
  rw [hb.cell, mcells_get _ _ _ _ (by omega)]; unfold mc; rw [if_neg (by omega), if_neg (by omega), show 257 + f - 257 = f by omega]
 rcases htab f with ht | ⟨t, ht, htb⟩
 ·rw [ht] at hc
  have HF := Lib.hid hF
  have HB := Lib.hid hb
  have hz := zero_table
  have hmt := hmet
  have HTab := Lib.hid htab
  have HMet := Lib.hid hmet
  clear hF hb htab hmet hmt ht
  go_enter Tryz.func108, Tryz.ntmps108
  go_wp2
  go_loopw [15] (fun i wr => ∃ k : Nat, k ≤ 256 ∧ i = .int .i64 k ∧ Hid (Block wr w.heap.size 79 (tcells f k)) ∧ Hid (Fld wr gf) ∧ Hid (But w.heap.size (· = gf) w wr)) (fun i _ => 256 - (intOf i).toNat)
  case atStart => exact ⟨0, by omega, rfl, Lib.hid (by rw [← tcells_zero]; exact Block.new _ _ _), Lib.hid (HF.out.alloc _), Lib.hid (But.of_below ((Below.refl _ _).alloc (Nat.le_refl _) _))⟩
  case round =>
   obtain ⟨k, hk, rfl, HT, HFr, HU⟩ := hrel
   have hgf := HF.out.lt
   by_cases hkk : k < 256
   ·have hw8 : IntKind.u8.wrap (k : Int) = (k : Int) := IntWalk.u8_in _ (by omega)
    have hpf := (HU.out.cell ⟨qm, 0, none⟩ hlt hne).trans HM.out.field
    have htf := HT.out.frozen k
    have htc := (HT.out.cell k).trans (tcells_get f k k hkk)
    have hgs := HT.out.lt
    have htn : w.heap.size ≠ gf := by omega
    have hul := HU.out.size
    clear hc
    go_wp2_with fail
    go_region_with (go_at_call 71; refine (mul_calls (some ⟨gf, 0, none⟩) k f hkk hf8 _ (FldP.of (show Fld wr.drew gf from HFr.out))).mono ?_; rintro e w2 ⟨rfl, hF2, hP2⟩; have htf2 := (HT.out.drew.past hP2 hgs htn).frozen k; have htc2 := ((HT.out.drew.past hP2 hgs htn).cell k).trans (tcells_get f k k hkk); have HT2 := Lib.hid ((HT.out.drew.past hP2 hgs htn)); have HF2 := Lib.hid hF2.fld; have HP2 := Lib.hid hP2; clear hF2 hP2 htf htc)
    all_goals
     have HT3 : Hid (Block (w2.setCell ⟨w.heap.size, k, none⟩ (.int .u8 (gm k f : Nat))) w.heap.size 79 (tcells f (k + 1))) := Lib.hid (by rw [← tcells_set]; exact HT2.out.set_ k _)
     have HF3 : Hid (Fld (w2.setCell ⟨w.heap.size, k, none⟩ (.int .u8 (gm k f : Nat))) gf) := Lib.hid (HF2.out.imp (fun h => h.far (Ne.symm htn) _) (fun h => h.far (Ne.symm htn) _))
     have HU3 : Hid (But w.heap.size (· = gf) w (w2.setCell ⟨w.heap.size, k, none⟩ (.int .u8 (gm k f : Nat)))) := Lib.hid ((HU.out.drew.trans (But.of_past (HP2.out.mono hul) rfl)).setCell (p := ⟨w.heap.size, k, none⟩) (.inr (Nat.le_refl _)) _)
     clear htf2 htc2 hw8 hpf
     go_wp2
     go_roundw
     case rel => exact ⟨k + 1, by omega, by go_num, HT3, HF3, HU3⟩
     case measure => simp [intOf]; omega
   ·obtain rfl : k = 256 := by omega
    have hbg := HU.out.blk HB.out hlt hne
    have c1 := (hbg.cell (257 + f)).trans (mcells_get _ _ _ (257 + f) (by omega))
    have f1 := hbg.frozen (257 + f)
    have hbg2 := hbg.set_ (257 + f) (.pointer (some ⟨w.heap.size, 0, none⟩))
    rw [mcells_tab _ _ _ _ _ hf8] at hbg2
    have c2 := (hbg2.cell (257 + f)).trans (mcells_get _ _ _ (257 + f) (by omega))
    have e2 : mc gf met (upd tab f (some ⟨w.heap.size, 0, none⟩)) (257 + f) = .pointer (some ⟨w.heap.size, 0, none⟩) := by
     unfold mc upd; rw [if_neg (by omega), if_neg (by omega), if_pos (by omega)]
    rw [e2] at c2
    have HB2 := Lib.hid hbg2
    have hgne : w.heap.size ≠ qm := by omega
    have HT3 : Hid (Block (wr.setCell ⟨qm, 257 + f, none⟩ (.pointer (some ⟨w.heap.size, 0, none⟩))) w.heap.size 79 (tcells f 256)) := Lib.hid (HT.out.far (by simpa using hgne) _)
    have HF3 : Hid (Fld (wr.setCell ⟨qm, 257 + f, none⟩ (.pointer (some ⟨w.heap.size, 0, none⟩))) gf) := Lib.hid (HFr.out.imp (fun h => h.far (by simpa using Ne.symm hne) _) (fun h => h.far (by simpa using Ne.symm hne) _))
    have HU3 : Hid (But w.heap.size (mulS qm gf) w (wr.setCell ⟨qm, 257 + f, none⟩ (.pointer (some ⟨w.heap.size, 0, none⟩)))) := Lib.hid ((HU.out.mono (Nat.le_refl _) (fun k _ h => .inr h)).setCell (p := ⟨qm, 257 + f, none⟩) (.inl (.inl rfl)) _)
    clear hbg hbg2 e2
    go_wp2
    go_ret
    refine ⟨w.heap.size, rfl, HT3.out, ⟨met, _, HB2.out, HMet.out, fun q => ?_⟩, HF3.out, HU3.out⟩
    unfold upd
    by_cases e : q = f
    ·subst e
     exact .inr ⟨w.heap.size, if_pos rfl, HT3.out⟩
    ·rw [if_neg e]
     rcases HTab.out q with h | ⟨t, h, hb⟩
     ·exact .inl h
     ·refine .inr ⟨t, h, ?_⟩
      have h1 := HU.out.blk hb hb.lt (fun e => Fld.ne_block HF.out hb (by decide) e.symm)
      exact h1.far (by simpa using block_ne hb HB.out (by decide)) _
 ·rw [ht] at hc
  have hb2 := hb
  clear hmet htab ht
  go_enter Tryz.func108, Tryz.ntmps108
  go_wp2
  go_ret
  exact ⟨t, rfl, htb, HM.out, hF, But.refl _ _ _⟩
end Go.Proofs.YtjoghbmedfmioaaGreat.Mat

namespace Go.Proofs.YtjoghbmedfmioaaGreat.Mat
open Go.RowKit Go.Shelf F8 Poly GF
attribute [local go_sem] Oper.semAt_some
def SoFar (s t q : List F8) (off k : Nat) (c : F8) : Prop := t.length = s.length ∧ ∀ i, coef t i = coef s i + if off ≤ i ∧ i < off + k then c * coef q (i - off) else 0
theorem SoFar.start (s q : List F8) (off : Nat) (c : F8) : SoFar s s q off 0 c := ⟨rfl, fun i => by rw [if_neg (by omega), add_zero]⟩
theorem SoFar.at_ {s t q : List F8} {off k : Nat} {c : F8} (h : SoFar s t q off k c) : coef t (off + k) = coef s (off + k) := by rw [h.2, if_neg (by omega), add_zero]
theorem SoFar.step {s t q : List F8} {off k : Nat} {c : F8} (h : SoFar s t q off k c) (hk : off + k < s.length) : SoFar s (t.set (off + k) (coef t (off + k) + coef q k * c)) q off (k + 1) c := by
 refine ⟨by rw [List.length_set, h.1], fun i => ?_⟩
 rw [coef_set' t (off + k) _ (by rw [h.1]; exact hk) i]
 by_cases e : i = off + k
 ·subst e
  rw [if_pos rfl, if_pos (by omega), h.at_, show off + k - off = k by omega, mul_comm]
 ·rw [if_neg e, h.2]
  congr 1
  by_cases e2 : off ≤ i ∧ i < off + k
  ·rw [if_pos e2, if_pos (by omega)]
  ·rw [if_neg e2, if_neg (by omega)]
theorem SoFar.zero (s q : List F8) (off n : Nat) : SoFar s s q off n 0 := ⟨rfl, fun i => by rw [zero_mul]; split <;> rw [add_zero]⟩
theorem SoFar.out {s t q : List F8} {off k n : Nat} {c : F8} (h : SoFar s t q off k c) (hk : k ≤ n) (i : Nat) (hi : ¬ (off ≤ i ∧ i < off + n)) : coef t i = coef s i := by
 rw [h.2, if_neg (by omega), add_zero]
def addS (qm gf g1 : Nat) (k : Nat) : Prop := k = qm ∨ k = gf ∨ k = g1
def AddRes (Bo qm gf g1 M C off n : Nat) (s q : List F8) (c : F8) (w : World) (e : Ending) (w' : World) : Prop :=
 e = .returned (.tuple #[]) ∧ (∃ t, SoFar s t q off n c ∧ Own w' Bo 5 (.slice (some ⟨g1, 0, none⟩) M C) (bv (bs t))) ∧ Fld w' gf ∧ MulSt w' qm gf ∧ But w.heap.size (addS qm gf g1) w w'
set_option maxRecDepth 100000 in
set_option maxHeartbeats 4000000 in
theorem addTimes_few (Bo qm gf g1 M C off ls cs n d : Nat) (A1 B : Option Addr) (s q : List F8) (c : F8) (w : World) (hf : Fld w gf) (hM : MulSt w qm gf) (hS : Own w Bo 5 (.slice (some ⟨g1, 0, none⟩) M C) (bv (bs s))) (hsl : s.length = M) (hl : q.length = n) (hA : 0 < n → A1 = some ⟨g1, off, none⟩)
  (hoff : off + n ≤ M) (hls : n ≤ ls) (hn : n ≤ 1000000000)
  (hread : ∀ (W : World) (t : List F8), But w.heap.size (addS qm gf g1) w W → Own W Bo 5 (.slice (some ⟨g1, 0, none⟩) M C) (bv (bs t)) → t.length = M → (∀ i, ¬ (off ≤ i ∧ i < off + n) → coef t i = coef s i) → Bytes W B (bs q))
  (met : Nat → Nat) (tab : Nat → Option Addr) (hb : Block w qm 135 (mcells gf met tab)) (hmet : ∀ f, met f ≤ 1099511627776) (htab : ∀ f, tab f = none ∨ ∃ t, tab f = some ⟨t, 0, none⟩ ∧ Block w t 79 (tcells f 256)) (hc0 : c ≠ 0) (hm : met c.n < 256) :
  Calls Tryz.prog 73 #[.pointer (some ⟨qm, 0, none⟩), .slice A1 ls cs, .slice B n d, .int .u8 c.n] w (AddRes Bo qm gf g1 M C off n s q c w) := by
 have hx0 : ((c.n : Int) == 0) = false := n_beq0 hc0
 have hnq := hM.ne_fld hf
 have hng := hM.ne_own hS
 have hgf := Fld.ne_own hf (by decide) hS
 have hbk := Own.blk hS
 have hcn := c.h
 have c1 : w.cell? ⟨qm, 1 + c.n, none⟩ = some (.int .i64 (met c.n : Nat)) := by
  rw [hb.cell, mcells_get _ _ _ _ (by omega)]; unfold mc; rw [if_neg (by omega), if_pos (by omega), show 1 + c.n - 1 = c.n by omega]
 have f1 := hb.frozen (1 + c.n)
 obtain ⟨m, hmm⟩ : ∃ m, met c.n = m := ⟨_, rfl⟩
 rw [hmm] at c1 hm
 have hb2 := hb.set_ (1 + c.n) (.int .i64 ((m + n : Nat) : Int))
 rw [mcells_met _ _ _ _ _ hcn, show ((m + n : Nat) : Int) = (m : Int) + (n : Int) by omega] at hb2
 obtain ⟨wm, hwm⟩ : ∃ wm, (w.setCell ⟨qm, 1 + c.n, none⟩ (.int .i64 ((m : Int) + (n : Int)))).drew = wm := ⟨_, rfl⟩
 have HM2 : Hid (MulSt wm qm gf) := Lib.hid (by rw [← hwm]; refine ⟨_, _, hb2.drew, fun f => by unfold upd; split; omega; exact hmet f, fun f => ?_⟩; exact (by
  rcases htab f with h | ⟨t, h, ht⟩
  ·exact .inl h
  ·exact .inr ⟨t, h, (ht.far (by simpa using block_ne ht hb (by decide)) _).drew⟩))
 have HL := Lib.hid hl
 have HSL := Lib.hid hsl
 have HRd := Lib.hid hread
 have HA := Lib.hid hA
 have HF2 : Hid (Fld wm gf) := Lib.hid (by rw [← hwm]; exact hf.imp (fun h => (h.far (by simpa using Ne.symm hnq) _).drew) (fun h => (h.far (by simpa using Ne.symm hnq) _).drew))
 have HS2 : Hid (Own wm Bo 5 (.slice (some ⟨g1, 0, none⟩) M C) (bv (bs s))) := Lib.hid (by rw [← hwm]; exact (hS.far (by simp [Value.ownBlock]; omega) _).drew)
 have HU2 : Hid (But w.heap.size (addS qm gf g1) w wm) := Lib.hid (by rw [← hwm]; exact ((But.refl _ _ w).setCell (p := ⟨qm, 1 + c.n, none⟩) (.inl (.inl rfl)) _).drew)
 have HW := Lib.hid hwm
 have hmd : decide ((m : Int) < 256) = true := by simp; omega
 clear hl hsl hread hA hf hS hM hb hmet htab hb2 hmm hwm
 go_enter Tryz.func73, Tryz.ntmps73
 go_wp2
 go_region
 rw [HW.out]
 go_wp2
 go_loopw [36] (fun i wr => ∃ (k : Nat) (t : List F8), k ≤ n ∧ i = .int .i64 k ∧ Hid (SoFar s t q off k c) ∧ Hid (Own wr Bo 5 (.slice (some ⟨g1, 0, none⟩) M C) (bv (bs t))) ∧ Hid (Fld wr gf) ∧ Hid (MulSt wr qm gf) ∧ Hid (But w.heap.size (addS qm gf g1) w wr)) (fun i _ => n - (intOf i).toNat)
 case atStart => exact ⟨0, s, by omega, rfl, Lib.hid (SoFar.start s q off c), HS2, HF2, HM2, HU2⟩
 case round =>
  clear HS2 HF2 HM2 HU2 HW f1 c1
  obtain ⟨k, t, hk, rfl, HT, HSr, HFr, HMr, HU⟩ := hrel
  by_cases hkk : k < n
  ·have htM : t.length = M := by rw [HT.out.1, HSL.out]
   have HTM := Lib.hid htM
   have hbq := HRd.out wr t HU.out HSr.out htM (fun i hi => HT.out.out hk i hi)
   obtain ⟨b, o, rfl⟩ := where_ hbq (by have := HL.out; omega)
   have hcell := cellAt hbq k (by have := HL.out; omega)
   obtain ⟨x, hx⟩ : ∃ x, coef q k = x := ⟨_, rfl⟩
   obtain ⟨y, hy⟩ : ∃ y, coef t (off + k) = y := ⟨_, rfl⟩
   have hc2 := own_cell HSr.out htM (k := off + k) (by omega)
   have hgl := (Own.blk HSr.out).2
   have hpf := HMr.out.field
   have HT2 : Hid (SoFar s (t.set (off + k) (y + x * c)) q off (k + 1) c) := Lib.hid (by rw [← hx, ← hy]; exact HT.out.step (by have := HSL.out; omega))
   rw [hx] at hcell
   rw [hy] at hc2
   have hkl : k < ls := by omega
   obtain rfl : A1 = some ⟨g1, off, none⟩ := HA.out (by omega)
   have hgz := HU.out.size
   clear hx hy hbq htM
   go_wp2_with fail
   go_region_with (first
    | (go_at_call 71; refine (mul_f gf x c _ (show Fld wr.drew gf from HFr.out)).mono ?_; rintro e w2 ⟨rfl, hF2, hP2⟩; have hc3 := (past_cell hP2 ⟨g1, off + k, none⟩ hgl (by simp; omega)).trans (show wr.drew.cell? ⟨g1, off + k, none⟩ = _ from hc2); have HS2 := Lib.hid (own_keep (w' := w2) (HSr.out.drew) (by decide) (show Fld wr.drew gf from HFr.out) hP2); have hf3 := own_frozen HS2.out HTM.out (off + k); have HM2 := Lib.hid (MulSt.past (show MulSt wr.drew qm gf from HMr.out.turn (Turn.drewN (Turn.refl 0 wr) 1)) (show Fld wr.drew gf from HFr.out) hP2); have HF2 := Lib.hid hF2; have HP2 := Lib.hid hP2; clear hF2 hP2)
    | (go_at_call 19; refine (add_still y (x * c) _).mono ?_; rintro e w3 ⟨rfl, rfl⟩))
   all_goals
    have HS3 : Hid (Own (w3.setCell ⟨g1, off + k, none⟩ (.int .u8 ((y + x * c).n : Int))) Bo 5 (.slice (some ⟨g1, 0, none⟩) M C) (bv (bs (t.set (off + k) (y + x * c))))) := Lib.hid (own_set HS2.out HTM.out)
    have HF3 : Hid (Fld (w3.setCell ⟨g1, off + k, none⟩ (.int .u8 ((y + x * c).n : Int))) gf) := Lib.hid (HF2.out.imp (fun h => h.far hgf _) (fun h => h.far hgf _))
    have HM3 : Hid (MulSt (w3.setCell ⟨g1, off + k, none⟩ (.int .u8 ((y + x * c).n : Int))) qm gf) := Lib.hid (HM2.out.store HS2.out (off + k) _)
    have HU3 : Hid (But w.heap.size (addS qm gf g1) w (w3.setCell ⟨g1, off + k, none⟩ (.int .u8 ((y + x * c).n : Int)))) := Lib.hid ((HU.out.drew.trans (But.of_past (HP2.out.mono hgz) (.inr (.inl rfl)))).setCell (p := ⟨g1, off + k, none⟩) (.inl (.inr (.inr rfl))) _)
    clear HA hc3 hf3 hc2 hcell hpf
    go_wp2
    go_roundw
    case rel => exact ⟨k + 1, _, by omega, by go_num, HT2, HS3, HF3, HM3, HU3⟩
    case measure => simp [intOf]; omega
  ·obtain rfl : k = n := by omega
   go_wp2
   go_end0
   exact ⟨rfl, ⟨t, HT.out, HSr.out⟩, HFr.out, HMr.out, HU.out⟩
end Go.Proofs.YtjoghbmedfmioaaGreat.Mat

namespace Go.Proofs.YtjoghbmedfmioaaGreat.Mat
open Go.RowKit Go.Shelf F8 Poly GF
def marks (l : List Nat) : List Deferred := l.map fun D => { target := .collected D, args := #[] }
structure MarksOk (B : Nat) (l : List Nat) (w : World) : Prop where
 nd : l.Nodup
 ok : ∀ D, D ∈ l → B ≤ D ∧ w.heap[D]? = some (.deferred (some []))
theorem MarksOk.nil (B : Nat) (w : World) : MarksOk B [] w := ⟨List.nodup_nil, by simp⟩
theorem MarksOk.keeps {B : Nat} {l : List Nat} {w w' : World} (h : MarksOk B l w) (k : KeepsFrom 0 w w') : MarksOk B l w' :=
 ⟨h.nd, fun D hD => ⟨(h.ok D hD).1, k.same _ _ (Nat.zero_le _) (h.ok D hD).2 rfl⟩⟩
theorem MarksOk.lt {B D : Nat} {l : List Nat} {w : World} (h : MarksOk B l w) (hD : D ∈ l) : D < w.heap.size := (Array.getElem?_eq_some_iff.1 (h.ok D hD).2).1
theorem MarksOk.turn {B B' : Nat} {l : List Nat} {w w' : World} (h : MarksOk B l w) (t : Turn B' w w') (hl : ∀ D, D ∈ l → D < B') : MarksOk B l w' :=
 ⟨h.nd, fun D hD => ⟨(h.ok D hD).1, (t.below.block D (hl D hD)).trans (h.ok D hD).2⟩⟩
theorem MarksOk.cons {B D : Nat} {l : List Nat} {w : World} (h : MarksOk B l w) (hD : w.heap[D]? = some (.deferred (some []))) (hB : B ≤ D) (hn : D ∉ l) : MarksOk B (D :: l) w :=
 ⟨List.nodup_cons.2 ⟨hn, h.nd⟩, fun E hE => by
  rcases List.mem_cons.1 hE with rfl | hE
  ·exact ⟨hB, hD⟩
  ·exact h.ok E hE⟩
theorem leaves_marks {P : Program} {F : Fence} {n : Nat} {fn : Func} {tmps : Array Value} {R : Ending → World → Prop} {B : Nat} : ∀ (l : List Nat) (w : World), MarksOk B l w → (∀ w', Turn B w w' → LeavesIn F n P fn tmps R [] .returning w') → LeavesInM F n P fn tmps R (marks l) .returning w
 | [], w, _, h => h w (Turn.refl _ _)
 | D :: l, w, hm, h => by
  have hD := hm.ok D (by simp)
  refine ⟨by simp, .inl ⟨D, _, rfl, run_takeDeferred hD.2, ?_⟩⟩
  have ht : Turn B w (w.putObj D (.deferred none)) := Turn.put hD.2 rfl hD.1 _
  refine leaves_marks l _ ⟨(List.nodup_cons.1 hm.nd).2, fun E hE => ⟨(hm.ok E (List.mem_cons_of_mem _ hE)).1, ?_⟩⟩ (fun w' t => h w' (ht.trans t))
  exact (World.putObj_heap_other (by rintro rfl; exact (List.nodup_cons.1 hm.nd).1 hE)).trans (hm.ok E (List.mem_cons_of_mem _ hE)).2
end Go.Proofs.YtjoghbmedfmioaaGreat.Mat
namespace Go.Proofs.YtjoghbmedfmioaaGreat.Mat
open Go.RowKit Go.Shelf F8 Poly GF
attribute [local go_sem] Oper.semAt_some
def DivTo (s t : List F8) (off k : Nat) (c : F8) : Prop := t.length = s.length ∧ ∀ i, coef t i = if off ≤ i ∧ i < off + k then coef s i / c else coef s i
theorem DivTo.start (s : List F8) (off : Nat) (c : F8) : DivTo s s off 0 c := ⟨rfl, fun i => by rw [if_neg (by omega)]⟩
theorem DivTo.at_ {s t : List F8} {off k : Nat} {c : F8} (h : DivTo s t off k c) : coef t (off + k) = coef s (off + k) := by rw [h.2, if_neg (by omega)]
theorem DivTo.step {s t : List F8} {off k : Nat} {c : F8} (h : DivTo s t off k c) (hk : off + k < s.length) : DivTo s (t.set (off + k) (coef t (off + k) / c)) off (k + 1) c := by
 refine ⟨by rw [List.length_set, h.1], fun i => ?_⟩
 rw [coef_set' t (off + k) _ (by rw [h.1]; exact hk) i]
 by_cases e : i = off + k
 ·subst e
  rw [if_pos rfl, if_pos (by omega), h.at_]
 ·rw [if_neg e, h.2]
  by_cases e2 : off ≤ i ∧ i < off + k
  ·rw [if_pos e2, if_pos (by omega)]
  ·rw [if_neg e2, if_neg (by omega)]
def DivRes (Bo gf g1 M C off n : Nat) (s : List F8) (c : F8) (w : World) (e : Ending) (w' : World) : Prop :=
 e = .returned (.tuple #[]) ∧ (∃ t, DivTo s t off n c ∧ Own w' Bo 5 (.slice (some ⟨g1, 0, none⟩) M C) (bv (bs t))) ∧ Fld w' gf ∧ But w.heap.size (fun k => k = gf ∨ k = g1) w w'
set_option maxRecDepth 100000 in
set_option maxHeartbeats 4000000 in
theorem divide_calls (Bo gf g1 M C off cs n : Nat) (A1 : Option Addr) (s : List F8) (c : F8) (hc0 : c ≠ 0) (w : World) (hf : Fld w gf) (hS : Own w Bo 5 (.slice (some ⟨g1, 0, none⟩) M C) (bv (bs s))) (hsl : s.length = M) (hA : 0 < n → A1 = some ⟨g1, off, none⟩)
  (hoff : off + n ≤ M) (hn : n ≤ 1000000000) :
  Calls Tryz.prog 190 #[.pointer (some ⟨gf, 0, none⟩), .slice A1 n cs, .int .u8 c.n] w (DivRes Bo gf g1 M C off n s c w) := by
 have hgf := Fld.ne_own hf (by decide) hS
 have HSL := Lib.hid hsl
 have HA := Lib.hid hA
 have HF := Lib.hid hf
 have HS := Lib.hid hS
 clear hsl hA hf hS
 go_enter Tryz.func190, Tryz.ntmps190
 go_wp2
 go_loopw [10] (fun i wr => ∃ (k : Nat) (t : List F8), k ≤ n ∧ i = .int .i64 k ∧ Hid (DivTo s t off k c) ∧ Hid (Own wr Bo 5 (.slice (some ⟨g1, 0, none⟩) M C) (bv (bs t))) ∧ Hid (Fld wr gf) ∧ Hid (But w.heap.size (fun k => k = gf ∨ k = g1) w wr)) (fun i _ => n - (intOf i).toNat)
 case atStart => exact ⟨0, s, by omega, rfl, Lib.hid (DivTo.start s off c), HS, HF, Lib.hid (But.refl _ _ _)⟩
 case round =>
  clear HS HF
  obtain ⟨k, t, hk, rfl, HT, HSr, HFr, HU⟩ := hrel
  by_cases hkk : k < n
  ·have htM : t.length = M := by rw [HT.out.1, HSL.out]
   have HTM := Lib.hid htM
   obtain ⟨y, hy⟩ : ∃ y, coef t (off + k) = y := ⟨_, rfl⟩
   have hc2 := own_cell HSr.out htM (k := off + k) (by omega)
   have hgl := (Own.blk HSr.out).2
   have HT2 : Hid (DivTo s (t.set (off + k) (y / c)) off (k + 1) c) := Lib.hid (by rw [← hy]; exact HT.out.step (by have := HSL.out; omega))
   rw [hy] at hc2
   obtain rfl : A1 = some ⟨g1, off, none⟩ := HA.out (by omega)
   have hgz := HU.out.size
   clear hy htM
   go_wp2_with (go_at_call 60; refine (div_f gf y c hc0 _ HFr.out).mono ?_; rintro e w2 ⟨rfl, hF2, hP2⟩; have hc3 := (past_cell hP2 ⟨g1, off + k, none⟩ hgl (by simp; omega)).trans hc2; have HS2 := Lib.hid (own_keep (w' := w2) HSr.out (by decide) HFr.out hP2); have hf3 := own_frozen HS2.out HTM.out (off + k); have HF2 := Lib.hid hF2; have HP2 := Lib.hid hP2; clear hF2 hP2)
   have HS3 : Hid (Own (w2.setCell ⟨g1, off + k, none⟩ (.int .u8 ((y / c).n : Int))) Bo 5 (.slice (some ⟨g1, 0, none⟩) M C) (bv (bs (t.set (off + k) (y / c))))) := Lib.hid (own_set HS2.out HTM.out)
   have HF3 : Hid (Fld (w2.setCell ⟨g1, off + k, none⟩ (.int .u8 ((y / c).n : Int))) gf) := Lib.hid (HF2.out.imp (fun h => h.far hgf _) (fun h => h.far hgf _))
   have HU3 : Hid (But w.heap.size (fun k => k = gf ∨ k = g1) w (w2.setCell ⟨g1, off + k, none⟩ (.int .u8 ((y / c).n : Int)))) := Lib.hid ((HU.out.trans (But.of_past (HP2.out.mono hgz) (.inl rfl))).setCell (p := ⟨g1, off + k, none⟩) (.inl (.inr rfl)) _)
   clear HA hc3 hf3 hc2
   go_roundw
   case rel => exact ⟨k + 1, _, by omega, by go_num, HT2, HS3, HF3, HU3⟩
   case measure => simp [intOf]; omega
  ·obtain rfl : k = n := by omega
   go_wp2
   go_end0
   exact ⟨rfl, ⟨t, HT.out, HSr.out⟩, HFr.out, HU.out⟩
def noughtB (s : List F8) : Bool := s.all (· == 0)
theorem noughtB_iff {s : List F8} : noughtB s = true ↔ ∀ i, coef s i = 0 := by
 unfold noughtB
 rw [List.all_eq_true]
 constructor
 ·intro h i
  rcases Nat.lt_or_ge i s.length with hi | hi
  ·rw [coef_of_lt hi]; exact beq_iff_eq.1 (h _ (List.getElem_mem hi))
  ·exact coef_of_le hi
 ·intro h x hx
  obtain ⟨i, hi, rfl⟩ := List.getElem_of_mem hx
  rw [← coef_of_lt hi, h i]; rfl
set_option maxHeartbeats 1000000 in
theorem isNought_calls (R C : Int) (A : Option Addr) (n cap : Nat) (s : List F8) (hl : s.length = n) (hn : n ≤ 1000000000000) (w : World) (hb : Bytes w A (bs s)) :
  Calls Tryz.prog 180 #[.agg #[.int .i64 R, .int .i64 C, .slice A n cap]] w fun e w' => e = .returned (.bool (noughtB s)) ∧ Below w.heap.size w w' := by
 have HL := Lib.hid hl
 have HB := Lib.hid (hb.alloc (.cells #[.int .i64 R, .int .i64 C, .slice A n cap] 62))
 clear hl hb
 go_enter Tryz.func180, Tryz.ntmps180
 go_wp2
 go_loop [8] (fun i => ∃ k : Nat, k ≤ n ∧ i = .int .i64 k ∧ Hid (∀ i, i < k → coef s i = 0)) (fun i => n - (intOf i).toNat)
 case atStart => exact ⟨0, by omega, rfl, Lib.hid (fun i hi => by omega)⟩
 case round =>
  obtain ⟨k, hk, rfl, HZ⟩ := hrel
  by_cases hkk : k < n
  ·obtain ⟨b, o, rfl⟩ := where_ HB.out (by have := HL.out; omega)
   have hcell := cellAt HB.out k (by have := HL.out; omega)
   by_cases hx : coef s k = 0
   ·have hx0 : (((coef s k).n : Int) == 0) = true := by rw [hx]; rfl
    have hx1 : (((coef s k).n : Int) != 0) = false := by rw [hx]; rfl
    have HZ2 : Hid (∀ i, i < k + 1 → coef s i = 0) := Lib.hid (fun i hi => by
     rcases Nat.lt_or_ge i k with h | h
     ·exact HZ.out i h
     ·obtain rfl : i = k := by omega
      exact hx)
    clear hx
    go_wp2
    go_round
    case rel => exact ⟨k + 1, by omega, by go_num, HZ2⟩
    case measure => simp [intOf]; omega
   ·have hx0 : (((coef s k).n : Int) == 0) = false := n_beq0 hx
    have hx1 : (((coef s k).n : Int) != 0) = true := by simp [bne, hx0]
    have HN : Hid (noughtB s = false) := Lib.hid (Bool.eq_false_iff.2 fun h => hx (noughtB_iff.1 h k))
    clear hx
    go_wp2
    go_ret
    exact ⟨by rw [HN.out]; rfl, (Below.refl _ _).alloc (Nat.le_refl _) _⟩
  ·obtain rfl : k = n := by omega
   have HN : Hid (noughtB s = true) := Lib.hid (noughtB_iff.2 fun i => by
    rcases Nat.lt_or_ge i k with h | h
    ·exact HZ.out i h
    ·exact coef_of_le (by have := HL.out; omega))
   go_wp2
   go_ret
   exact ⟨by rw [HN.out]; rfl, (Below.refl _ _).alloc (Nat.le_refl _) _⟩
end Go.Proofs.YtjoghbmedfmioaaGreat.Mat
namespace Go.Proofs.YtjoghbmedfmioaaGreat.Mat
open Go.RowKit Go.Shelf F8 Poly GF
attribute [local go_sem] Oper.semAt_some
def FoundAt (s : List F8) (c col na : Nat) (pos : Nat → Nat) (v : Int) : Prop :=
 (∃ k : Nat, v = (k : Int) ∧ k < na ∧ ent s c (pos k) col ≠ 0 ∧ ∀ i, i < k → ent s c (pos i) col = 0) ∨ (v = -1 ∧ ∀ i, i < na → ent s c (pos i) col = 0)
def FindRes (s : List F8) (c col na : Nat) (pos : Nat → Nat) (w : World) (e : Ending) (w' : World) : Prop := ∃ v, e = .returned (.int .i64 v) ∧ FoundAt s c col na pos v ∧ Below w.heap.size w w'
set_option maxRecDepth 100000 in
set_option maxHeartbeats 4000000 in
theorem find_calls (R : Int) (c N cap col na ca : Nat) (A Aat : Option Addr) (s : List F8) (ats : List Nat) (pos : Nat → Nat) (hna : ats.length = na) (hna2 : na ≤ 65536) (hpos : ∀ k, k < na → ats[k]? = some (pos k)) (hc : c ≤ 1000000) (hcol : col < c) (hN : N ≤ 140737488355328) (hcap : N ≤ cap) (hin : ∀ k, k < na → (pos k + 1) * c ≤ N ∧ pos k ≤ 65536)
  (w : World) (hl : s.length = N) (hb : Bytes w A (bs s)) (hr : Row w Aat (iv ats)) :
  Calls Tryz.prog 189 #[.agg #[.int .i64 R, .int .i64 c, .slice A N cap], .int .i64 col, .slice Aat na ca] w (FindRes s c col na pos w) := by
 have HB := Lib.hid hb
 have HL := Lib.hid hl
 have HRow := Lib.hid hr
 have HNa := Lib.hid hna
 have HPos := Lib.hid hpos
 have HIn := Lib.hid hin
 clear hb hl hr hna hpos hin
 refine (callsIn_wide (n := 9)).1 (callsIn_of_wp_marks Tryz.func189 rfl trivial ?_ rfl)
 simp only [Tryz.ntmps189, List.size_toArray, List.length_cons, List.length_nil, Nat.reduceAdd, Nat.reduceSub, Array.replicate_succ, Array.replicate_zero, List.push_toArray, List.append_toArray, List.nil_append, List.cons_append]
 refine wpIn_wide.2 ?_
 go_wp2_with fail
 obtain ⟨wa, hwa⟩ : ∃ wa, (((w.alloc (.cells #[.int .i64 R, .int .i64 c, .slice A N cap] 62)).alloc (.cells #[.int .i64 col] 3)).alloc (.cells #[.int .i64 0] 3)).alloc (.cells #[.int .i64 0] 3) = wa := ⟨_, rfl⟩
 have hba : Block wa w.heap.size 62 #[.int .i64 R, .int .i64 c, .slice A N cap] := by rw [← hwa]; exact (((Block.new _ _ _).alloc _).alloc _).alloc _
 have hbc : Block wa (w.heap.size + 1) 3 #[.int .i64 col] := by
  rw [← hwa]
  have := Block.new (w.alloc (.cells #[.int .i64 R, .int .i64 c, .slice A N cap] 62)) 3 #[.int .i64 col]
  rw [World.size_alloc] at this
  exact (this.alloc _).alloc _
 have hbr : Block wa (w.heap.size + 2) 3 #[.int .i64 0] := by
  rw [← hwa]
  have := Block.new ((w.alloc (.cells #[.int .i64 R, .int .i64 c, .slice A N cap] 62)).alloc (.cells #[.int .i64 col] 3)) 3 #[.int .i64 0]
  rw [World.size_alloc, World.size_alloc] at this
  exact this.alloc _
 have hbn : Block wa (w.heap.size + 3) 3 #[.int .i64 0] := by
  rw [← hwa]
  have := Block.new (((w.alloc (.cells #[.int .i64 R, .int .i64 c, .slice A N cap] 62)).alloc (.cells #[.int .i64 col] 3)).alloc (.cells #[.int .i64 0] 3)) 3 #[.int .i64 0]
  rwa [World.size_alloc, World.size_alloc, World.size_alloc] at this
 have hBa : Below w.heap.size w wa := by rw [← hwa]; exact ((((Below.refl _ w).alloc (Nat.le_refl _) _).alloc (by simp) _).alloc (by simp; omega) _).alloc (by simp; omega) _
 have hsa : wa.heap.size = w.heap.size + 4 := by rw [← hwa]; simp
 rw [hwa]
 refine (rows_any R c N cap na ca A Aat ats _ (HRow.out.below hBa)).mono ?_
 rintro e W0 ⟨Bat, Bm, rfl, a1, a2, hV, hB0⟩
 have hs0 := hB0.size
 have hbc0 := hbc.below hB0 hbc.lt
 have hbr0 := hbr.below hB0 hbr.lt
 have hbn0 := hbn.below hB0 hbn.lt
 have hBw := hBa.trans (hB0.mono (by omega))
 have halt : ∀ a, Aat = some a → 0 < na → a.block < w.heap.size := fun a ha h0 => by
  subst ha
  obtain ⟨b, off, e, hc⟩ := intAt HRow.out 0 (by rw [HNa.out]; exact h0)
  cases e
  exact cell_lt hc
 clear hwa hba hbc hbr hbn hBa hB0
 go_wp2_with fail
 refine wpIn_wide.1 (wpIn_rows (n := 9) (by omega) (Bat := Bat) (Bm := Bm) (na := na) (ca := ca) (c := c) (N := N) (cap := cap) (Aat := Aat) (A := A) (ats := ats) (R := R) pos HNa.out (by omega) HPos.out hN hcap hc HIn.out rfl
  (fun k W => Vis W Bat Bm Aat na ca ats R c A N cap ∧ Block W (w.heap.size + 1) 3 #[.int .i64 col] ∧ Block W (w.heap.size + 2) 3 #[.int .i64 0] ∧ Block W (w.heap.size + 3) 3 #[.int .i64 k] ∧ Below w.heap.size w W ∧ ∀ i, i < k → ent s c (pos i) col = 0)
  (fun j W => j = .ret ∧ ∃ k : Nat, Block W (w.heap.size + 2) 3 #[.int .i64 k] ∧ Below w.heap.size w W ∧ k < na ∧ ent s c (pos k) col ≠ 0 ∧ ∀ i, i < k → ent s c (pos i) col = 0)
  (fun k W W' ⟨h1, h2, h3, h4, h5, h6⟩ t => ⟨h1.turn t, t.block h2, t.block h3, t.block h4, h5.trans (t.below.mono (by omega)), h6⟩)
  (fun j W W' ⟨h1, k, h2, h3, h4⟩ t => ⟨h1, k, t.block h2, h3.trans (t.below.mono (by omega)), h4⟩)
  (fun k W h => h.1)
  ⟨hV, hbc0, hbr0, hbn0, hBw, fun i hi => by omega⟩
  ?a1 ?assign ?body ?done ?stop)
 case assign =>
  intro l k W K hk hK
  gi_wp2
  exact hK
 case body =>
  rintro l k W hk ⟨k1, k2, k3, k4, k5, k6⟩ hsz
  have hp := (HIn.out k hk).1
  have hx : pos k * c + col < s.length := by rw [HL.out]; rw [Nat.succ_mul] at hp; omega
  have hbw := HB.out.below k5
  obtain ⟨b, o, hA⟩ := where_ hbw (by omega)
  subst hA
  have hcell := cellAt hbw _ hx
  have hc2 := k2.cell 0
  have hc3 := k3.cell 0
  have hf3 := k3.frozen 0
  have hc4 := k4.cell 0
  have hf4 := k4.frozen 0
  rw [rowA_some _ _ _ _ (by omega)]
  have hy : coef s (pos k * c + col) = ent s c (pos k) col := rfl
  rw [hy, ← Nat.add_assoc] at hcell
  clear hy hx hbw
  by_cases h0 : ent s c (pos k) col = 0
  ·have HZ := Lib.hid h0
   rw [h0] at hcell
   have hx0 : (((0 : F8).n : Int) == 0) = true := rfl
   have hx1 : (((0 : F8).n : Int) != 0) = false := rfl
   obtain ⟨x, hx⟩ : ∃ x, pos k * c = x := ⟨_, rfl⟩
   rw [hx] at hcell ⊢
   clear hx h0 hp
   gi_wp2
   refine ⟨(KeepsOthers.setCell _ _ _).from _, k1.keep (fun q hq e => Below.heap_setCell _ _ _ _ ?_), k2.far (by simp) _, k3.far (by simp) _, ?_, k5.setCell (p := ⟨w.heap.size + 3, 0, none⟩) (by simp) _, fun i hi => ?_⟩
   ·simp
    rcases e with rfl | rfl | ⟨a, ha, rfl⟩
    ·omega
    ·omega
    ·have := halt a ha (by omega); omega
   ·have := k4.set_ 0 (.int .i64 ((k + 1 : Nat) : Int))
    simpa using this
   ·rcases Nat.lt_or_ge i k with h | h
    ·exact k6 i h
    ·obtain rfl : i = k := by omega
     exact HZ.out
  ·have HZ := Lib.hid h0
   obtain ⟨y, hy⟩ : ∃ y, ent s c (pos k) col = y := ⟨_, rfl⟩
   rw [hy] at hcell h0
   have hx0 : ((y.n : Int) == 0) = false := n_beq0 h0
   have hx1 : ((y.n : Int) != 0) = true := by simp [bne, hx0]
   obtain ⟨x, hx⟩ : ∃ x, pos k * c = x := ⟨_, rfl⟩
   rw [hx] at hcell ⊢
   clear hx hy h0 hp
   gi_wp2
   exact ⟨(KeepsOthers.setCell _ _ _).from _, rfl, k, k3.set_ 0 _, k5.setCell (p := ⟨w.heap.size + 2, 0, none⟩) (by simp) _, hk, HZ.out, k6⟩
 case done =>
  rintro W ⟨k1, k2, k3, k4, k5, k6⟩ hD
  have hc3 := k3.cell 0
  have hf3 := k3.frozen 0
  go_wp2
  have hK := (KeepsOthers.setCell W ⟨w.heap.size + 2, 0, none⟩ (.int .i64 (-1))).same _ _ hD rfl
  refine ⟨by simp, .inl ⟨_, _, rfl, run_takeDeferred hK, ?_⟩⟩
  have ht : Turn w.heap.size (W.setCell ⟨w.heap.size + 2, 0, none⟩ (.int .i64 (-1))) _ := Turn.put hK rfl (by omega) (.deferred none)
  have hc6 := ht.cell ((k3.set_ 0 (.int .i64 (-1))).cell 0)
  refine ⟨.int .i64 (-1), ?_, -1, rfl, .inr ⟨rfl, k6⟩, (k5.setCell (p := ⟨w.heap.size + 2, 0, none⟩) (by simp) _).trans ht.below⟩
  simp [results, Tryz.results189, go_sem, hc6]
 case stop =>
  rintro j W ⟨rfl, k, k1, k2, k3, k4, k5⟩ hD
  refine wpIn_wide.2 ?_
  go_wp2
  refine ⟨by simp, .inl ⟨_, _, rfl, run_takeDeferred hD, ?_⟩⟩
  have ht : Turn w.heap.size W _ := Turn.put hD rfl (by omega) (.deferred none)
  have hc6 := ht.cell (k1.cell 0)
  refine ⟨.int .i64 k, ?_, k, rfl, .inl ⟨k, rfl, k3, k4, k5⟩, k2.trans ht.below⟩
  simp [results, Tryz.results189, go_sem, hc6]
end Go.Proofs.YtjoghbmedfmioaaGreat.Mat

namespace Go.Proofs.YtjoghbmedfmioaaGreat.Mat
open F8 Poly
def redT (t : List F8) (C l col : Nat) (D : Nat → Prop) [DecidablePred D] (i x : Nat) : F8 := if i ≠ l ∧ D i ∧ col ≤ x then ent t C i x + ent t C i col * ent t C l x else ent t C i x
def Seen (ord : List Nat) (j i : Nat) : Prop := i ∈ ord.take j
instance (ord : List Nat) (j : Nat) : DecidablePred (Seen ord j) := fun i => inferInstanceAs (Decidable (i ∈ ord.take j))
theorem seen_zero (ord : List Nat) (i : Nat) : ¬ Seen ord 0 i := by unfold Seen; simp
theorem seen_succ {ord : List Nat} {j l : Nat} (h : ord[j]? = some l) (i : Nat) : Seen ord (j + 1) i ↔ Seen ord j i ∨ i = l := by
 unfold Seen
 rw [List.take_add_one, h]
 simp
theorem seen_all {ord : List Nat} {r i : Nat} (hl : ord.length = r) (hs : ∃ t, t < r ∧ ord.getD t 0 = i) : Seen ord r i := by
 obtain ⟨t, ht, rfl⟩ := hs
 unfold Seen
 rw [List.take_of_length_le (by omega), List.getD_eq_getElem?_getD, List.getElem?_eq_getElem (by omega)]
 exact List.getElem_mem _
theorem not_seen {ord : List Nat} {j l : Nat} (hl : ord[j]? = some l) (hinj : ∀ a b, a < ord.length → b < ord.length → ord.getD a 0 = ord.getD b 0 → a = b) : ¬ Seen ord j l := by
 unfold Seen
 intro hm
 obtain ⟨a, ha, e⟩ := List.getElem_of_mem hm
 rw [List.length_take] at ha
 rw [List.getElem_take] at e
 have hj : j < ord.length := (List.getElem?_eq_some_iff.1 hl).1
 have := hinj a j (by omega) hj (by
  rw [List.getD_eq_getElem?_getD, List.getD_eq_getElem?_getD, hl, List.getElem?_eq_getElem (by omega), e])
 omega
theorem redT_start {r C l col : Nat} {t : List F8} {ord : List Nat} (h : t.length = r * C) : IsM r C t (redT t C l col (Seen ord 0)) :=
 ⟨h, fun i x _ _ => by unfold redT; rw [if_neg (fun h => seen_zero ord i h.2.1)]⟩
theorem redT_same {r C l col j : Nat} {t u : List F8} {ord : List Nat} (h : IsM r C u (redT t C l col (Seen ord j))) (hl : ord[j]? = some l) : IsM r C u (redT t C l col (Seen ord (j + 1))) :=
 h.congr fun i x _ _ => by
  unfold redT
  by_cases e : i = l
  ·rw [if_neg (fun h => h.1 e), if_neg (fun h => h.1 e)]
  ·have hs := seen_succ hl i
   by_cases e2 : Seen ord j i ∧ col ≤ x
   ·rw [if_pos ⟨e, e2⟩, if_pos ⟨e, hs.2 (.inl e2.1), e2.2⟩]
   ·rw [if_neg (fun h => e2 h.2), if_neg (fun h => e2 ⟨(hs.1 h.2.1).resolve_right e, h.2.2⟩)]
def leadL (t : List F8) (C l col : Nat) : List F8 := (rowL t C l).drop col
theorem leadL_length {t : List F8} {C l col : Nat} (h : (l + 1) * C ≤ t.length) : (leadL t C l col).length = C - col := by unfold leadL; rw [List.length_drop, rowL_length h]
theorem coef_leadL {t : List F8} {C l col x : Nat} (hx : col + x < C) : coef (leadL t C l col) x = ent t C l (col + x) := by
 rw [← coef_rowL hx]
 unfold leadL coef
 rw [List.getD_eq_getElem?_getD, List.getD_eq_getElem?_getD, List.getElem?_drop]
theorem redT_step {r C l i col j : Nat} {t u u' : List F8} {ord : List Nat} (h : IsM r C u (redT t C l col (Seen ord j))) (hi : ord[j]? = some i) (hil : i ≠ l) (hns : ¬ Seen ord j i) (hcol : col < C)
  (h2 : SoFar u u' (leadL t C l col) (i * C + col) (C - col) (ent t C i col)) : IsM r C u' (redT t C l col (Seen ord (j + 1))) := by
 refine ⟨by rw [h2.1, h.len], fun a x ha hx => ?_⟩
 have e : ent u' C a x = ent u C a x + if i * C + col ≤ a * C + x ∧ a * C + x < i * C + col + (C - col) then ent t C i col * coef (leadL t C l col) (a * C + x - (i * C + col)) else 0 := h2.2 _
 rw [e, h.ent a x ha hx]
 have hs := seen_succ hi a
 by_cases e1 : a = i
 ·subst e1
  have L1 : redT t C l col (Seen ord j) a x = ent t C a x := by unfold redT; rw [if_neg (fun h => hns h.2.1)]
  rw [L1]
  by_cases e2 : col ≤ x
  ·have L2 : redT t C l col (Seen ord (j + 1)) a x = ent t C a x + ent t C a col * ent t C l x := by unfold redT; rw [if_pos ⟨hil, hs.2 (.inr rfl), e2⟩]
   rw [L2, if_pos ⟨by omega, by omega⟩, show a * C + x - (a * C + col) = x - col by omega, coef_leadL (by omega), show col + (x - col) = x by omega]
  ·have L2 : redT t C l col (Seen ord (j + 1)) a x = ent t C a x := by unfold redT; rw [if_neg (fun h => e2 h.2.2)]
   rw [L2, if_neg (fun h => by omega), add_zero]
 ·have hne : ¬ (i * C + col ≤ a * C + x ∧ a * C + x < i * C + col + (C - col)) := fun h => e1 ((idx_row hx).1 ⟨by omega, by omega⟩)
  rw [if_neg hne, add_zero]
  unfold redT
  by_cases e2 : a ≠ l ∧ Seen ord j a ∧ col ≤ x
  ·rw [if_pos e2, if_pos ⟨e2.1, hs.2 (.inl e2.2.1), e2.2.2⟩]
  ·rw [if_neg e2, if_neg (fun h => e2 ⟨h.1, (hs.1 h.2.1).resolve_right e1, h.2.2⟩)]
theorem div_ent {C l col : Nat} {t t1 : List F8} {v : F8} (hcol : col < C) (hd : DivTo t t1 (l * C + col) (C - col) v) (i x : Nat) (hx : x < C) : ent t1 C i x = if i = l ∧ col ≤ x then ent t C i x / v else ent t C i x := by
 have e : ent t1 C i x = if l * C + col ≤ i * C + x ∧ i * C + x < l * C + col + (C - col) then ent t C i x / v else ent t C i x := hd.2 _
 rw [e]
 by_cases e1 : i = l
 ·subst e1
  by_cases e2 : col ≤ x
  ·rw [if_pos ⟨by omega, by omega⟩, if_pos ⟨rfl, e2⟩]
  ·rw [if_neg (by omega), if_neg (fun h => e2 h.2)]
 ·rw [if_neg (fun h => e1 ((idx_row hx).1 ⟨by omega, by omega⟩)), if_neg (fun h => e1 h.1)]
theorem red_step {r C col p : Nat} {M0 : Nat → Nat → F8} {t t1 u : List F8} {ord ord' bg : List Nat} {v : F8} (h : Red r C M0 (ent t C) (fun i => ord.getD i 0) bg col) (hcC : col < C) (hp1 : bg.length ≤ p) (hp : p < r) (hv : ent t C (ord.getD p 0) col = v) (hv0 : v ≠ 0)
  (hord : ord'.length = r) (ho : ∀ i, i < r → ord'.getD i 0 = swp (fun i => ord.getD i 0) bg.length p i) (hd : DivTo t t1 (ord.getD p 0 * C + col) (C - col) v) (hu : IsM r C u (redT t1 C (ord.getD p 0) col (Seen ord' r))) :
  Red r C M0 (ent u C) (fun i => ord'.getD i 0) (bg ++ [col]) (col + 1) := by
 have hk : bg.length < r := by omega
 have hlt : ord.getD p 0 < r := h.lt p hp
 have hsur : ∀ i, i < r → Seen ord' r i := fun i hi => by
  obtain ⟨q, hq, e⟩ := swp_sur h.sur hk hp i hi
  exact seen_all hord ⟨q, hq, by rw [ho q hq]; exact e⟩
 have hlz : ∀ x, x < col → ent t C (ord.getD p 0) x = 0 := fun x hx => h.rest p x hp1 hp hx
 have hl1 : ∀ x, x < C → ent t1 C (ord.getD p 0) x = ent t C (ord.getD p 0) x / v := fun x hx => by
  rw [div_ent hcC hd _ x hx]
  by_cases e : col ≤ x
  ·rw [if_pos ⟨rfl, e⟩]
  ·rw [if_neg (fun h => e h.2), hlz x (by omega), zero_div]
 have hu1 : ∀ x, x < C → ent u C (ord.getD p 0) x = ent t1 C (ord.getD p 0) x := fun x hx => by
  rw [hu.ent _ x hlt hx]; unfold redT; rw [if_neg (fun h => h.1 rfl)]
 have hR := h.pivot (M' := ent u C) hcC hp1 hp hv hv0 (fun x hx => by rw [hu1 x hx]; exact hl1 x hx) (fun i x hi hx hn => by
  have hn' : i ≠ ord.getD p 0 := hn
  have e1 : ∀ x, x < C → ent t1 C i x = ent t C i x := fun x hx => by rw [div_ent hcC hd i x hx, if_neg (fun h => hn' h.1)]
  show ent u C i x = ent t C i x + ent t C i col * ent u C (ord.getD p 0) x
  rw [hu.ent i x hi hx, hu1 x hx]
  unfold redT
  by_cases e : col ≤ x
  ·rw [if_pos ⟨hn', hsur i hi, e⟩, e1 x hx, e1 col hcC]
  ·rw [if_neg (fun h => e h.2.2), e1 x hx, hl1 x hx, hlz x (by omega), zero_div, mul_zero, add_zero])
 refine ⟨hR.ker, fun q hq => by rw [ho q hq]; exact hR.lt q hq, fun a b ha hb e => hR.inj a b ha hb (by rw [ho a ha, ho b hb] at e; exact e), fun i hi => ?_, hR.le, hR.up, hR.in_, fun q w hw hq => by rw [ho q hq]; exact hR.one q w hw hq, fun q x h1 h2 h3 => by rw [ho q h2]; exact hR.rest q x h1 h2 h3, fun q hq x hx => by rw [ho q (by have := hR.le; omega)]; exact hR.left q hq x hx⟩
 obtain ⟨q, hq, e⟩ := hR.sur i hi
 exact ⟨q, hq, by rw [ho q hq]; exact e⟩
theorem swp_list {ord : List Nat} {k p r : Nat} (hl : ord.length = r) (hk : k < r) (hp : p < r) (i : Nat) : ((ord.set k (ord.getD p 0)).set p (ord.getD k 0)).getD i 0 = swp (fun i => ord.getD i 0) k p i := by
 unfold swp
 simp only [List.getD_eq_getElem?_getD, List.getElem?_set, List.length_set]
 by_cases e : i = p
 ·subst e
  rw [if_pos rfl, if_pos (by omega)]
  by_cases e2 : i = k
  ·subst e2; rw [if_pos rfl]; rfl
  ·rw [if_neg e2, if_pos rfl]; rfl
 ·rw [if_neg (fun h => e h.symm)]
  by_cases e2 : i = k
  ·subst e2; rw [if_pos rfl, if_pos (by omega), if_pos rfl]; rfl
  ·rw [if_neg (fun h => e2 h.symm), if_neg e2, if_neg e]
end Go.Proofs.YtjoghbmedfmioaaGreat.Mat

namespace Go.Proofs.YtjoghbmedfmioaaGreat.Mat
open Go.RowKit Go.Shelf F8 Poly GF
attribute [local go_sem] Oper.semAt_some
set_option maxRecDepth 100000 in
set_option maxHeartbeats 4000000 in
theorem addTimes_many (Bo qm gf g1 M C off ls cs n d : Nat) (A1 B : Option Addr) (s q : List F8) (c : F8) (w : World) (hf : Fld w gf) (hM : MulSt w qm gf) (hS : Own w Bo 5 (.slice (some ⟨g1, 0, none⟩) M C) (bv (bs s))) (hsl : s.length = M) (hl : q.length = n) (hA : 0 < n → A1 = some ⟨g1, off, none⟩)
  (hoff : off + n ≤ M) (hls : n ≤ ls) (hn : n ≤ 1000000000)
  (hread : ∀ (W : World) (t : List F8), But w.heap.size (addS qm gf g1) w W → Own W Bo 5 (.slice (some ⟨g1, 0, none⟩) M C) (bv (bs t)) → t.length = M → (∀ i, ¬ (off ≤ i ∧ i < off + n) → coef t i = coef s i) → Bytes W B (bs q))
  (met : Nat → Nat) (tab : Nat → Option Addr) (hb : Block w qm 135 (mcells gf met tab)) (hc0 : c ≠ 0) (hm : 256 ≤ met c.n) :
  Calls Tryz.prog 73 #[.pointer (some ⟨qm, 0, none⟩), .slice A1 ls cs, .slice B n d, .int .u8 c.n] w (AddRes Bo qm gf g1 M C off n s q c w) := by
 have hx0 : ((c.n : Int) == 0) = false := n_beq0 hc0
 have hnq := hM.ne_fld hf
 have hng := hM.ne_own hS
 have hgf := Fld.ne_own hf (by decide) hS
 have hbk := Own.blk hS
 have hcn := c.h
 have c1 : w.cell? ⟨qm, 1 + c.n, none⟩ = some (.int .i64 (met c.n : Nat)) := by
  rw [hb.cell, mcells_get _ _ _ _ (by omega)]; unfold mc; rw [if_neg (by omega), if_pos (by omega), show 1 + c.n - 1 = c.n by omega]
 obtain ⟨m, hmm⟩ : ∃ m, met c.n = m := ⟨_, rfl⟩
 rw [hmm] at c1 hm
 have hmd : decide ((m : Int) < 256) = false := by simp; omega
 have HL := Lib.hid hl
 have HSL := Lib.hid hsl
 have HRd := Lib.hid hread
 have HA := Lib.hid hA
 have HF := Lib.hid hf
 have HM := Lib.hid hM
 have HS := Lib.hid hS
 clear hl hsl hread hA hf hS hM hb hmm
 go_enter Tryz.func73, Tryz.ntmps73
 go_wp2_with fail
 refine (table_calls qm gf c.n hcn w HM.out HF.out).mono ?_
 rintro e w1 ⟨t, rfl, hT, hM1, hF1, hU1⟩
 have hgt : t ≠ g1 := fun e => by
  subst e
  exact own_ne (But.own hU1 HS.out (fun b hb => by simp [Value.ownBlock] at hb; subst hb; rintro (rfl | rfl); exact hng rfl; exact hgf rfl)) hT (by decide) rfl
 have htf : gf ≠ t := Fld.ne_block hF1 hT (by decide)
 have HS1 : Hid (Own w1 Bo 5 (.slice (some ⟨g1, 0, none⟩) M C) (bv (bs s))) := Lib.hid (But.own hU1 HS.out (fun b hb => by simp [Value.ownBlock] at hb; subst hb; rintro (rfl | rfl); exact hng rfl; exact hgf rfl))
 have HU1 : Hid (But w.heap.size (addS qm gf g1) w w1) := Lib.hid (hU1.mono (Nat.le_refl _) (fun k _ h => h.imp id .inl))
 have HT1 := Lib.hid hT
 have HM1 := Lib.hid hM1
 have HF1 := Lib.hid hF1
 clear hT hM1 hF1 hU1 HM HF HS c1
 go_wp2
 go_loopw [62] (fun i wr => ∃ (k : Nat) (u : List F8), k ≤ n ∧ i = .int .i64 k ∧ Hid (SoFar s u q off k c) ∧ Hid (Own wr Bo 5 (.slice (some ⟨g1, 0, none⟩) M C) (bv (bs u))) ∧ Hid (Fld wr gf) ∧ Hid (MulSt wr qm gf) ∧ Hid (Block wr t 79 (tcells c.n 256)) ∧ Hid (But w.heap.size (addS qm gf g1) w wr)) (fun i _ => n - (intOf i).toNat)
 case atStart => exact ⟨0, s, by omega, rfl, Lib.hid (SoFar.start s q off c), HS1, HF1, HM1, HT1, HU1⟩
 case round =>
  clear HS1 HF1 HM1 HU1 HT1
  obtain ⟨k, u, hk, rfl, HT, HSr, HFr, HMr, HTr, HU⟩ := hrel
  by_cases hkk : k < n
  ·have htM : u.length = M := by rw [HT.out.1, HSL.out]
   have HTM := Lib.hid htM
   have hbq := HRd.out wr u HU.out HSr.out htM (fun i hi => HT.out.out hk i hi)
   obtain ⟨b, o, rfl⟩ := where_ hbq (by have := HL.out; omega)
   have hcell := cellAt hbq k (by have := HL.out; omega)
   obtain ⟨x, hx⟩ : ∃ x, coef q k = x := ⟨_, rfl⟩
   obtain ⟨y, hy⟩ : ∃ y, coef u (off + k) = y := ⟨_, rfl⟩
   have hc2 := own_cell HSr.out htM (k := off + k) (by omega)
   have hf2 := own_frozen HSr.out htM (off + k)
   have hgl := (Own.blk HSr.out).2
   have hxh := x.h
   have htc : wr.cell? ⟨t, x.n, none⟩ = some (.int .u8 ((x * c).n : Int)) := by
    rw [HTr.out.cell, tcells_get _ _ _ hxh]; unfold tc; rw [if_pos hxh]; rfl
   have HT2 : Hid (SoFar s (u.set (off + k) (y + x * c)) q off (k + 1) c) := Lib.hid (by rw [← hx, ← hy]; exact HT.out.step (by have := HSL.out; omega))
   rw [hx] at hcell
   rw [hy] at hc2
   have hkl : k < ls := by omega
   obtain rfl : A1 = some ⟨g1, off, none⟩ := HA.out (by omega)
   have hgz := HU.out.size
   clear hx hy hbq htM
   go_wp2_with fail
   go_region_with (go_at_call 19; refine (add_still y (x * c) _).mono ?_; rintro e w3 ⟨rfl, rfl⟩)
   all_goals
    have HS3 : Hid (Own (wr.setCell ⟨g1, off + k, none⟩ (.int .u8 ((y + x * c).n : Int))).drew Bo 5 (.slice (some ⟨g1, 0, none⟩) M C) (bv (bs (u.set (off + k) (y + x * c))))) := Lib.hid (own_set HSr.out HTM.out).drew
    have HF3 : Hid (Fld (wr.setCell ⟨g1, off + k, none⟩ (.int .u8 ((y + x * c).n : Int))).drew gf) := Lib.hid (HFr.out.imp (fun h => (h.far hgf _).drew) (fun h => (h.far hgf _).drew))
    have HM3 : Hid (MulSt (wr.setCell ⟨g1, off + k, none⟩ (.int .u8 ((y + x * c).n : Int))).drew qm gf) := Lib.hid ((HMr.out.store HSr.out (off + k) _).turn (Turn.drewN (Turn.refl 0 _) 1))
    have HT3 : Hid (Block (wr.setCell ⟨g1, off + k, none⟩ (.int .u8 ((y + x * c).n : Int))).drew t 79 (tcells c.n 256)) := Lib.hid (HTr.out.far hgt _).drew
    have HU3 : Hid (But w.heap.size (addS qm gf g1) w (wr.setCell ⟨g1, off + k, none⟩ (.int .u8 ((y + x * c).n : Int))).drew) := Lib.hid (HU.out.setCell (p := ⟨g1, off + k, none⟩) (.inl (.inr (.inr rfl))) _).drew
    clear HA hf2 hc2 hcell htc
    go_wp2
    go_roundw
    case rel => exact ⟨k + 1, _, by omega, by go_num, HT2, HS3, HF3, HM3, HT3, HU3⟩
    case measure => simp [intOf]; omega
  ·obtain rfl : k = n := by omega
   go_wp2
   go_end0
   exact ⟨rfl, ⟨u, HT.out, HSr.out⟩, HFr.out, HMr.out, HU.out⟩
theorem addTimes_calls (Bo qm gf g1 M C off ls cs n d : Nat) (A1 B : Option Addr) (s q : List F8) (c : F8) (w : World) (hf : Fld w gf) (hM : MulSt w qm gf) (hS : Own w Bo 5 (.slice (some ⟨g1, 0, none⟩) M C) (bv (bs s))) (hsl : s.length = M) (hl : q.length = n) (hA : 0 < n → A1 = some ⟨g1, off, none⟩)
  (hoff : off + n ≤ M) (hls : n ≤ ls) (hn : n ≤ 1000000000)
  (hread : ∀ (W : World) (t : List F8), But w.heap.size (addS qm gf g1) w W → Own W Bo 5 (.slice (some ⟨g1, 0, none⟩) M C) (bv (bs t)) → t.length = M → (∀ i, ¬ (off ≤ i ∧ i < off + n) → coef t i = coef s i) → Bytes W B (bs q)) :
  Calls Tryz.prog 73 #[.pointer (some ⟨qm, 0, none⟩), .slice A1 ls cs, .slice B n d, .int .u8 c.n] w (AddRes Bo qm gf g1 M C off n s q c w) := by
 by_cases hc0 : c = 0
 ·have hx0 : ((c.n : Int) == 0) = true := by rw [hc0]; rfl
  have HF := Lib.hid hf
  have HM := Lib.hid hM
  have HS := Lib.hid hS
  have HC := Lib.hid hc0
  clear hf hM hS hc0 hread hA hsl hl
  go_enter Tryz.func73, Tryz.ntmps73
  go_wp2
  refine bodyPost_ret (results_none rfl _ _ _) rfl ?_
  exact ⟨rfl, ⟨s, by rw [HC.out]; exact SoFar.zero s q off n, HS.out⟩, HF.out, HM.out, But.refl _ _ _⟩
 ·obtain ⟨met, tab, hb, hmet, htab⟩ := hM.ex
  rcases Nat.lt_or_ge (met c.n) 256 with hm | hm
  ·exact addTimes_few Bo qm gf g1 M C off ls cs n d A1 B s q c w hf hM hS hsl hl hA hoff hls hn hread met tab hb hmet htab hc0 hm
  ·exact addTimes_many Bo qm gf g1 M C off ls cs n d A1 B s q c w hf hM hS hsl hl hA hoff hls hn hread met tab hb hc0 hm
end Go.Proofs.YtjoghbmedfmioaaGreat.Mat
