/- What the program's multiplier does: a table of products, a row times a factor added to another. -/
import Derived.Test.YtjpbdbgihakpmaaMatCode2
namespace Go.Proofs.Ytjpbdbgihakpmaa.Mat
open Go.RowKit Go.Shelf F8 Poly GF
attribute [local go_sem] Oper.semAt_some

/-- A multiplier's cells: its field, how many elements it met, its tables. -/
def mc (gf : Nat) (met : Nat → Nat) (tab : Nat → Option Addr) (i : Nat) : Value :=
  if i = 0 then .pointer (some ⟨gf, 0, none⟩) else if i < 257 then .int .i64 (met (i - 1) : Nat) else .pointer (tab (i - 257))
def mcells (gf : Nat) (met : Nat → Nat) (tab : Nat → Option Addr) : Array Value := Array.ofFn (n := 513) fun i => mc gf met tab i
theorem mcells_get (gf : Nat) (met : Nat → Nat) (tab : Nat → Option Addr) (i : Nat) (hi : i < 513) : (mcells gf met tab)[i]? = some (mc gf met tab i) := by
  unfold mcells; rw [Array.getElem?_ofFn, dif_pos hi]
theorem mcells_set (gf : Nat) (met met' : Nat → Nat) (tab tab' : Nat → Option Addr) (j : Nat) (v : Value) (hv : ∀ i, i < 513 → mc gf met' tab' i = if i = j then v else mc gf met tab i) : (mcells gf met tab).setIfInBounds j v = mcells gf met' tab' := by
  apply Array.ext
  · simp [mcells]
  · intro i h1 h2
    have hi : i < 513 := by simpa [mcells] using h2
    rw [Array.getElem_setIfInBounds (by simpa [mcells] using hi)]
    simp only [mcells, Array.getElem_ofFn]
    rw [hv i hi]
    by_cases h : j = i
    · rw [if_pos h, if_pos h.symm]
    · rw [if_neg h, if_neg (fun e => h e.symm)]
def upd {α : Type} (f : Nat → α) (k : Nat) (x : α) (i : Nat) : α := if i = k then x else f i
theorem mcells_met (gf : Nat) (met : Nat → Nat) (tab : Nat → Option Addr) (k x : Nat) (hk : k < 256) : (mcells gf met tab).setIfInBounds (1 + k) (.int .i64 (x : Nat)) = mcells gf (upd met k x) tab :=
  mcells_set _ _ _ _ _ _ _ fun i _ => by
    unfold mc upd
    by_cases e : i = 1 + k
    · rw [if_pos e, if_neg (by omega), if_pos (by omega), if_pos (by omega)]
    · rw [if_neg e]
      by_cases e0 : i = 0
      · rw [if_pos e0, if_pos e0]
      · rw [if_neg e0, if_neg e0]
        by_cases e1 : i < 257
        · rw [if_pos e1, if_pos e1, if_neg (by omega)]
        · rw [if_neg e1, if_neg e1]
theorem mcells_tab (gf : Nat) (met : Nat → Nat) (tab : Nat → Option Addr) (k : Nat) (x : Option Addr) (hk : k < 256) : (mcells gf met tab).setIfInBounds (257 + k) (.pointer x) = mcells gf met (upd tab k x) :=
  mcells_set _ _ _ _ _ _ _ fun i _ => by
    unfold mc upd
    by_cases e : i = 257 + k
    · rw [if_pos e, if_neg (by omega), if_neg (by omega), if_pos (by omega)]
    · rw [if_neg e]
      by_cases e0 : i = 0
      · rw [if_pos e0, if_pos e0]
      · rw [if_neg e0, if_neg e0]
        by_cases e1 : i < 257
        · rw [if_pos e1, if_pos e1]
        · rw [if_neg e1, if_neg e1, if_neg (by omega)]
/-- The products of a factor, the first k of them. -/
def tc (f k i : Nat) : Value := .int .u8 ((if i < k then gm i f else 0 : Nat) : Int)
def tcells (f k : Nat) : Array Value := Array.ofFn (n := 256) fun i => tc f k i
theorem tcells_get (f k i : Nat) (hi : i < 256) : (tcells f k)[i]? = some (tc f k i) := by unfold tcells; rw [Array.getElem?_ofFn, dif_pos hi]
theorem tcells_set (f k : Nat) : (tcells f k).setIfInBounds k (.int .u8 (gm k f : Nat)) = tcells f (k + 1) := by
  apply Array.ext
  · simp [tcells]
  · intro i h1 h2
    have hi : i < 256 := by simpa [tcells] using h2
    rw [Array.getElem_setIfInBounds (by simpa [tcells] using hi)]
    simp only [tcells, Array.getElem_ofFn]
    unfold tc
    by_cases h : k = i
    · subst h; rw [if_pos rfl, if_pos (by omega)]
    · rw [if_neg h]
      by_cases h2 : i < k
      · rw [if_pos h2, if_pos (by omega)]
      · rw [if_neg h2, if_neg (by omega)]
theorem zero_table (w : World) : (zeroValue 111).run Try.prog w = .ok (.agg (tcells 0 0)) w := by kernel_rfl
theorem tcells_zero (f : Nat) : tcells 0 0 = tcells f 0 := by
  unfold tcells tc; simp

/-- A multiplier at qm, over the field at gf. -/
structure MulSt (w : World) (qm gf : Nat) : Prop where
  ex : ∃ met tab, Block w qm 140 (mcells gf met tab) ∧ (∀ f, met f ≤ 1099511627776) ∧ ∀ f, tab f = none ∨ ∃ t, tab f = some ⟨t, 0, none⟩ ∧ Block w t 111 (tcells f 256)
theorem MulSt.lt {w : World} {qm gf : Nat} (h : MulSt w qm gf) : qm < w.heap.size := by obtain ⟨met, tab, h, _⟩ := h.ex; exact h.lt
theorem MulSt.keep {w w' : World} {qm gf : Nat} (h : MulSt w qm gf) (hk : ∀ (k : Nat) (t : TypeId) (cs : Array Value), w.heap[k]? = some (Obj.cells cs t (0, 0)) → t = 140 ∨ t = 111 → w'.heap[k]? = w.heap[k]?) : MulSt w' qm gf := by
  obtain ⟨met, tab, h1, h2, h3⟩ := h.ex
  refine ⟨met, tab, (hk _ _ _ h1 (.inl rfl)).trans h1, h2, fun f => ?_⟩
  rcases h3 f with h | ⟨t, h, hb⟩
  · exact .inl h
  · exact .inr ⟨t, h, (hk _ _ _ hb (.inr rfl)).trans hb⟩
theorem MulSt.below {w w' : World} {qm gf : Nat} (h : MulSt w qm gf) (hb : Below w.heap.size w w') : MulSt w' qm gf :=
  h.keep fun _ _ _ hk _ => hb.block _ (Array.getElem?_eq_some_iff.1 hk).1
theorem MulSt.turn {B : Nat} {w w' : World} {qm gf : Nat} (h : MulSt w qm gf) (t : Turn B w w') : MulSt w' qm gf :=
  h.keep fun _ _ _ hk _ => (t.cells _ _ _ _ hk).trans hk.symm
/-- .. over what turns a field. -/
theorem MulSt.past {w w' : World} {qm gf g : Nat} (h : MulSt w qm gf) (hf : Fld w g) (hp : Past w.heap.size g w w') : MulSt w' qm gf :=
  h.keep fun _ t cs hk ht => hp.block _ (Array.getElem?_eq_some_iff.1 hk).1 (fun e => by
    subst e
    exact Fld.ne_block hf hk (by rcases ht with rfl | rfl <;> decide) rfl)
/-- .. over a store into a row of bytes of one's own. -/
theorem MulSt.store {w : World} {qm gf g B n c : Nat} {xs : List Value} (h : MulSt w qm gf) (ho : Own w B 5 (.slice (some ⟨g, 0, none⟩) n c) xs) (k : Nat) (u : Value) : MulSt (w.setCell ⟨g, k, none⟩ u) qm gf :=
  h.keep fun _ t cs hk ht => Below.heap_setCell _ _ _ _ (fun e => by
    simp only at e
    subst e
    exact own_ne ho hk (by rcases ht with rfl | rfl <;> decide) rfl)
theorem MulSt.field {w : World} {qm gf : Nat} (h : MulSt w qm gf) : w.cell? ⟨qm, 0, none⟩ = some (.pointer (some ⟨gf, 0, none⟩)) := by
  obtain ⟨met, tab, h, _⟩ := h.ex
  rw [h.cell, mcells_get _ _ _ _ (by decide)]; rfl
theorem MulSt.ne_own {w : World} {qm gf g B n c : Nat} {xs : List Value} (h : MulSt w qm gf) (ho : Own w B 5 (.slice (some ⟨g, 0, none⟩) n c) xs) : qm ≠ g := by
  obtain ⟨met, tab, h, _⟩ := h.ex
  rintro rfl
  exact own_ne ho h (by decide) rfl
theorem MulSt.ne_fld {w : World} {qm gf g : Nat} (h : MulSt w qm gf) (hf : Fld w g) : qm ≠ g := by
  obtain ⟨met, tab, h, _⟩ := h.ex
  exact fun e => Fld.ne_block hf h (by decide) e.symm
theorem keeps_but {w w' : World} {S : Nat → Prop} {l : Nat} (h : But w.heap.size S w w') (hS : ∀ k o, S k → w.heap[k]? = some o → o.isCells = true) : KeepsFrom l w w' :=
  ⟨h.size, fun k o _ hk ho => by
    refine (h.block k (Array.getElem?_eq_some_iff.1 hk).1 ?_).trans hk
    intro hs
    rw [hS k o hs hk] at ho
    cases ho⟩
theorem block_isCells {w : World} {k : Nat} {t : TypeId} {cs : Array Value} {o : Obj} (h : Block w k t cs) (ho : w.heap[k]? = some o) : o.isCells = true := by
  unfold Block at h; rw [h] at ho; cases ho; rfl
theorem fld_isCells {w : World} {g : Nat} {o : Obj} (h : Fld w g) (ho : w.heap[g]? = some o) : o.isCells = true := by
  rcases h with h | h <;> exact block_isCells h ho
theorem own_isCells {w : World} {B g n c : Nat} {e : TypeId} {xs : List Value} {o : Obj} (h : Own w B e (.slice (some ⟨g, 0, none⟩) n c) xs) (ho : w.heap[g]? = some o) : o.isCells = true := by
  obtain ⟨cs, hc⟩ := block_of_own h
  rw [hc] at ho; cases ho; rfl
theorem mulst_isCells {w : World} {qm gf : Nat} {o : Obj} (h : MulSt w qm gf) (ho : w.heap[qm]? = some o) : o.isCells = true := by
  obtain ⟨met, tab, h, _⟩ := h.ex
  exact block_isCells h ho
def mulS (qm gf : Nat) (k : Nat) : Prop := k = qm ∨ k = gf

/-- What table gives. -/
def TabRes (qm gf f : Nat) (w : World) (e : Ending) (w' : World) : Prop :=
  ∃ t, e = .returned (.pointer (some ⟨t, 0, none⟩)) ∧ Block w' t 111 (tcells f 256) ∧ MulSt w' qm gf ∧ Fld w' gf ∧ But w.heap.size (mulS qm gf) w w'
set_option maxRecDepth 100000 in
set_option maxHeartbeats 4000000 in
theorem table_calls (qm gf : Nat) (f : Nat) (hf8 : f < 256) (w : World) (hM : MulSt w qm gf) (hF : Fld w gf) :
    Calls Try.prog 118 #[.pointer (some ⟨qm, 0, none⟩), .int .u8 f] w (TabRes qm gf f w) := by
  have hne := hM.ne_fld hF
  have hlt := hM.lt
  have HM := Lib.hid hM
  obtain ⟨met, tab, hb, hmet, htab⟩ := hM.ex
  clear hM
  have hc : w.cell? ⟨qm, 257 + f, none⟩ = some (.pointer (tab f)) := by
    rw [hb.cell, mcells_get _ _ _ _ (by omega)]; unfold mc; rw [if_neg (by omega), if_neg (by omega), show 257 + f - 257 = f by omega]
  rcases htab f with ht | ⟨t, ht, htb⟩
  · rw [ht] at hc
    have HF := Lib.hid hF
    have HB := Lib.hid hb
    have hz := zero_table
    have hmt := hmet
    have HTab := Lib.hid htab
    have HMet := Lib.hid hmet
    clear hF hb htab hmet hmt ht
    go_enter Try.func118, Try.ntmps118
    go_wp2
    go_loopw [15] (fun i wr => ∃ k : Nat, k ≤ 256 ∧ i = .int .i64 k ∧ Hid (Block wr w.heap.size 111 (tcells f k)) ∧ Hid (Fld wr gf) ∧ Hid (But w.heap.size (· = gf) w wr)) (fun i _ => 256 - (intOf i).toNat)
    case atStart => exact ⟨0, by omega, rfl, Lib.hid (by rw [← tcells_zero]; exact Block.new _ _ _), Lib.hid (HF.out.alloc _), Lib.hid (But.of_below ((Below.refl _ _).alloc (Nat.le_refl _) _))⟩
    case round =>
      obtain ⟨k, hk, rfl, HT, HFr, HU⟩ := hrel
      have hgf := HF.out.lt
      by_cases hkk : k < 256
      · have hw8 : IntKind.u8.wrap (k : Int) = (k : Int) := IntWalk.u8_in _ (by omega)
        have hpf := (HU.out.cell ⟨qm, 0, none⟩ hlt hne).trans HM.out.field
        have htf := HT.out.frozen k
        have htc := (HT.out.cell k).trans (tcells_get f k k hkk)
        have hgs := HT.out.lt
        have htn : w.heap.size ≠ gf := by omega
        have hul := HU.out.size
        clear hc
        go_wp2_with fail
        go_region_with (go_at_call 32; refine (mul_calls (some ⟨gf, 0, none⟩) k f hkk hf8 _ (FldP.of (show Fld wr.drew gf from HFr.out))).mono ?_; rintro e w2 ⟨rfl, hF2, hP2⟩; have htf2 := (HT.out.drew.past hP2 hgs htn).frozen k; have htc2 := ((HT.out.drew.past hP2 hgs htn).cell k).trans (tcells_get f k k hkk); have HT2 := Lib.hid ((HT.out.drew.past hP2 hgs htn)); have HF2 := Lib.hid hF2.fld; have HP2 := Lib.hid hP2; clear hF2 hP2 htf htc)
        all_goals
          have HT3 : Hid (Block (w2.setCell ⟨w.heap.size, k, none⟩ (.int .u8 (gm k f : Nat))) w.heap.size 111 (tcells f (k + 1))) := Lib.hid (by rw [← tcells_set]; exact HT2.out.set_ k _)
          have HF3 : Hid (Fld (w2.setCell ⟨w.heap.size, k, none⟩ (.int .u8 (gm k f : Nat))) gf) := Lib.hid (HF2.out.imp (fun h => h.far (Ne.symm htn) _) (fun h => h.far (Ne.symm htn) _))
          have HU3 : Hid (But w.heap.size (· = gf) w (w2.setCell ⟨w.heap.size, k, none⟩ (.int .u8 (gm k f : Nat)))) := Lib.hid ((HU.out.drew.trans (But.of_past (HP2.out.mono hul) rfl)).setCell (p := ⟨w.heap.size, k, none⟩) (.inr (Nat.le_refl _)) _)
          clear htf2 htc2 hw8 hpf
          go_wp2
          go_roundw
          case rel => exact ⟨k + 1, by omega, by go_num, HT3, HF3, HU3⟩
          case measure => simp [intOf]; omega
      · obtain rfl : k = 256 := by omega
        have hbg := HU.out.blk HB.out hlt hne
        have c1 := (hbg.cell (257 + f)).trans (mcells_get _ _ _ (257 + f) (by omega))
        have f1 := hbg.frozen (257 + f)
        have hbg2 := hbg.set_ (257 + f) (.pointer (some ⟨w.heap.size, 0, none⟩))
        rw [mcells_tab _ _ _ _ _ hf8] at hbg2
        have c2 := (hbg2.cell (257 + f)).trans (mcells_get _ _ _ (257 + f) (by omega))
        have e2 : mc gf met (upd tab f (some ⟨w.heap.size, 0, none⟩)) (257 + f) = .pointer (some ⟨w.heap.size, 0, none⟩) := by
          unfold mc upd; rw [if_neg (by omega), if_neg (by omega), if_pos (by omega)]
        rw [e2] at c2
        have HB2 := Lib.hid hbg2
        have hgne : w.heap.size ≠ qm := by omega
        have HT3 : Hid (Block (wr.setCell ⟨qm, 257 + f, none⟩ (.pointer (some ⟨w.heap.size, 0, none⟩))) w.heap.size 111 (tcells f 256)) := Lib.hid (HT.out.far (by simpa using hgne) _)
        have HF3 : Hid (Fld (wr.setCell ⟨qm, 257 + f, none⟩ (.pointer (some ⟨w.heap.size, 0, none⟩))) gf) := Lib.hid (HFr.out.imp (fun h => h.far (by simpa using Ne.symm hne) _) (fun h => h.far (by simpa using Ne.symm hne) _))
        have HU3 : Hid (But w.heap.size (mulS qm gf) w (wr.setCell ⟨qm, 257 + f, none⟩ (.pointer (some ⟨w.heap.size, 0, none⟩)))) := Lib.hid ((HU.out.mono (Nat.le_refl _) (fun k _ h => .inr h)).setCell (p := ⟨qm, 257 + f, none⟩) (.inl (.inl rfl)) _)
        clear hbg hbg2 e2
        go_wp2
        go_ret
        refine ⟨w.heap.size, rfl, HT3.out, ⟨met, _, HB2.out, HMet.out, fun q => ?_⟩, HF3.out, HU3.out⟩
        unfold upd
        by_cases e : q = f
        · subst e
          exact .inr ⟨w.heap.size, if_pos rfl, HT3.out⟩
        · rw [if_neg e]
          rcases HTab.out q with h | ⟨t, h, hb⟩
          · exact .inl h
          · refine .inr ⟨t, h, ?_⟩
            have h1 := HU.out.blk hb hb.lt (fun e => Fld.ne_block HF.out hb (by decide) e.symm)
            exact h1.far (by simpa using block_ne hb HB.out (by decide)) _
  · rw [ht] at hc
    have hb2 := hb
    clear hmet htab ht
    go_enter Try.func118, Try.ntmps118
    go_wp2
    go_ret
    exact ⟨t, rfl, htb, HM.out, hF, But.refl _ _ _⟩
end Go.Proofs.Ytjpbdbgihakpmaa.Mat
