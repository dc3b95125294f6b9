/- Of the program and its document, joined: WcInt, MatMul1, MatMul2. -/
import Derived.Test.YtiapokojlkdddaaGreatPk28
import Derived.Test.YtiapokojlkdddaaGreatPk30
/- The program's interpolate. -/
namespace Go.Proofs.YtiapokojlkdddaaGreat.Wl
open Go.RowKit Go.Shelf F8 Poly GF Rd
attribute [local go_sem] Oper.semAt_some

theorem Sym.At.frozen {S : Sym} {T N : Value} {w : World} (h : S.At T N w) (i : Nat) : w.frozen? ⟨S.s, i, none⟩ = false := h.blk.frozen i
/-- What interpolate gives. -/
def RInt (S : Sym) (w : World) (e : Ending) (w' : World) : Prop := ∃ T N, e = .returned (.tuple #[]) ∧ S.At T N w' ∧ S.Made T N w' ∧ Past S.B0 S.g w w'
set_option maxRecDepth 100000 in
set_option maxHeartbeats 4000000 in
theorem interpolate_made {S : Sym} {T N : Value} {w : World} (h : S.At T N w) (ok : S.Ok) (hm : S.Made T N w) :
    Calls Tryz.prog 144 #[.pointer (some ⟨S.s, 0, none⟩)] w (RInt S w) := by
  have HM := Lib.hid hm
  obtain ⟨th, A, c, A2, c2, h1, h2, h3⟩ := hm
  have hrl : (trim (roots S.pts)).length = S.m + 1 := by rw [trim_length, len_roots, ok.pl_]
  obtain ⟨b0, o0, hA2⟩ := where_ h3.by_ (by omega)
  have hN := h3.v_
  rw [hA2] at hN
  have hq := Mat.eql_nil (some ⟨b0, o0, none⟩) (trim (roots S.pts)).length c2 w
  obtain ⟨l, hl⟩ : ∃ l, (trim (roots S.pts)).length = l := ⟨_, rfl⟩
  rw [hl] at hN hq
  subst hN
  have HS := Lib.hid h
  have d5 := h.cells.2.2.2.2.2
  clear h1 h2 h3 hrl hA2 hl h
  go_enter Tryz.func144, Tryz.ntmps144
  go_wp2
  go_end0
  exact ⟨_, _, rfl, HS.out, HM.out, Past.refl _ _ _⟩
set_option maxRecDepth 100000 in
set_option maxHeartbeats 8000000 in
theorem interpolate_new (PS : Poly.Spec) {S : Sym} {w : World} (h : S.At (.slice none 0 0) (.slice none 0 0) w) (ok : S.Ok) :
    Calls Tryz.prog 144 #[.pointer (some ⟨S.s, 0, none⟩)] w (RInt S w) := by
  have hq := Mat.eql_nil none 0 0 w
  have hpl := ok.pl_
  have HT := Lib.hid (PS.throughP S.X S.Y S.pts S.ys S.m S.m S.c1 S.e w.drew hpl ok.yl h.bx.drew h.by_.drew ok.mc ok.me (by have := ok.m2; omega) (by have := ok.m2; omega) (some ⟨S.g, 0, none⟩) h.cd.fld (h.farx ok) (h.fary ok) rfl ok.nd)
  have HS0 := Lib.hid h
  have HS := Lib.hid (h.below (Below.refl _ w).drew)
  have e5 := h.cells.2.2.2.2.2
  have d0 := HS.out.cells.1
  have d2 := HS.out.cells.2.2.1
  have d3 := HS.out.cells.2.2.2.1
  have d4 := HS.out.cells.2.2.2.2.1
  have df := HS.out.frozen 4
  clear h hpl
  go_enter Tryz.func144, Tryz.ntmps144
  go_wp2_with fail
  go_region_held (fun wz => wz.cell? ⟨S.s, 0, none⟩ = some (.pointer (some ⟨S.b, 0, none⟩)) ∧ wz.cell? ⟨S.s, 2, none⟩ = some (.slice S.X S.m S.c1) ∧ wz.cell? ⟨S.s, 3, none⟩ = some (.slice S.Y S.m S.e)) (first | exact ⟨d0, d2, d3⟩ | exact ⟨(HS.out.put4 ok _).cells.1, (HS.out.put4 ok _).cells.2.2.1, (HS.out.put4 ok _).cells.2.2.2.1⟩)
    ((first
      | (go_at_call 94; (with_reducible refine (field_calls HS.out.cd).mono ?_); rintro e w1 ⟨rfl, rfl⟩)
      | (go_at_call 151; (with_reducible refine HT.out.mono ?_); rintro e w4 ⟨r, ht, A4, c4, rfl, hc4, hO4, hF4, hP4⟩; have hp4 : Past w.drew.heap.size S.g w.drew w4 := hP4; have HS1 := HS; replace HS := Lib.hid (HS1.out.past ok hF4 hp4); have d0 := HS.out.cells.1; have d2 := HS.out.cells.2.2.1; have d3 := HS.out.cells.2.2.2.1; have d4 := HS.out.cells.2.2.2.2.1; have df := HS.out.frozen 4)))
  obtain ⟨w5, hw5⟩ : ∃ w5, w4.setCell ⟨S.s, 4, none⟩ (.slice A4 r.length c4) = w5 := ⟨_, rfl⟩
  have hsl : S.s < w.heap.size := HS0.out.blk.lt
  have HO4 : Hid (Own w5 w.heap.size 5 (.slice A4 r.length c4) (bv (bs r))) := Lib.hid (by
    rw [← hw5]
    refine Own.far (p := ⟨S.s, 4, none⟩) hO4 ?_ _
    intro e
    have : w.drew.heap.size ≤ S.s := (hO4.lt S.s e).1
    exact absurd hsl (Nat.not_lt.2 this))
  have HS5 : Hid (S.At (.slice A4 r.length c4) (.slice none 0 0) w5) := Lib.hid (by rw [← hw5]; exact HS.out.put4 ok _)
  have hB0 : S.B0 ≤ w.heap.size := by have := ok.sB; omega
  have HP5 : Hid (Past S.B0 S.g w w5) := Lib.hid (by rw [← hw5]; exact (((Past.refl S.B0 S.g w).drew).trans (hp4.mono hB0)).setCell (p := ⟨S.s, 4, none⟩) (.inr ok.sB) _)
  have HThr := Lib.hid ht
  have HH := Lib.hid (Sym.has_own ok HO4.out hc4 hsl)
  rw [hw5]
  have HR := Lib.hid (PS.rootsP S.X S.pts S.m S.c1 w5.drew ok.pl_ HS5.out.bx.drew ok.mc (by have := ok.m2; omega) (some ⟨S.g, 0, none⟩) HS5.out.cd.fld (HS5.out.farx ok))
  have hrl : (trim (roots S.pts)).length = S.m + 1 := by rw [trim_length, len_roots, ok.pl_]
  have hrt : trim (trim (roots S.pts)) = trim (roots S.pts) := trim_trim _
  obtain ⟨nt, hnt⟩ : ∃ nt, trim (roots S.pts) = nt := ⟨_, rfl⟩
  rw [hnt] at HR
  have HNT := Lib.hid hnt
  replace HS := Lib.hid (HS5.out.below (Below.refl _ w5).drew)
  have g0 := HS.out.cells.1
  have g2 := HS.out.cells.2.2.1
  have g5 := HS.out.cells.2.2.2.2.2
  have gf := HS.out.frozen 5
  clear hw5 ht hO4 hc4 hF4 hP4 hp4 HS1 d0 d2 d3 d4 df HT hq hnt hrt hrl e5
  go_wp2_with fail
  go_region_held (fun wz => wz.cell? ⟨S.s, 0, none⟩ = some (.pointer (some ⟨S.b, 0, none⟩)) ∧ wz.cell? ⟨S.s, 2, none⟩ = some (.slice S.X S.m S.c1)) (first | exact ⟨g0, g2⟩ | exact ⟨(HS.out.put5 ok _).cells.1, (HS.out.put5 ok _).cells.2.2.1⟩)
    ((first
      | (go_at_call 94; (with_reducible refine (field_calls HS.out.cd).mono ?_); rintro e w1 ⟨rfl, rfl⟩)
      | (go_at_call 63; (with_reducible refine HR.out.mono ?_); rintro e w6 ⟨A6, c6, rfl, hc6, hO6, hF6, hP6⟩; have hp6 : Past w5.drew.heap.size S.g w5.drew w6 := hP6; have HS1 := HS; replace HS := Lib.hid (HS1.out.past ok hF6 hp6); have g0 := HS.out.cells.1; have g2 := HS.out.cells.2.2.1; have g5 := HS.out.cells.2.2.2.2.2; have gf := HS.out.frozen 5)))
  all_goals
    have hsl5 : S.s < w5.heap.size := HS5.out.blk.lt
    have hH6 : S.Has w6 (.slice A4 r.length c4) r A4 c4 := HH.out.past (((Past.refl w5.heap.size S.g w5).drew).trans hp6)
    have hpt : Past w6.heap.size S.s w6 (w6.setCell ⟨S.s, 5, none⟩ (.slice A6 nt.length c6)) := (Past.refl _ _ _).setCell (p := ⟨S.s, 5, none⟩) (.inl rfl) _
    have hO7 : Own (w6.setCell ⟨S.s, 5, none⟩ (.slice A6 nt.length c6)) w5.heap.size 5 (.slice A6 nt.length c6) (bv (bs nt)) := by
      refine Own.far (p := ⟨S.s, 5, none⟩) hO6 ?_ _
      intro e
      have : w5.drew.heap.size ≤ S.s := (hO6.lt S.s e).1
      exact absurd hsl5 (Nat.not_lt.2 this)
    have hX : RInt S w (.returned (.tuple #[])) (w6.setCell ⟨S.s, 5, none⟩ (.slice A6 nt.length c6)) :=
      ⟨_, _, rfl, HS.out.put5 ok _, ⟨r, A4, c4, A6, c6, hH6.turn hpt, HThr.out, by rw [HNT.out]; exact Sym.has_own ok hO7 hc6 hsl5⟩, ((HP5.out.drew).trans (hp6.mono (Nat.le_trans hB0 HP5.out.size))).setCell (p := ⟨S.s, 5, none⟩) (.inr ok.sB) _⟩
    clear hH6 hpt hO7
    go_wp2
    go_end0
    exact hX
theorem interpolate_calls (PS : Poly.Spec) {S : Sym} {T N : Value} {w : World} (h : S.At T N w) (ok : S.Ok) (hst : S.St T N w) :
    Calls Tryz.prog 144 #[.pointer (some ⟨S.s, 0, none⟩)] w (RInt S w) := by
  rcases hst with ⟨rfl, rfl⟩ | hm
  · exact interpolate_new PS h ok
  · exact interpolate_made h ok hm
end Go.Proofs.YtiapokojlkdddaaGreat.Wl

/- What the program's multiplier does: a table of products, a row times a factor added to another. -/
namespace Go.Proofs.YtiapokojlkdddaaGreat.Mat
open Go.RowKit Go.Shelf F8 Poly GF
attribute [local go_sem] Oper.semAt_some

/-- A multiplier's cells: its field, how many elements it met, its tables. -/
def mc (gf : Nat) (met : Nat → Nat) (tab : Nat → Option Addr) (i : Nat) : Value :=
  if i = 0 then .pointer (some ⟨gf, 0, none⟩) else if i < 257 then .int .i64 (met (i - 1) : Nat) else .pointer (tab (i - 257))
def mcells (gf : Nat) (met : Nat → Nat) (tab : Nat → Option Addr) : Array Value := Array.ofFn (n := 513) fun i => mc gf met tab i
theorem mcells_get (gf : Nat) (met : Nat → Nat) (tab : Nat → Option Addr) (i : Nat) (hi : i < 513) : (mcells gf met tab)[i]? = some (mc gf met tab i) := by
  unfold mcells; rw [Array.getElem?_ofFn, dif_pos hi]
theorem mcells_set (gf : Nat) (met met' : Nat → Nat) (tab tab' : Nat → Option Addr) (j : Nat) (v : Value) (hv : ∀ i, i < 513 → mc gf met' tab' i = if i = j then v else mc gf met tab i) : (mcells gf met tab).setIfInBounds j v = mcells gf met' tab' := by
  apply Array.ext
  · simp [mcells]
  · intro i h1 h2
    have hi : i < 513 := by simpa [mcells] using h2
    rw [Array.getElem_setIfInBounds (by simpa [mcells] using hi)]
    simp only [mcells, Array.getElem_ofFn]
    rw [hv i hi]
    by_cases h : j = i
    · rw [if_pos h, if_pos h.symm]
    · rw [if_neg h, if_neg (fun e => h e.symm)]
def upd {α : Type} (f : Nat → α) (k : Nat) (x : α) (i : Nat) : α := if i = k then x else f i
theorem mcells_met (gf : Nat) (met : Nat → Nat) (tab : Nat → Option Addr) (k x : Nat) (hk : k < 256) : (mcells gf met tab).setIfInBounds (1 + k) (.int .i64 (x : Nat)) = mcells gf (upd met k x) tab :=
  mcells_set _ _ _ _ _ _ _ fun i _ => by
    unfold mc upd
    by_cases e : i = 1 + k
    · rw [if_pos e, if_neg (by omega), if_pos (by omega), if_pos (by omega)]
    · rw [if_neg e]
      by_cases e0 : i = 0
      · rw [if_pos e0, if_pos e0]
      · rw [if_neg e0, if_neg e0]
        by_cases e1 : i < 257
        · rw [if_pos e1, if_pos e1, if_neg (by omega)]
        · rw [if_neg e1, if_neg e1]
theorem mcells_tab (gf : Nat) (met : Nat → Nat) (tab : Nat → Option Addr) (k : Nat) (x : Option Addr) (hk : k < 256) : (mcells gf met tab).setIfInBounds (257 + k) (.pointer x) = mcells gf met (upd tab k x) :=
  mcells_set _ _ _ _ _ _ _ fun i _ => by
    unfold mc upd
    by_cases e : i = 257 + k
    · rw [if_pos e, if_neg (by omega), if_neg (by omega), if_pos (by omega)]
    · rw [if_neg e]
      by_cases e0 : i = 0
      · rw [if_pos e0, if_pos e0]
      · rw [if_neg e0, if_neg e0]
        by_cases e1 : i < 257
        · rw [if_pos e1, if_pos e1]
        · rw [if_neg e1, if_neg e1, if_neg (by omega)]
/-- The products of a factor, the first k of them. -/
def tc (f k i : Nat) : Value := .int .u8 ((if i < k then gm i f else 0 : Nat) : Int)
def tcells (f k : Nat) : Array Value := Array.ofFn (n := 256) fun i => tc f k i
theorem tcells_get (f k i : Nat) (hi : i < 256) : (tcells f k)[i]? = some (tc f k i) := by unfold tcells; rw [Array.getElem?_ofFn, dif_pos hi]
theorem tcells_set (f k : Nat) : (tcells f k).setIfInBounds k (.int .u8 (gm k f : Nat)) = tcells f (k + 1) := by
  apply Array.ext
  · simp [tcells]
  · intro i h1 h2
    have hi : i < 256 := by simpa [tcells] using h2
    rw [Array.getElem_setIfInBounds (by simpa [tcells] using hi)]
    simp only [tcells, Array.getElem_ofFn]
    unfold tc
    by_cases h : k = i
    · subst h; rw [if_pos rfl, if_pos (by omega)]
    · rw [if_neg h]
      by_cases h2 : i < k
      · rw [if_pos h2, if_pos (by omega)]
      · rw [if_neg h2, if_neg (by omega)]
theorem zero_table (w : World) : (zeroValue 110).run Tryz.prog w = .ok (.agg (tcells 0 0)) w := by kernel_rfl
theorem tcells_zero (f : Nat) : tcells 0 0 = tcells f 0 := by
  unfold tcells tc; simp

/-- A multiplier at qm, over the field at gf. -/
structure MulSt (w : World) (qm gf : Nat) : Prop where
  ex : ∃ met tab, Block w qm 215 (mcells gf met tab) ∧ (∀ f, met f ≤ 1099511627776) ∧ ∀ f, tab f = none ∨ ∃ t, tab f = some ⟨t, 0, none⟩ ∧ Block w t 110 (tcells f 256)
theorem MulSt.lt {w : World} {qm gf : Nat} (h : MulSt w qm gf) : qm < w.heap.size := by obtain ⟨met, tab, h, _⟩ := h.ex; exact h.lt
theorem MulSt.keep {w w' : World} {qm gf : Nat} (h : MulSt w qm gf) (hk : ∀ (k : Nat) (t : TypeId) (cs : Array Value), w.heap[k]? = some (Obj.cells cs t (0, 0)) → t = 215 ∨ t = 110 → w'.heap[k]? = w.heap[k]?) : MulSt w' qm gf := by
  obtain ⟨met, tab, h1, h2, h3⟩ := h.ex
  refine ⟨met, tab, (hk _ _ _ h1 (.inl rfl)).trans h1, h2, fun f => ?_⟩
  rcases h3 f with h | ⟨t, h, hb⟩
  · exact .inl h
  · exact .inr ⟨t, h, (hk _ _ _ hb (.inr rfl)).trans hb⟩
theorem MulSt.below {w w' : World} {qm gf : Nat} (h : MulSt w qm gf) (hb : Below w.heap.size w w') : MulSt w' qm gf :=
  h.keep fun _ _ _ hk _ => hb.block _ (Array.getElem?_eq_some_iff.1 hk).1
theorem MulSt.turn {B : Nat} {w w' : World} {qm gf : Nat} (h : MulSt w qm gf) (t : Turn B w w') : MulSt w' qm gf :=
  h.keep fun _ _ _ hk _ => (t.cells _ _ _ _ hk).trans hk.symm
/-- .. over what turns a field. -/
theorem MulSt.past {w w' : World} {qm gf g : Nat} (h : MulSt w qm gf) (hf : Fld w g) (hp : Past w.heap.size g w w') : MulSt w' qm gf :=
  h.keep fun _ t cs hk ht => hp.block _ (Array.getElem?_eq_some_iff.1 hk).1 (fun e => by
    subst e
    exact Fld.ne_block hf hk (by rcases ht with rfl | rfl <;> decide) rfl)
/-- .. over a store into a row of bytes of one's own. -/
theorem MulSt.store {w : World} {qm gf g B n c : Nat} {xs : List Value} (h : MulSt w qm gf) (ho : Own w B 5 (.slice (some ⟨g, 0, none⟩) n c) xs) (k : Nat) (u : Value) : MulSt (w.setCell ⟨g, k, none⟩ u) qm gf :=
  h.keep fun _ t cs hk ht => Below.heap_setCell _ _ _ _ (fun e => by
    simp only at e
    subst e
    exact own_ne ho hk (by rcases ht with rfl | rfl <;> decide) rfl)
theorem MulSt.field {w : World} {qm gf : Nat} (h : MulSt w qm gf) : w.cell? ⟨qm, 0, none⟩ = some (.pointer (some ⟨gf, 0, none⟩)) := by
  obtain ⟨met, tab, h, _⟩ := h.ex
  rw [h.cell, mcells_get _ _ _ _ (by decide)]; rfl
theorem MulSt.ne_own {w : World} {qm gf g B n c : Nat} {xs : List Value} (h : MulSt w qm gf) (ho : Own w B 5 (.slice (some ⟨g, 0, none⟩) n c) xs) : qm ≠ g := by
  obtain ⟨met, tab, h, _⟩ := h.ex
  rintro rfl
  exact own_ne ho h (by decide) rfl
theorem MulSt.ne_fld {w : World} {qm gf g : Nat} (h : MulSt w qm gf) (hf : Fld w g) : qm ≠ g := by
  obtain ⟨met, tab, h, _⟩ := h.ex
  exact fun e => Fld.ne_block hf h (by decide) e.symm
theorem keeps_but {w w' : World} {S : Nat → Prop} {l : Nat} (h : But w.heap.size S w w') (hS : ∀ k o, S k → w.heap[k]? = some o → o.isCells = true) : KeepsFrom l w w' :=
  ⟨h.size, fun k o _ hk ho => by
    refine (h.block k (Array.getElem?_eq_some_iff.1 hk).1 ?_).trans hk
    intro hs
    rw [hS k o hs hk] at ho
    cases ho⟩
theorem block_isCells {w : World} {k : Nat} {t : TypeId} {cs : Array Value} {o : Obj} (h : Block w k t cs) (ho : w.heap[k]? = some o) : o.isCells = true := by
  unfold Block at h; rw [h] at ho; cases ho; rfl
theorem fld_isCells {w : World} {g : Nat} {o : Obj} (h : Fld w g) (ho : w.heap[g]? = some o) : o.isCells = true := by
  rcases h with h | h <;> exact block_isCells h ho
theorem own_isCells {w : World} {B g n c : Nat} {e : TypeId} {xs : List Value} {o : Obj} (h : Own w B e (.slice (some ⟨g, 0, none⟩) n c) xs) (ho : w.heap[g]? = some o) : o.isCells = true := by
  obtain ⟨cs, hc⟩ := block_of_own h
  rw [hc] at ho; cases ho; rfl
theorem mulst_isCells {w : World} {qm gf : Nat} {o : Obj} (h : MulSt w qm gf) (ho : w.heap[qm]? = some o) : o.isCells = true := by
  obtain ⟨met, tab, h, _⟩ := h.ex
  exact block_isCells h ho
def mulS (qm gf : Nat) (k : Nat) : Prop := k = qm ∨ k = gf

/-- What table gives. -/
def TabRes (qm gf f : Nat) (w : World) (e : Ending) (w' : World) : Prop :=
  ∃ t, e = .returned (.pointer (some ⟨t, 0, none⟩)) ∧ Block w' t 110 (tcells f 256) ∧ MulSt w' qm gf ∧ Fld w' gf ∧ But w.heap.size (mulS qm gf) w w'
set_option maxRecDepth 100000 in
set_option maxHeartbeats 4000000 in
theorem table_calls (qm gf : Nat) (f : Nat) (hf8 : f < 256) (w : World) (hM : MulSt w qm gf) (hF : Fld w gf) :
    Calls Tryz.prog 206 #[.pointer (some ⟨qm, 0, none⟩), .int .u8 f] w (TabRes qm gf f w) := by
  have hne := hM.ne_fld hF
  have hlt := hM.lt
  have HM := Lib.hid hM
  obtain ⟨met, tab, hb, hmet, htab⟩ := hM.ex
  clear hM
  have hc : w.cell? ⟨qm, 257 + f, none⟩ = some (.pointer (tab f)) := by
    rw [hb.cell, mcells_get _ _ _ _ (by omega)]; unfold mc; rw [if_neg (by omega), if_neg (by omega), show 257 + f - 257 = f by omega]
  rcases htab f with ht | ⟨t, ht, htb⟩
  · rw [ht] at hc
    have HF := Lib.hid hF
    have HB := Lib.hid hb
    have hz := zero_table
    have hmt := hmet
    have HTab := Lib.hid htab
    have HMet := Lib.hid hmet
    clear hF hb htab hmet hmt ht
    go_enter Tryz.func206, Tryz.ntmps206
    go_wp2
    go_loopw [15] (fun i wr => ∃ k : Nat, k ≤ 256 ∧ i = .int .i64 k ∧ Hid (Block wr w.heap.size 110 (tcells f k)) ∧ Hid (Fld wr gf) ∧ Hid (But w.heap.size (· = gf) w wr)) (fun i _ => 256 - (intOf i).toNat)
    case atStart => exact ⟨0, by omega, rfl, Lib.hid (by rw [← tcells_zero]; exact Block.new _ _ _), Lib.hid (HF.out.alloc _), Lib.hid (But.of_below ((Below.refl _ _).alloc (Nat.le_refl _) _))⟩
    case round =>
      obtain ⟨k, hk, rfl, HT, HFr, HU⟩ := hrel
      have hgf := HF.out.lt
      by_cases hkk : k < 256
      · have hw8 : IntKind.u8.wrap (k : Int) = (k : Int) := IntWalk.u8_in _ (by omega)
        have hpf := (HU.out.cell ⟨qm, 0, none⟩ hlt hne).trans HM.out.field
        have htf := HT.out.frozen k
        have htc := (HT.out.cell k).trans (tcells_get f k k hkk)
        have hgs := HT.out.lt
        have htn : w.heap.size ≠ gf := by omega
        have hul := HU.out.size
        clear hc
        go_wp2_with fail
        go_region_with (go_at_call 114; refine (mul_calls (some ⟨gf, 0, none⟩) k f hkk hf8 _ (FldP.of (show Fld wr.drew gf from HFr.out))).mono ?_; rintro e w2 ⟨rfl, hF2, hP2⟩; have htf2 := (HT.out.drew.past hP2 hgs htn).frozen k; have htc2 := ((HT.out.drew.past hP2 hgs htn).cell k).trans (tcells_get f k k hkk); have HT2 := Lib.hid ((HT.out.drew.past hP2 hgs htn)); have HF2 := Lib.hid hF2.fld; have HP2 := Lib.hid hP2; clear hF2 hP2 htf htc)
        all_goals
          have HT3 : Hid (Block (w2.setCell ⟨w.heap.size, k, none⟩ (.int .u8 (gm k f : Nat))) w.heap.size 110 (tcells f (k + 1))) := Lib.hid (by rw [← tcells_set]; exact HT2.out.set_ k _)
          have HF3 : Hid (Fld (w2.setCell ⟨w.heap.size, k, none⟩ (.int .u8 (gm k f : Nat))) gf) := Lib.hid (HF2.out.imp (fun h => h.far (Ne.symm htn) _) (fun h => h.far (Ne.symm htn) _))
          have HU3 : Hid (But w.heap.size (· = gf) w (w2.setCell ⟨w.heap.size, k, none⟩ (.int .u8 (gm k f : Nat)))) := Lib.hid ((HU.out.drew.trans (But.of_past (HP2.out.mono hul) rfl)).setCell (p := ⟨w.heap.size, k, none⟩) (.inr (Nat.le_refl _)) _)
          clear htf2 htc2 hw8 hpf
          go_wp2
          go_roundw
          case rel => exact ⟨k + 1, by omega, by go_num, HT3, HF3, HU3⟩
          case measure => simp [intOf]; omega
      · obtain rfl : k = 256 := by omega
        have hbg := HU.out.blk HB.out hlt hne
        have c1 := (hbg.cell (257 + f)).trans (mcells_get _ _ _ (257 + f) (by omega))
        have f1 := hbg.frozen (257 + f)
        have hbg2 := hbg.set_ (257 + f) (.pointer (some ⟨w.heap.size, 0, none⟩))
        rw [mcells_tab _ _ _ _ _ hf8] at hbg2
        have c2 := (hbg2.cell (257 + f)).trans (mcells_get _ _ _ (257 + f) (by omega))
        have e2 : mc gf met (upd tab f (some ⟨w.heap.size, 0, none⟩)) (257 + f) = .pointer (some ⟨w.heap.size, 0, none⟩) := by
          unfold mc upd; rw [if_neg (by omega), if_neg (by omega), if_pos (by omega)]
        rw [e2] at c2
        have HB2 := Lib.hid hbg2
        have hgne : w.heap.size ≠ qm := by omega
        have HT3 : Hid (Block (wr.setCell ⟨qm, 257 + f, none⟩ (.pointer (some ⟨w.heap.size, 0, none⟩))) w.heap.size 110 (tcells f 256)) := Lib.hid (HT.out.far (by simpa using hgne) _)
        have HF3 : Hid (Fld (wr.setCell ⟨qm, 257 + f, none⟩ (.pointer (some ⟨w.heap.size, 0, none⟩))) gf) := Lib.hid (HFr.out.imp (fun h => h.far (by simpa using Ne.symm hne) _) (fun h => h.far (by simpa using Ne.symm hne) _))
        have HU3 : Hid (But w.heap.size (mulS qm gf) w (wr.setCell ⟨qm, 257 + f, none⟩ (.pointer (some ⟨w.heap.size, 0, none⟩)))) := Lib.hid ((HU.out.mono (Nat.le_refl _) (fun k _ h => .inr h)).setCell (p := ⟨qm, 257 + f, none⟩) (.inl (.inl rfl)) _)
        clear hbg hbg2 e2
        go_wp2
        go_ret
        refine ⟨w.heap.size, rfl, HT3.out, ⟨met, _, HB2.out, HMet.out, fun q => ?_⟩, HF3.out, HU3.out⟩
        unfold upd
        by_cases e : q = f
        · subst e
          exact .inr ⟨w.heap.size, if_pos rfl, HT3.out⟩
        · rw [if_neg e]
          rcases HTab.out q with h | ⟨t, h, hb⟩
          · exact .inl h
          · refine .inr ⟨t, h, ?_⟩
            have h1 := HU.out.blk hb hb.lt (fun e => Fld.ne_block HF.out hb (by decide) e.symm)
            exact h1.far (by simpa using block_ne hb HB.out (by decide)) _
  · rw [ht] at hc
    have hb2 := hb
    clear hmet htab ht
    go_enter Tryz.func206, Tryz.ntmps206
    go_wp2
    go_ret
    exact ⟨t, rfl, htb, HM.out, hF, But.refl _ _ _⟩
end Go.Proofs.YtiapokojlkdddaaGreat.Mat

/- What the program's addTimes does: a row times a factor, added to another row. -/
namespace Go.Proofs.YtiapokojlkdddaaGreat.Mat
open Go.RowKit Go.Shelf F8 Poly GF
attribute [local go_sem] Oper.semAt_some

/-- Of q times c the first k have been added to s, from off on. -/
def SoFar (s t q : List F8) (off k : Nat) (c : F8) : Prop := t.length = s.length ∧ ∀ i, coef t i = coef s i + if off ≤ i ∧ i < off + k then c * coef q (i - off) else 0
theorem SoFar.start (s q : List F8) (off : Nat) (c : F8) : SoFar s s q off 0 c := ⟨rfl, fun i => by rw [if_neg (by omega), add_zero]⟩
theorem SoFar.at_ {s t q : List F8} {off k : Nat} {c : F8} (h : SoFar s t q off k c) : coef t (off + k) = coef s (off + k) := by rw [h.2, if_neg (by omega), add_zero]
theorem SoFar.step {s t q : List F8} {off k : Nat} {c : F8} (h : SoFar s t q off k c) (hk : off + k < s.length) : SoFar s (t.set (off + k) (coef t (off + k) + coef q k * c)) q off (k + 1) c := by
  refine ⟨by rw [List.length_set, h.1], fun i => ?_⟩
  rw [coef_set' t (off + k) _ (by rw [h.1]; exact hk) i]
  by_cases e : i = off + k
  · subst e
    rw [if_pos rfl, if_pos (by omega), h.at_, show off + k - off = k by omega, mul_comm]
  · rw [if_neg e, h.2]
    congr 1
    by_cases e2 : off ≤ i ∧ i < off + k
    · rw [if_pos e2, if_pos (by omega)]
    · rw [if_neg e2, if_neg (by omega)]
theorem SoFar.zero (s q : List F8) (off n : Nat) : SoFar s s q off n 0 := ⟨rfl, fun i => by rw [zero_mul]; split <;> rw [add_zero]⟩
theorem SoFar.out {s t q : List F8} {off k n : Nat} {c : F8} (h : SoFar s t q off k c) (hk : k ≤ n) (i : Nat) (hi : ¬ (off ≤ i ∧ i < off + n)) : coef t i = coef s i := by
  rw [h.2, if_neg (by omega), add_zero]
def addS (qm gf g1 : Nat) (k : Nat) : Prop := k = qm ∨ k = gf ∨ k = g1
/-- What addTimes leaves. -/
def AddRes (Bo qm gf g1 M C off n : Nat) (s q : List F8) (c : F8) (w : World) (e : Ending) (w' : World) : Prop :=
  e = .returned (.tuple #[]) ∧ (∃ t, SoFar s t q off n c ∧ Own w' Bo 5 (.slice (some ⟨g1, 0, none⟩) M C) (bv (bs t))) ∧ Fld w' gf ∧ MulSt w' qm gf ∧ But w.heap.size (addS qm gf g1) w w'
theorem n_le (x : F8) : (0 : Int) ≤ (x.n : Int) ∧ (x.n : Int) < 256 := by have := x.h; omega

set_option maxRecDepth 100000 in
set_option maxHeartbeats 4000000 in
theorem addTimes_few (Bo qm gf g1 M C off ls cs n d : Nat) (A1 B : Option Addr) (s q : List F8) (c : F8) (w : World) (hf : Fld w gf) (hM : MulSt w qm gf) (hS : Own w Bo 5 (.slice (some ⟨g1, 0, none⟩) M C) (bv (bs s))) (hsl : s.length = M) (hl : q.length = n) (hA : 0 < n → A1 = some ⟨g1, off, none⟩)
    (hoff : off + n ≤ M) (hls : n ≤ ls) (hn : n ≤ 1000000000)
    (hread : ∀ (W : World) (t : List F8), But w.heap.size (addS qm gf g1) w W → Own W Bo 5 (.slice (some ⟨g1, 0, none⟩) M C) (bv (bs t)) → t.length = M → (∀ i, ¬ (off ≤ i ∧ i < off + n) → coef t i = coef s i) → Bytes W B (bs q))
    (met : Nat → Nat) (tab : Nat → Option Addr) (hb : Block w qm 215 (mcells gf met tab)) (hmet : ∀ f, met f ≤ 1099511627776) (htab : ∀ f, tab f = none ∨ ∃ t, tab f = some ⟨t, 0, none⟩ ∧ Block w t 110 (tcells f 256)) (hc0 : c ≠ 0) (hm : met c.n < 256) :
    Calls Tryz.prog 161 #[.pointer (some ⟨qm, 0, none⟩), .slice A1 ls cs, .slice B n d, .int .u8 c.n] w (AddRes Bo qm gf g1 M C off n s q c w) := by
  have hx0 : ((c.n : Int) == 0) = false := n_beq0 hc0
  have hnq := hM.ne_fld hf
  have hng := hM.ne_own hS
  have hgf := Fld.ne_own hf (by decide) hS
  have hbk := Own.blk hS
  have hcn := c.h
  have c1 : w.cell? ⟨qm, 1 + c.n, none⟩ = some (.int .i64 (met c.n : Nat)) := by
    rw [hb.cell, mcells_get _ _ _ _ (by omega)]; unfold mc; rw [if_neg (by omega), if_pos (by omega), show 1 + c.n - 1 = c.n by omega]
  have f1 := hb.frozen (1 + c.n)
  obtain ⟨m, hmm⟩ : ∃ m, met c.n = m := ⟨_, rfl⟩
  rw [hmm] at c1 hm
  have hb2 := hb.set_ (1 + c.n) (.int .i64 ((m + n : Nat) : Int))
  rw [mcells_met _ _ _ _ _ hcn, show ((m + n : Nat) : Int) = (m : Int) + (n : Int) by omega] at hb2
  obtain ⟨wm, hwm⟩ : ∃ wm, (w.setCell ⟨qm, 1 + c.n, none⟩ (.int .i64 ((m : Int) + (n : Int)))).drew = wm := ⟨_, rfl⟩
  have HM2 : Hid (MulSt wm qm gf) := Lib.hid (by rw [← hwm]; refine ⟨_, _, hb2.drew, fun f => by unfold upd; split; omega; exact hmet f, fun f => ?_⟩; exact (by
    rcases htab f with h | ⟨t, h, ht⟩
    · exact .inl h
    · exact .inr ⟨t, h, (ht.far (by simpa using block_ne ht hb (by decide)) _).drew⟩))
  have HL := Lib.hid hl
  have HSL := Lib.hid hsl
  have HRd := Lib.hid hread
  have HA := Lib.hid hA
  have HF2 : Hid (Fld wm gf) := Lib.hid (by rw [← hwm]; exact hf.imp (fun h => (h.far (by simpa using Ne.symm hnq) _).drew) (fun h => (h.far (by simpa using Ne.symm hnq) _).drew))
  have HS2 : Hid (Own wm Bo 5 (.slice (some ⟨g1, 0, none⟩) M C) (bv (bs s))) := Lib.hid (by rw [← hwm]; exact (hS.far (by simp [Value.ownBlock]; omega) _).drew)
  have HU2 : Hid (But w.heap.size (addS qm gf g1) w wm) := Lib.hid (by rw [← hwm]; exact ((But.refl _ _ w).setCell (p := ⟨qm, 1 + c.n, none⟩) (.inl (.inl rfl)) _).drew)
  have HW := Lib.hid hwm
  have hmd : decide ((m : Int) < 256) = true := by simp; omega
  clear hl hsl hread hA hf hS hM hb hmet htab hb2 hmm hwm
  go_enter Tryz.func161, Tryz.ntmps161
  go_wp2
  go_region
  rw [HW.out]
  go_wp2
  go_loopw [36] (fun i wr => ∃ (k : Nat) (t : List F8), k ≤ n ∧ i = .int .i64 k ∧ Hid (SoFar s t q off k c) ∧ Hid (Own wr Bo 5 (.slice (some ⟨g1, 0, none⟩) M C) (bv (bs t))) ∧ Hid (Fld wr gf) ∧ Hid (MulSt wr qm gf) ∧ Hid (But w.heap.size (addS qm gf g1) w wr)) (fun i _ => n - (intOf i).toNat)
  case atStart => exact ⟨0, s, by omega, rfl, Lib.hid (SoFar.start s q off c), HS2, HF2, HM2, HU2⟩
  case round =>
    clear HS2 HF2 HM2 HU2 HW f1 c1
    obtain ⟨k, t, hk, rfl, HT, HSr, HFr, HMr, HU⟩ := hrel
    by_cases hkk : k < n
    · have htM : t.length = M := by rw [HT.out.1, HSL.out]
      have HTM := Lib.hid htM
      have hbq := HRd.out wr t HU.out HSr.out htM (fun i hi => HT.out.out hk i hi)
      obtain ⟨b, o, rfl⟩ := where_ hbq (by have := HL.out; omega)
      have hcell := cellAt hbq k (by have := HL.out; omega)
      obtain ⟨x, hx⟩ : ∃ x, coef q k = x := ⟨_, rfl⟩
      obtain ⟨y, hy⟩ : ∃ y, coef t (off + k) = y := ⟨_, rfl⟩
      have hc2 := own_cell HSr.out htM (k := off + k) (by omega)
      have hgl := (Own.blk HSr.out).2
      have hpf := HMr.out.field
      have HT2 : Hid (SoFar s (t.set (off + k) (y + x * c)) q off (k + 1) c) := Lib.hid (by rw [← hx, ← hy]; exact HT.out.step (by have := HSL.out; omega))
      rw [hx] at hcell
      rw [hy] at hc2
      have hkl : k < ls := by omega
      obtain rfl : A1 = some ⟨g1, off, none⟩ := HA.out (by omega)
      have hgz := HU.out.size
      clear hx hy hbq htM
      go_wp2_with fail
      go_region_with (first
        | (go_at_call 114; refine (mul_f gf x c _ (show Fld wr.drew gf from HFr.out)).mono ?_; rintro e w2 ⟨rfl, hF2, hP2⟩; have hc3 := (past_cell hP2 ⟨g1, off + k, none⟩ hgl (by simp; omega)).trans (show wr.drew.cell? ⟨g1, off + k, none⟩ = _ from hc2); have HS2 := Lib.hid (own_keep (w' := w2) (HSr.out.drew) (by decide) (show Fld wr.drew gf from HFr.out) hP2); have hf3 := own_frozen HS2.out HTM.out (off + k); have HM2 := Lib.hid (MulSt.past (show MulSt wr.drew qm gf from HMr.out.turn (Turn.drewN (Turn.refl 0 wr) 1)) (show Fld wr.drew gf from HFr.out) hP2); have HF2 := Lib.hid hF2; have HP2 := Lib.hid hP2; clear hF2 hP2)
        | (go_at_call 44; refine (add_still y (x * c) _).mono ?_; rintro e w3 ⟨rfl, rfl⟩))
      all_goals
        have HS3 : Hid (Own (w3.setCell ⟨g1, off + k, none⟩ (.int .u8 ((y + x * c).n : Int))) Bo 5 (.slice (some ⟨g1, 0, none⟩) M C) (bv (bs (t.set (off + k) (y + x * c))))) := Lib.hid (own_set HS2.out HTM.out)
        have HF3 : Hid (Fld (w3.setCell ⟨g1, off + k, none⟩ (.int .u8 ((y + x * c).n : Int))) gf) := Lib.hid (HF2.out.imp (fun h => h.far hgf _) (fun h => h.far hgf _))
        have HM3 : Hid (MulSt (w3.setCell ⟨g1, off + k, none⟩ (.int .u8 ((y + x * c).n : Int))) qm gf) := Lib.hid (HM2.out.store HS2.out (off + k) _)
        have HU3 : Hid (But w.heap.size (addS qm gf g1) w (w3.setCell ⟨g1, off + k, none⟩ (.int .u8 ((y + x * c).n : Int)))) := Lib.hid ((HU.out.drew.trans (But.of_past (HP2.out.mono hgz) (.inr (.inl rfl)))).setCell (p := ⟨g1, off + k, none⟩) (.inl (.inr (.inr rfl))) _)
        clear HA hc3 hf3 hc2 hcell hpf
        go_wp2
        go_roundw
        case rel => exact ⟨k + 1, _, by omega, by go_num, HT2, HS3, HF3, HM3, HU3⟩
        case measure => simp [intOf]; omega
    · obtain rfl : k = n := by omega
      go_wp2
      go_end0
      exact ⟨rfl, ⟨t, HT.out, HSr.out⟩, HFr.out, HMr.out, HU.out⟩
end Go.Proofs.YtiapokojlkdddaaGreat.Mat
