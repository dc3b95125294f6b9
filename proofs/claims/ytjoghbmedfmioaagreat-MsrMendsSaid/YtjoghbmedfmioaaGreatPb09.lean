/- Of the program, joined: PolyCode4, PolyCode5. -/
import Derived.Test.YtjoghbmedfmioaaGreatPb08
namespace Go.Proofs.YtjoghbmedfmioaaGreat.Poly
open Go.RowKit Go.Shelf F8 GF
attribute [local go_sem] Oper.semAt_some
def IsF (w0 w : World) (pf : Option Addr) (g : Nat) : Prop := (pf = none ∧ w.heap.size ≤ g) ∨ (pf = some ⟨g, 0, none⟩ ∧ g < w0.heap.size)
theorem IsF.ne {w0 w : World} {pf : Option Addr} {g k : Nat} (h : IsF w0 w pf g) (h1 : w0.heap.size ≤ k) (h2 : k < w.heap.size) : k ≠ g := by
 rcases h with ⟨_, h⟩ | ⟨_, h⟩ <;> omega
theorem IsF.past {w0 w a b : World} {pf : Option Addr} {g : Nat} (h : IsF w0 w pf g) (hw : w0.heap.size ≤ w.heap.size) (hp : Past w0.heap.size g a b) : Past w0.heap.size (rb w0 pf) a b := by
 rcases h with ⟨rfl, h⟩ | ⟨rfl, h⟩
 ·exact Past.of_below (hp.below (by omega)) _
 ·exact hp
theorem IsF.fldP {w0 w w' : World} {pf : Option Addr} {g : Nat} (h : IsF w0 w pf g) (hf : Fld w' g) : FldP w' pf := by
 rcases h with ⟨rfl, h⟩ | ⟨rfl, h⟩
 ·exact .inl rfl
 ·exact FldP.of hf
theorem IsF.far {w0 w : World} {pf A : Option Addr} {p : List F8} {g : Nat} (h : IsF w0 w pf g) (hw : w0.heap.size ≤ w.heap.size) (hfar : Far pf A p) (hb : Bytes w0 A (bs p)) : p ≠ [] → ∀ a, A = some a → a.block ≠ g ∧ a.block < w0.heap.size := by
 intro hp a ha
 obtain ⟨b, off, e⟩ := where_ hb (List.length_pos_iff.2 hp)
 obtain ⟨b', off', e', hc⟩ := cellF hb 0 (List.length_pos_iff.2 hp)
 rw [ha] at e e'
 cases e; cases e'
 have hlt := cell_lt hc
 refine ⟨?_, hlt⟩
 rcases h with ⟨rfl, h⟩ | ⟨rfl, h⟩
 ·simp at hlt ⊢; omega
 ·exact hfar hp _ _ ha rfl
def NewF (w0 : World) (pf : Option Addr) (w : World) (e : Ending) (w' : World) : Prop :=
 ∃ g, e = .returned (.pointer (some ⟨g, 0, none⟩)) ∧ IsF w0 w pf g ∧ Fld w' g ∧ Below w.heap.size w w'
theorem orNew_f (pf : Option Addr) (w0 w : World) (hf : FldP w0 pf) (hb : Below w0.heap.size w0 w) : Calls Tryz.prog 83 #[.pointer pf] w (NewF w0 pf w) := by
 have hfw : FldP w pf := hf.below hb
 refine (orNew_calls pf w hfw).mono ?_
 rintro e w' ⟨g, h1, ⟨h2, rfl⟩ | ⟨h2, h3, h4⟩⟩
 ·subst h2
  exact ⟨g, h1, .inr ⟨rfl, hf.fld.lt⟩, hfw.fld, Below.refl _ _⟩
 ·subst h3 h4
  exact ⟨_, h1, .inl ⟨h2, Nat.le_refl _⟩, Fld.new w, (Below.refl _ _).alloc (Nat.le_refl _) _⟩
theorem eval_drop (p : List F8) (x : F8) (k : Nat) : eval (p.drop k) x = eval (p.drop (k + 1)) x * x + coef p k := by
 by_cases h : k < p.length
 ·rw [List.drop_eq_getElem_cons h, coef_of_lt h, mul_comm, F8.add_comm]
  rfl
 ·rw [List.drop_eq_nil_of_le (by omega), List.drop_eq_nil_of_le (by omega), coef_of_le (by omega)]
  show (0 : F8) = 0 * x + 0
  rw [zero_mul, add_zero]
def AtRes (pf : Option Addr) (y : F8) (w : World) (e : Ending) (w' : World) : Prop := e = .returned (.int .u8 y.n) ∧ FldP w' pf ∧ Past w.heap.size (rb w pf) w w'
set_option maxRecDepth 100000 in
set_option maxHeartbeats 2000000 in
theorem at_calls (A : Option Addr) (p : List F8) (m c : Nat) (w : World) (hl : p.length = m) (hb : Bytes w A (bs p)) (hm : m ≤ 5000) (pf : Option Addr) (hf : FldP w pf) (hfar : Far pf A p) (x : F8) :
  Calls Tryz.prog 50 #[.pointer pf, .slice A m c, .int .u8 x.n] w (AtRes pf (eval p x) w) := by
 have HB := Lib.hid hb
 have HL := Lib.hid hl
 have hB0 : Below w.heap.size w ((w.alloc (.cells #[.pointer pf] 28)).alloc (.cells #[.int .u8 x.n] 5)) := ((Below.refl _ w).alloc (Nat.le_refl _) _).alloc (by simp) _
 have hbf0 : Block ((w.alloc (.cells #[.pointer pf] 28)).alloc (.cells #[.int .u8 x.n] 5)) w.heap.size 28 #[.pointer pf] := (Block.new w _ _).alloc _
 have hbx0 : Block ((w.alloc (.cells #[.pointer pf] 28)).alloc (.cells #[.int .u8 x.n] 5)) (w.heap.size + 1) 5 #[.int .u8 x.n] := by
  have := Block.new (w.alloc (.cells #[.pointer pf] 28)) 5 #[.int .u8 x.n]; rwa [World.size_alloc] at this
 clear hb hl
 refine (callsIn_wide (n := 9)).1 (callsIn_of_wp_marks Tryz.func50 rfl trivial ?_ rfl)
 simp only [Tryz.ntmps50, List.size_toArray, List.length_cons, List.length_nil, Nat.reduceAdd, Nat.reduceSub, Array.replicate_succ, Array.replicate_zero, List.push_toArray, List.append_toArray, List.nil_append, List.cons_append]
 refine wpIn_wide.2 ?_
 go_wp2_with (first
  | (go_at_call 83; refine (orNew_f pf w _ hf hB0).mono ?_; rintro e w1 ⟨g, rfl, hg, hF1, hB1⟩; have hbf1 := hbf0.below hB1 (by simp; omega); have hbx1 := hbx0.below hB1 (by simp); have hcf1 := hbf1.cell 0; have hff1 := hbf1.frozen 0)
  | (go_at_call 84; refine (downward_calls _ _ _ _).mono ?_; rintro e w' ⟨rfl, rfl⟩))
 have hs1 : w.heap.size + 2 ≤ w1.heap.size := by have := hB1.size; simp at this; omega
 have hgne : ∀ k, w.heap.size ≤ k → k < w.heap.size + 2 → k ≠ g := fun k h1 h2 => hg.ne h1 (by simp; omega)
 have hglt := hF1.lt
 obtain ⟨w3, hw3⟩ : ∃ w3, ((w1.setCell ⟨w.heap.size, 0, none⟩ (.pointer (some ⟨g, 0, none⟩))).alloc (.cells #[.int .u8 0] 5)).alloc (.cells #[.slice A m c] 34) = w3 := ⟨_, rfl⟩
 have hbf3 : Block w3 w.heap.size 28 #[.pointer (some ⟨g, 0, none⟩)] := by rw [← hw3]; exact ((hbf1.set_ 0 _).alloc _).alloc _
 have hbx3 : Block w3 (w.heap.size + 1) 5 #[.int .u8 x.n] := by rw [← hw3]; exact ((hbx1.far (by simp) _).alloc _).alloc _
 have hF3 : Fld w3 g := by
  rw [← hw3]
  have : g ≠ w.heap.size := fun e => hgne g (by omega) (by omega) rfl
  exact (show Fld (w1.setCell ⟨w.heap.size, 0, none⟩ (.pointer (some ⟨g, 0, none⟩))) g from hF1.imp (fun h => h.far this _) (fun h => h.far this _)).alloc _ |>.alloc _
 have hz : (w1.setCell ⟨w.heap.size, 0, none⟩ (.pointer (some ⟨g, 0, none⟩))).heap.size = w1.heap.size := by simp [World.setCell]
 have hbv3 : Block w3 w1.heap.size 5 #[.int .u8 0] := by
  rw [← hw3]
  have := Block.new (w1.setCell ⟨w.heap.size, 0, none⟩ (.pointer (some ⟨g, 0, none⟩))) 5 #[.int .u8 0]
  rw [hz] at this
  exact this.alloc _
 have hba3 : Block w3 (w1.heap.size + 1) 34 #[.slice A m c] := by
  rw [← hw3]
  have := Block.new ((w1.setCell ⟨w.heap.size, 0, none⟩ (.pointer (some ⟨g, 0, none⟩))).alloc (.cells #[.int .u8 0] 5)) 34 #[.slice A m c]
  rwa [World.size_alloc, hz] at this
 have hB3 : Below w.heap.size w w3 := by
  rw [← hw3]
  exact (((hB0.trans (hB1.mono (by simp; omega))).setCell (p := ⟨w.heap.size, 0, none⟩) (Nat.le_refl _) _).alloc (by rw [hz]; omega) _).alloc (by simp [hz]; omega) _
 have hs3 : w1.heap.size + 2 ≤ w3.heap.size ∧ w3.heap.size ≤ w1.heap.size + 2 := by rw [← hw3]; simp [hz]
 have hfar2 := hg.far (by simp; omega) hfar HB.out
 rw [hw3]
 clear hw3 hz hcf1 hff1 hbf1 hbx1 hbf0 hbx0 hB0 hB1 hF1 hfar hf
 refine wpIn_wide.1 (wpIn_down (n := 9) (by omega) (Bn := w1.heap.size + 1) (m := m) (c := c) (A := A) (by omega) rfl
  (fun k r V => r = p ∧ Bytes V A (bs p) ∧ Block V (w1.heap.size + 1) 34 #[.slice A m c] ∧ Block V w.heap.size 28 #[.pointer (some ⟨g, 0, none⟩)] ∧ Block V (w.heap.size + 1) 5 #[.int .u8 x.n] ∧ Block V w1.heap.size 5 #[.int .u8 (eval (p.drop k) x).n] ∧ Fld V g ∧ Past w.heap.size g w V)
  (fun _ _ => False)
  (fun k r V V' ⟨h1, h2, h3, h4, h5, h6, h7, h8⟩ ht => ⟨h1, ht.bytes h2, ht.block h3, ht.block h4, ht.block h5, ht.block h6, h7.imp ht.block ht.block, ht.past h8 (by omega)⟩)
  (fun _ _ _ h _ => h)
  (fun k r V ⟨h1, h2, h3, _⟩ => ⟨by rw [h1, HL.out], by rw [h1]; exact h2, h3.cell 0⟩)
  p ⟨rfl, HB.out.below hB3, hba3, hbf3, hbx3, by rw [List.drop_eq_nil_of_le (by rw [HL.out]; omega)]; exact hbv3, hF3, Past.of_below hB3 _⟩
  ?a1 ?assign ?body ?done (fun _ _ h => h.elim))
 case assign =>
  intro l k y V K hK
  gi_wp2
  exact hK
 case body =>
  rintro l k r V hk ⟨rfl, h2, h3, h4, h5, h6, h7, h8⟩ hsV
  have hc4 := h4.cell 0
  have hc5 := h5.cell 0
  have hc6 := h6.cell 0
  obtain ⟨v, hv⟩ : ∃ v, eval (r.drop (k + 1)) x = v := ⟨_, rfl⟩
  obtain ⟨y, hy⟩ : ∃ y, coef r k = y := ⟨_, rfl⟩
  have HV : Hid (eval (r.drop k) x = v * x + y) := Lib.hid (by rw [eval_drop, hv, hy])
  rw [hv] at h6 hc6
  rw [hy]
  clear hv hy
  gi_wp2_with (first
   | (refine ⟨trivial, ?_⟩; gi_at_call 71; refine (callsIn_round (mul_f g v x _ h7)).mono ?_; rintro e V2 ⟨rfl, hF2, hP2⟩; have g6 := h6.past hP2 h6.lt (by omega); have gc6 := g6.cell 0; have gf6 := g6.frozen 0)
   | (refine ⟨trivial, ?_⟩; gi_at_call 19; refine (callsIn_round (add_still (v * x) y _)).mono ?_; rintro e V3 ⟨rfl, rfl⟩))
  have hcl : ∃ cs t fr, V.heap[g]? = some (Obj.cells cs t fr) := by rcases h7 with h | h <;> exact ⟨_, _, _, h⟩
  have g8 : Past w.heap.size g w (V3.setCell ⟨w1.heap.size, 0, none⟩ (.int .u8 ((v * x + y).n : Int))) := (h8.trans (hP2.mono (by omega))).setCell (p := ⟨w1.heap.size, 0, none⟩) (.inr (by simp; omega)) _
  refine ⟨(keeps_past hP2 (.inr hcl)).trans ((KeepsOthers.setCell _ _ _).from _), r, rfl, bytes_far HB.out (fun hp a ha => (hfar2 hp a ha).1) g8,
   (h3.past hP2 h3.lt (by omega)).far (by simp) _, (h4.past hP2 h4.lt (hgne _ (by omega) (by omega))).far (by simp; omega) _, (h5.past hP2 h5.lt (hgne _ (by omega) (by omega))).far (by simp; omega) _, ?_, ?_, g8⟩
  ·rw [HV.out]; exact g6.set_ 0 _
  ·exact hF2.imp (fun h => h.far (by simp; omega) _) (fun h => h.far (by simp; omega) _)
 case done =>
  rintro r V ⟨rfl, h2, h3, h4, h5, h6, h7, h8⟩ hD
  have hc6 := h6.cell 0
  go_wp2
  refine ⟨by simp, .inl ⟨_, _, rfl, run_takeDeferred hD, ?_⟩⟩
  have ht : Turn w.heap.size V _ := Turn.put hD rfl (by omega) (.deferred none)
  exact ⟨_, results_tmp rfl _ _ _, rfl, hg.fldP (h7.imp ht.block ht.block), hg.past (by simp; omega) (ht.past h8 (Nat.le_refl _))⟩
end Go.Proofs.YtjoghbmedfmioaaGreat.Poly

namespace Go.Proofs.YtjoghbmedfmioaaGreat.Poly
open Go.RowKit Go.Shelf F8 GF
attribute [local go_sem] Oper.semAt_some
section
variable {B : Nat} {S : Nat → Prop} {w w' : World}
theorem But.blk {k : Nat} {t : TypeId} {cs : Array Value} (h : But B S w w') (hb : Block w k t cs) (h1 : k < B) (h2 : ¬ S k) : Block w' k t cs := (h.block k h1 h2).trans hb
theorem But.past {g : Nat} (h : But B (· = g) w w') : Past B g w w' := ⟨h.os, h.tape, h.output, h.size, fun k hk hn => h.block k hk hn⟩
theorem keeps_but {l : Nat} (h : But w.heap.size S w w') (hS : ∀ k o, S k → w.heap[k]? = some o → o.isCells = true) : KeepsFrom l w w' :=
 ⟨h.size, fun k o _ hk ho => by
  refine (h.block k (Array.getElem?_eq_some_iff.1 hk).1 ?_).trans hk
  intro hs
  rw [hS k o hs hk] at ho
  cases ho⟩
theorem Block.isCells {k : Nat} {t : TypeId} {cs : Array Value} {o : Obj} (h : Block w k t cs) (ho : w.heap[k]? = some o) : o.isCells = true := by
 unfold Block at h; rw [h] at ho; cases ho; rfl
theorem Fld.isCells {g : Nat} {o : Obj} (h : Fld w g) (ho : w.heap[g]? = some o) : o.isCells = true := by
 rcases h with h | h <;> exact Block.isCells h ho
end
def hi (q : List F8) (k : Nat) : List F8 := List.replicate k 0 ++ q.drop k
theorem coef_hi (q : List F8) (k i : Nat) : coef (hi q k) i = if i < k then 0 else coef q i := by
 unfold coef hi
 rw [List.getD_eq_getElem?_getD, List.getD_eq_getElem?_getD, List.getElem?_append]
 simp only [List.length_replicate, List.getElem?_replicate, List.getElem?_drop]
 by_cases h : i < k
 ·simp [h]
 ·simp [h, show k + (i - k) = i by omega]
theorem hi_step (q : List F8) (k : Nat) : Eqv (hi q k) (padd (hi q (k + 1)) (mono k (coef q k))) := fun i => by
 rw [coef_padd, coef_hi, coef_hi, coef_mono]
 by_cases h : i < k
 ·rw [if_pos h, if_pos (by omega), if_neg (by omega), add_zero]
 ·by_cases e : i = k
  ·subst e; rw [if_neg h, if_pos (by omega), if_pos rfl, zero_add]
  ·rw [if_neg h, if_neg (by omega), if_neg e, add_zero]
theorem hi_all {q : List F8} {k : Nat} (h : q.length ≤ k) : Eqv (hi q k) [] := fun i => by
 rw [coef_hi, coef_nil]
 split
 ·rfl
 ·exact coef_of_le (by omega)
theorem hi_zero (q : List F8) : Eqv (hi q 0) q := fun i => by rw [coef_hi, if_neg (by omega)]
theorem slice_own (g M k : Nat) (hk : k < M) (w : World) :
  (Instr.slice 34 (.slice (some ⟨g, 0, none⟩) M M) (some (.int .i64 (k : Int))) none none).run Tryz.prog w = .ok (.slice (some ⟨g, k, none⟩) (M - k) (M - k)) w := by
 obtain ⟨i, hi, _, hi2, _⟩ := info_parts info_u8
 have hne : ¬ M = k := by omega
 simp [Instr.slice, Instr.sliceBounds, Instr.sliceBound, run_underlying Tryz.underlying34, asIntOf, sizeOf, typeInfo, Sem.run_bind, hi, hi2, addr_add]
 rw [if_pos (by omega), if_neg hne]
theorem trim_zeros (M : Nat) : trim ([] ++ List.replicate M (0 : F8)) = [] := by
 induction M with
 | zero => rfl
 | succ n ih => rw [List.nil_append, List.replicate_succ, trim_cons_of (by simpa using ih), if_pos rfl]
theorem own_trimmed {s : List F8} (h : len s = s.length) : trim s = s := by rw [trim_take_len, h, List.take_length]
theorem Cut.far {A A2 : Option Addr} {p : List F8} {w : World} {g B0 : Nat} (h : Cut A A2) (hb : Bytes w A (bs p)) (hf : p ≠ [] → ∀ a, A = some a → a.block ≠ g ∧ a.block < B0) : trim p ≠ [] → ∀ a, A2 = some a → a.block ≠ g ∧ a.block < B0 := by
 intro hp a ha
 have hp2 : p ≠ [] := by rintro rfl; exact hp rfl
 obtain ⟨b, off, e⟩ := where_ hb (List.length_pos_iff.2 hp2)
 rw [h.same b off e] at ha
 exact hf hp2 a ha
def MulRes (pf : Option Addr) (w : World) (r : List F8) (e : Ending) (w' : World) : Prop := PolyRes pf w w' e r
def ProdAt (V : World) (gp M : Nat) (P Q : List F8) (k : Nat) : Prop := ∃ s : List F8, s.length = M ∧ Eqv s (pmul (hi Q k) P) ∧ Block V gp 5 (bv (bs s)).toArray
theorem ProdAt.turn {V V' : World} {B gp M k : Nat} {P Q : List F8} (h : ProdAt V gp M P Q k) (t : Turn B V V') : ProdAt V' gp M P Q k := by
 obtain ⟨s, h1, h2, h3⟩ := h
 exact ⟨s, h1, h2, t.block h3⟩
set_option maxRecDepth 100000 in
set_option maxHeartbeats 4000000 in
theorem mul_pcalls (A B : Option Addr) (p q : List F8) (m n c d : Nat) (w : World) (hl : p.length = m) (hl2 : q.length = n) (hb : Bytes w A (bs p)) (hb2 : Bytes w B (bs q)) (hc : m ≤ c) (hd : n ≤ d) (hm : m ≤ 5000) (hn : n ≤ 5000) (pf : Option Addr) (hf : FldP w pf) (hfar : Far pf A p) (hfar2 : Far pf B q) :
  Calls Tryz.prog 62 #[.pointer pf, .slice A m c, .slice B n d] w (MulRes pf w (trim (pmul p q))) := by
 obtain ⟨P, hP⟩ : ∃ P, trim p = P := ⟨_, rfl⟩
 obtain ⟨Q, hQ⟩ : ∃ Q, trim q = Q := ⟨_, rfl⟩
 obtain ⟨lp, hlp⟩ : ∃ k, len p = k := ⟨_, rfl⟩
 obtain ⟨lq, hlq⟩ : ∃ k, len q = k := ⟨_, rfl⟩
 have hPl : P.length = lp := by rw [← hP, ← hlp]; rfl
 have hQl : Q.length = lq := by rw [← hQ, ← hlq]; rfl
 have hlp1 : lp ≤ m := by rw [← hlp, ← hl]; exact len_le p
 have hlq1 : lq ≤ n := by rw [← hlq, ← hl2]; exact len_le q
 have HB := Lib.hid hb
 have HB2 := Lib.hid hb2
 have HP := Lib.hid hP
 have HQ := Lib.hid hQ
 have HLP := Lib.hid hlp
 have HLQ := Lib.hid hlq
 have HPL := Lib.hid hPl
 have HQL := Lib.hid hQl
 have hB0 : Below w.heap.size w ((w.alloc (.cells #[.pointer pf] 28)).alloc (.cells #[.slice A m c] 34)) := ((Below.refl _ w).alloc (Nat.le_refl _) _).alloc (by simp) _
 have hbf0 : Block ((w.alloc (.cells #[.pointer pf] 28)).alloc (.cells #[.slice A m c] 34)) w.heap.size 28 #[.pointer pf] := (Block.new w _ _).alloc _
 have hba0 : Block ((w.alloc (.cells #[.pointer pf] 28)).alloc (.cells #[.slice A m c] 34)) (w.heap.size + 1) 34 #[.slice A m c] := by
  have := Block.new (w.alloc (.cells #[.pointer pf] 28)) 34 #[.slice A m c]; rwa [World.size_alloc] at this
 clear hb hb2 hP hQ hlp hlq hPl hQl
 refine (callsIn_wide (n := 9)).1 (callsIn_of_wp_marks Tryz.func62 rfl trivial ?_ rfl)
 simp only [Tryz.ntmps62, List.size_toArray, List.length_cons, List.length_nil, Nat.reduceAdd, Nat.reduceSub, Array.replicate_succ, Array.replicate_zero, List.push_toArray, List.append_toArray, List.nil_append, List.cons_append]
 refine wpIn_wide.2 ?_
 go_wp2_with fail
 refine (trimmed_calls A p m c _ hl (HB.out.below hB0) hc (by omega)).mono ?_
 rintro e w1 ⟨A2, rfl, hcut, hB1⟩
 rw [HLP.out]
 go_wp2_with fail
 refine (trimmed_calls B q n d _ hl2 ((HB2.out.below hB0).below hB1) hd (by omega)).mono ?_
 rintro e w2 ⟨B2, rfl, hcut2, hB2⟩
 rw [HLQ.out]
 have hbf2 := (hbf0.below hB1 (by simp; omega)).below hB2 (by have := hB1.size; simp at this; omega)
 have hba2 := (hba0.below hB1 (by simp)).below hB2 (by have := hB1.size; simp at this; omega)
 have hca2 := hba2.cell 0
 have hfa2 := hba2.frozen 0
 have hcf2 := hbf2.cell 0
 have hs1 := hB1.size
 have hs2 := hB2.size
 simp only [World.size_alloc] at hs1
 have hBw : Below w.heap.size w w2 := (hB0.trans (hB1.mono (by simp; omega))).trans (hB2.mono (by omega))
 by_cases hz : lp = 0 ∨ lq = 0
 ·have hzero : trim (pmul p q) = [] := by
   rcases hz with h | h
   ·exact trim_nil_iff.2 (pmul_zero_left q (len_zero.1 (by rw [HLP.out]; exact h)))
   ·exact trim_nil_iff.2 ((pmul_comm p q).trans (pmul_zero_left p (len_zero.1 (by rw [HLQ.out]; exact h))))
  have HZ := Lib.hid hzero
  have hBw2 := hBw.setCell (p := ⟨w.heap.size + 1, 0, none⟩) (by simp) (.slice A2 lp c)
  by_cases z1 : lp = 0
  ·have k1 : ((lp : Int) == 0) = true := by rw [z1]; rfl
   clear hz hzero z1
   go_wp2
   refine ⟨_, results_tmp rfl _ _ _, none, 0, ?_, ?_, ?_, hf.below hBw2, Past.of_below hBw2 _⟩
   ·rw [HZ.out]; rfl
   ·rw [HZ.out]; exact Nat.le_refl _
   ·rw [HZ.out]; exact Own.nil _ _ _
  ·have k1 : ((lp : Int) == 0) = false := by simp; omega
   have z2 : lq = 0 := by omega
   have k2 : ((lq : Int) == 0) = true := by rw [z2]; rfl
   clear hz hzero z1 z2
   go_wp2
   refine ⟨_, results_tmp rfl _ _ _, none, 0, ?_, ?_, ?_, hf.below hBw2, Past.of_below hBw2 _⟩
   ·rw [HZ.out]; rfl
   ·rw [HZ.out]; exact Nat.le_refl _
   ·rw [HZ.out]; exact Own.nil _ _ _
 ·have k1 : ((lp : Int) == 0) = false := by simp; omega
  have k2 : ((lq : Int) == 0) = false := by simp; omega
  have p1 : 1 ≤ lp := by omega
  have p2 : 1 ≤ lq := by omega
  obtain ⟨M, hM⟩ : ∃ M, lp + lq - 1 = M := ⟨_, rfl⟩
  have hMI : (lp : Int) + (lq : Int) - 1 = (M : Int) := by omega
  have HMI := Lib.hid hMI
  have HM := Lib.hid hM
  have hM2 : M ≤ 50000 := by omega
  clear hz hMI hM
  go_wp2_with fail
  refine (orNew_f pf w _ hf (hBw.setCell (p := ⟨w.heap.size + 1, 0, none⟩) (by simp) _)).mono ?_
  rintro e w4 ⟨g, rfl, hg, hF4, hB4⟩
  obtain ⟨wm, hmk, hOm, hBm⟩ := make_run (w4.setCell ⟨w.heap.size, 0, none⟩ (.pointer (some ⟨g, 0, none⟩))) M (by omega)
  rw [← HMI.out] at hmk
  have hbf4 := (hbf2.far (p := ⟨w.heap.size + 1, 0, none⟩) (by simp) (.slice A2 lp c)).below hB4 (by simp [World.setCell]; omega)
  have hba4 := (hba2.set_ 0 (.slice A2 lp c)).below hB4 (by simp [World.setCell]; omega)
  have hcf4 := hbf4.cell 0
  have hff4 := hbf4.frozen 0
  have hca4 := (hba4.far (p := ⟨w.heap.size, 0, none⟩) (by simp) (.pointer (some ⟨g, 0, none⟩))).cell 0
  go_wp2_with (go_at_call 84; refine (downward_calls _ _ _ _).mono ?_; rintro e w' ⟨rfl, rfl⟩)
  have hs4 := hB4.size
  have hz4 : (w4.setCell ⟨w.heap.size, 0, none⟩ (.pointer (some ⟨g, 0, none⟩))).heap.size = w4.heap.size := by simp [World.setCell]
  have hz2 : (w2.setCell ⟨w.heap.size + 1, 0, none⟩ (.slice A2 lp c)).heap.size = w2.heap.size := by simp [World.setCell]
  rw [hz2] at hs4
  rw [hz4] at hOm hBm
  have hBlk := Own.block hOm
  have hgp := hBlk.lt
  have hglt := hF4.lt
  have hgne : ∀ k, w.heap.size ≤ k → k < w2.heap.size → k ≠ g := fun k h1 h2 => hg.ne h1 (by rw [hz2]; exact h2)
  obtain ⟨w5, hw5⟩ : ∃ w5, (wm.alloc (.cells #[.slice (some ⟨w4.heap.size, 0, none⟩) M M] 34)).alloc (.cells #[.slice B2 lq d] 34) = w5 := ⟨_, rfl⟩
  have hbf5 : Block w5 w.heap.size 28 #[.pointer (some ⟨g, 0, none⟩)] := by rw [← hw5]; exact (((hbf4.set_ 0 _).below hBm (by omega)).alloc _).alloc _
  have hba5 : Block w5 (w.heap.size + 1) 34 #[.slice A2 lp c] := by rw [← hw5]; exact (((hba4.far (p := ⟨w.heap.size, 0, none⟩) (by simp) _).below hBm (by omega)).alloc _).alloc _
  have hgp5 : Block w5 w4.heap.size 5 (bv (bs (List.replicate M 0))).toArray := by rw [← hw5]; exact (hBlk.alloc _).alloc _
  have hbp5 : Block w5 wm.heap.size 34 #[.slice (some ⟨w4.heap.size, 0, none⟩) M M] := by rw [← hw5]; exact (Block.new _ _ _).alloc _
  have hbb5 : Block w5 (wm.heap.size + 1) 34 #[.slice B2 lq d] := by
   rw [← hw5]; have := Block.new (wm.alloc (.cells #[.slice (some ⟨w4.heap.size, 0, none⟩) M M] 34)) 34 #[.slice B2 lq d]; rwa [World.size_alloc] at this
  have hF5 : Fld w5 g := by
   rw [← hw5]
   have e1 : g ≠ w.heap.size := fun e => hgne g (by omega) (by omega) rfl
   exact ((show Fld (w4.setCell ⟨w.heap.size, 0, none⟩ (.pointer (some ⟨g, 0, none⟩))) g from hF4.imp (fun h => h.far e1 _) (fun h => h.far e1 _)).below hBm hglt).alloc _ |>.alloc _
  have hB5 : Below w.heap.size w w5 := by
   rw [← hw5]
   exact ((((((hBw.setCell (p := ⟨w.heap.size + 1, 0, none⟩) (by simp) _).trans (hB4.mono (by rw [hz2]; omega))).setCell (p := ⟨w.heap.size, 0, none⟩) (Nat.le_refl _) _).trans (hBm.mono (by omega))).alloc (by omega) _).alloc (by simp; omega) _)
  have hs5 : wm.heap.size + 2 ≤ w5.heap.size ∧ w5.heap.size ≤ wm.heap.size + 2 := by rw [← hw5]; simp
  have hfa := hcut.far HB.out (hg.far (by rw [hz2]; omega) hfar HB.out)
  have hfb := hcut2.far HB2.out (hg.far (by rw [hz2]; omega) hfar2 HB2.out)
  have hbA5 := hcut.bytes (HB.out.below hB5)
  have hbB5 := hcut2.bytes (HB2.out.below hB5)
  have HBA : Hid (Bytes w A2 (bs (trim p))) := Lib.hid (hcut.bytes HB.out)
  have HBB : Hid (Bytes w B2 (bs (trim q))) := Lib.hid (hcut2.bytes HB2.out)
  rw [HP.out] at hfa hbA5 HBA
  rw [HQ.out] at hfb hbB5 HBB
  have hmx : Tryz.prog.follows .mixedOrders = true := by kernel_rfl
  rw [hw5]
  clear hw5 hmk hcf4 hff4 hca4 hbf4 hba4 hBlk hOm hz4 hz2 hF4 hfar hfar2 hf hbf2 hba2 hca2 hfa2 hcf2 hbf0 hba0
  refine wpIn_wide.1 (wpIn_down (n := 9) (by omega) (Bn := wm.heap.size + 1) (m := lq) (c := d) (A := B2) (by omega) rfl
   (fun k r V => r = Q ∧ Bytes V B2 (bs Q) ∧ Block V (wm.heap.size + 1) 34 #[.slice B2 lq d] ∧ Block V w.heap.size 28 #[.pointer (some ⟨g, 0, none⟩)] ∧ Block V (w.heap.size + 1) 34 #[.slice A2 lp c] ∧ Block V wm.heap.size 34 #[.slice (some ⟨w4.heap.size, 0, none⟩) M M] ∧ ProdAt V w4.heap.size M P Q k ∧ Fld V g ∧ Past w.heap.size g w V)
   (fun _ _ => False)
   (fun k r V V' ⟨h1, h2, h3, h4, h5, h6, h7, h8, h9⟩ ht => ⟨h1, ht.bytes h2, ht.block h3, ht.block h4, ht.block h5, ht.block h6, h7.turn ht, h8.imp ht.block ht.block, ht.past h9 (by omega)⟩)
   (fun _ _ _ h _ => h)
   (fun k r V ⟨h1, h2, h3, _⟩ => ⟨by rw [h1, HQL.out], by rw [h1]; exact h2, h3.cell 0⟩)
   Q ⟨rfl, hbB5, hbb5, hbf5, hba5, hbp5, ⟨List.replicate M 0, by simp, ((trim_nil_iff (p := List.replicate M (0 : F8))).1 (by rw [show List.replicate M (0 : F8) = [] ++ List.replicate M 0 from rfl]; exact trim_zeros M)).trans (pmul_zero_left P (hi_all (by rw [HQL.out]; omega))).symm, hgp5⟩, hF5, Past.of_below hB5 _⟩
   ?a1 ?assign ?body ?done (fun _ _ h => h.elim))
  case assign =>
   intro l k y V K hK
   gi_wp2
   exact hK
  case body =>
   rintro l k r V hk ⟨rfl, h2, h3, h4, h5, h6, ⟨s, hsl, hse, h7⟩, h8, h9⟩ hsV
   have hc4 := h4.cell 0
   have hc5 := h5.cell 0
   have hc6 := h6.cell 0
   obtain ⟨y, hy⟩ : ∃ y, coef r k = y := ⟨_, rfl⟩
   rw [hy]
   have HY := Lib.hid hy
   have HSL := Lib.hid hsl
   have HSE := Lib.hid hse
   have hkM : k < M := by have := HM.out; omega
   have hsx := slice_own w4.heap.size M k hkM
   have hbA : Bytes V A2 (bs P) := bytes_far HBA.out (fun hp a ha => (hfa hp a ha).1) h9
   have HBV := Lib.hid hbA
   clear hy hsl hse hbA
   gi_wp2
   refine region_round_tail 6 hmx (by kernel_rfl) (by kernel_rfl) (fun h => by obtain ⟨a, w, h⟩ := h; exact h) ?_
   simp only [List.take_succ_cons, List.take_zero, List.drop_succ_cons, List.drop_zero]
   iterate 6 still_step
   refine wpStill_nil ?_
   go_wp2_with fail
   refine (addTimes_calls w4.heap.size g w4.heap.size M M k (M - k) (M - k) (some ⟨w4.heap.size, k, none⟩) A2 s P lp c y V.drew h8 (Own.drew (Own.of_block h7 (Nat.le_refl _) (by rw [bvs_length, HSL.out]) (by simp only [maxLen]; omega))) HSL.out HPL.out (fun _ => rfl) (by rw [HSL.out]; have := HM.out; omega) (by have := HM.out; omega) HBV.out.drew (fun hp a ha => ⟨by have := (hfa hp a ha).2; omega, (hfa hp a ha).1⟩) (by omega) (by rw [HSL.out]; omega)).mono ?_
   rintro e V2 ⟨rfl, ⟨s2, g1, g2, g3⟩, hF2, hU2⟩
   rw [HSL.out] at g1
   have G1 := Lib.hid g1
   have G2 := Lib.hid g2
   clear g1 g2
   go_wp2
   have hsz2 : w.heap.size ≤ V.drew.heap.size := by show w.heap.size ≤ V.heap.size; omega
   have hP2 : Past w.heap.size g w V2 := h9.drew.trans (hU2.mono (S' := (· = g)) hsz2 (fun i hi h => by omega)).past
   have hlt : ∀ {i t cs}, Block V i t cs → i < V.drew.heap.size := fun h => h.lt
   refine ⟨((KeepsOthers.drew V).from _).trans (keeps_but hU2 (fun i o hi ho => by rcases hi with rfl | rfl; exact Block.isCells h7 ho; exact Fld.isCells h8 ho)), r, rfl, bytes_far HBB.out (fun hp a ha => (hfb hp a ha).1) hP2,
    hU2.blk h3.drew (hlt h3) (by omega), hU2.blk h4.drew (hlt h4) (by have := hgne w.heap.size (by omega) (by omega); omega), hU2.blk h5.drew (hlt h5) (by have := hgne (w.heap.size + 1) (by omega) (by omega); omega), hU2.blk h6.drew (hlt h6) (by omega), ⟨s2, G1.out, ?_, Own.block g3⟩, hF2, hP2⟩
   have hst := hi_step r k
   rw [HY.out] at hst
   exact G2.out.trans ((padd_congr HSE.out (Eqv.refl _)).trans ((padd_pmul _ _ _).symm.trans (pmul_congr_left P hst.symm)))
  case done =>
   rintro r V ⟨rfl, h2, h3, h4, h5, h6, ⟨s, hsl, hse, h7⟩, h8, h9⟩ hD
   have hc6 := h6.cell 0
   have HSL := Lib.hid hsl
   have HSE := Lib.hid hse
   clear hsl hse
   go_wp2
   refine ⟨by simp, .inl ⟨_, _, rfl, run_takeDeferred hD, ?_⟩⟩
   have ht : Turn w.heap.size V _ := Turn.put hD rfl (by omega) (.deferred none)
   refine ⟨_, results_tmp rfl _ _ _, ?_⟩
   have e1 : Eqv s (pmul p q) := HSE.out.trans ((pmul_congr (hi_zero r) (Eqv.refl P)).trans ((pmul_congr (by rw [← HQ.out]; exact trim_eqv q) (by rw [← HP.out]; exact trim_eqv p)).trans (pmul_comm q p)))
   have e2 : len s = s.length := by
    rw [len_congr e1, len_pmul (by rw [HLP.out]; omega) (by rw [HLQ.out]; omega), HLP.out, HLQ.out, HSL.out]; exact HM.out
   have e3 : trim (pmul p q) = s := by rw [← trim_congr e1]; exact own_trimmed e2
   rw [e3]
   refine ⟨some ⟨w4.heap.size, 0, none⟩, M, by rw [HSL.out]; rfl, by rw [HSL.out]; exact Nat.le_refl _, ?_, hg.fldP (h8.imp ht.block ht.block), hg.past (by simp [World.setCell]; omega) (ht.past h9 (Nat.le_refl _))⟩
   rw [HSL.out]
   exact Own.of_block (ht.block h7) (by omega) (by rw [bvs_length, HSL.out]) (by simp only [maxLen]; omega)
end Go.Proofs.YtjoghbmedfmioaaGreat.Poly
