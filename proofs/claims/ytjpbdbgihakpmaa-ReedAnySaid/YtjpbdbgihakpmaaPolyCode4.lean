/- What the program's At does. -/
import Derived.Test.YtjpbdbgihakpmaaPolyCode3
namespace Go.Proofs.Ytjpbdbgihakpmaa.Poly
open Go.RowKit Go.Shelf F8 GF
attribute [local go_sem] Oper.semAt_some

/-- The field that orNew gives for pf, where a call has begun at w0 and has come to w. -/
def IsF (w0 w : World) (pf : Option Addr) (g : Nat) : Prop := (pf = none ∧ w.heap.size ≤ g) ∨ (pf = some ⟨g, 0, none⟩ ∧ g < w0.heap.size)
theorem IsF.ne {w0 w : World} {pf : Option Addr} {g k : Nat} (h : IsF w0 w pf g) (h1 : w0.heap.size ≤ k) (h2 : k < w.heap.size) : k ≠ g := by
  rcases h with ⟨_, h⟩ | ⟨_, h⟩ <;> omega
theorem IsF.past {w0 w a b : World} {pf : Option Addr} {g : Nat} (h : IsF w0 w pf g) (hw : w0.heap.size ≤ w.heap.size) (hp : Past w0.heap.size g a b) : Past w0.heap.size (rb w0 pf) a b := by
  rcases h with ⟨rfl, h⟩ | ⟨rfl, h⟩
  · exact Past.of_below (hp.below (by omega)) _
  · exact hp
theorem IsF.fldP {w0 w w' : World} {pf : Option Addr} {g : Nat} (h : IsF w0 w pf g) (hf : Fld w' g) : FldP w' pf := by
  rcases h with ⟨rfl, h⟩ | ⟨rfl, h⟩
  · exact .inl rfl
  · exact FldP.of hf
theorem IsF.far {w0 w : World} {pf A : Option Addr} {p : List F8} {g : Nat} (h : IsF w0 w pf g) (hw : w0.heap.size ≤ w.heap.size) (hfar : Far pf A p) (hb : Bytes w0 A (bs p)) : p ≠ [] → ∀ a, A = some a → a.block ≠ g ∧ a.block < w0.heap.size := by
  intro hp a ha
  obtain ⟨b, off, e⟩ := where_ hb (List.length_pos_iff.2 hp)
  obtain ⟨b', off', e', hc⟩ := cellF hb 0 (List.length_pos_iff.2 hp)
  rw [ha] at e e'
  cases e; cases e'
  have hlt := cell_lt hc
  refine ⟨?_, hlt⟩
  rcases h with ⟨rfl, h⟩ | ⟨rfl, h⟩
  · simp at hlt ⊢; omega
  · exact hfar hp _ _ ha rfl
def NewF (w0 : World) (pf : Option Addr) (w : World) (e : Ending) (w' : World) : Prop :=
  ∃ g, e = .returned (.pointer (some ⟨g, 0, none⟩)) ∧ IsF w0 w pf g ∧ Fld w' g ∧ Below w.heap.size w w'
theorem orNew_f (pf : Option Addr) (w0 w : World) (hf : FldP w0 pf) (hb : Below w0.heap.size w0 w) : Calls Try.prog 85 #[.pointer pf] w (NewF w0 pf w) := by
  have hfw : FldP w pf := hf.below hb
  refine (orNew_calls pf w hfw).mono ?_
  rintro e w' ⟨g, h1, ⟨h2, rfl⟩ | ⟨h2, h3, h4⟩⟩
  · subst h2
    exact ⟨g, h1, .inr ⟨rfl, hf.fld.lt⟩, hfw.fld, Below.refl _ _⟩
  · subst h3 h4
    exact ⟨_, h1, .inl ⟨h2, Nat.le_refl _⟩, Fld.new w, (Below.refl _ _).alloc (Nat.le_refl _) _⟩

theorem eval_drop (p : List F8) (x : F8) (k : Nat) : eval (p.drop k) x = eval (p.drop (k + 1)) x * x + coef p k := by
  by_cases h : k < p.length
  · rw [List.drop_eq_getElem_cons h, coef_of_lt h, mul_comm, F8.add_comm]
    rfl
  · rw [List.drop_eq_nil_of_le (by omega), List.drop_eq_nil_of_le (by omega), coef_of_le (by omega)]
    show (0 : F8) = 0 * x + 0
    rw [zero_mul, add_zero]
/-- At's answer. -/
def AtRes (pf : Option Addr) (y : F8) (w : World) (e : Ending) (w' : World) : Prop := e = .returned (.int .u8 y.n) ∧ FldP w' pf ∧ Past w.heap.size (rb w pf) w w'
set_option maxRecDepth 100000 in
set_option maxHeartbeats 2000000 in
theorem at_calls (A : Option Addr) (p : List F8) (m c : Nat) (w : World) (hl : p.length = m) (hb : Bytes w A (bs p)) (hm : m ≤ 5000) (pf : Option Addr) (hf : FldP w pf) (hfar : Far pf A p) (x : F8) :
    Calls Try.prog 103 #[.pointer pf, .slice A m c, .int .u8 x.n] w (AtRes pf (eval p x) w) := by
  have HB := Lib.hid hb
  have HL := Lib.hid hl
  have hB0 : Below w.heap.size w ((w.alloc (.cells #[.pointer pf] 40)).alloc (.cells #[.int .u8 x.n] 5)) := ((Below.refl _ w).alloc (Nat.le_refl _) _).alloc (by simp) _
  have hbf0 : Block ((w.alloc (.cells #[.pointer pf] 40)).alloc (.cells #[.int .u8 x.n] 5)) w.heap.size 40 #[.pointer pf] := (Block.new w _ _).alloc _
  have hbx0 : Block ((w.alloc (.cells #[.pointer pf] 40)).alloc (.cells #[.int .u8 x.n] 5)) (w.heap.size + 1) 5 #[.int .u8 x.n] := by
    have := Block.new (w.alloc (.cells #[.pointer pf] 40)) 5 #[.int .u8 x.n]; rwa [World.size_alloc] at this
  clear hb hl
  refine (callsIn_wide (n := 9)).1 (callsIn_of_wp_marks Try.func103 rfl trivial ?_ rfl)
  simp only [Try.ntmps103, List.size_toArray, List.length_cons, List.length_nil, Nat.reduceAdd, Nat.reduceSub, Array.replicate_succ, Array.replicate_zero, List.push_toArray, List.append_toArray, List.nil_append, List.cons_append]
  refine wpIn_wide.2 ?_
  go_wp2_with (first
    | (go_at_call 85; refine (orNew_f pf w _ hf hB0).mono ?_; rintro e w1 ⟨g, rfl, hg, hF1, hB1⟩; have hbf1 := hbf0.below hB1 (by simp; omega); have hbx1 := hbx0.below hB1 (by simp); have hcf1 := hbf1.cell 0; have hff1 := hbf1.frozen 0)
    | (go_at_call 110; refine (downward_calls _ _ _ _).mono ?_; rintro e w' ⟨rfl, rfl⟩))
  have hs1 : w.heap.size + 2 ≤ w1.heap.size := by have := hB1.size; simp at this; omega
  have hgne : ∀ k, w.heap.size ≤ k → k < w.heap.size + 2 → k ≠ g := fun k h1 h2 => hg.ne h1 (by simp; omega)
  have hglt := hF1.lt
  obtain ⟨w3, hw3⟩ : ∃ w3, ((w1.setCell ⟨w.heap.size, 0, none⟩ (.pointer (some ⟨g, 0, none⟩))).alloc (.cells #[.int .u8 0] 5)).alloc (.cells #[.slice A m c] 22) = w3 := ⟨_, rfl⟩
  have hbf3 : Block w3 w.heap.size 40 #[.pointer (some ⟨g, 0, none⟩)] := by rw [← hw3]; exact ((hbf1.set_ 0 _).alloc _).alloc _
  have hbx3 : Block w3 (w.heap.size + 1) 5 #[.int .u8 x.n] := by rw [← hw3]; exact ((hbx1.far (by simp) _).alloc _).alloc _
  have hF3 : Fld w3 g := by
    rw [← hw3]
    have : g ≠ w.heap.size := fun e => hgne g (by omega) (by omega) rfl
    exact (show Fld (w1.setCell ⟨w.heap.size, 0, none⟩ (.pointer (some ⟨g, 0, none⟩))) g from hF1.imp (fun h => h.far this _) (fun h => h.far this _)).alloc _ |>.alloc _
  have hz : (w1.setCell ⟨w.heap.size, 0, none⟩ (.pointer (some ⟨g, 0, none⟩))).heap.size = w1.heap.size := by simp [World.setCell]
  have hbv3 : Block w3 w1.heap.size 5 #[.int .u8 0] := by
    rw [← hw3]
    have := Block.new (w1.setCell ⟨w.heap.size, 0, none⟩ (.pointer (some ⟨g, 0, none⟩))) 5 #[.int .u8 0]
    rw [hz] at this
    exact this.alloc _
  have hba3 : Block w3 (w1.heap.size + 1) 22 #[.slice A m c] := by
    rw [← hw3]
    have := Block.new ((w1.setCell ⟨w.heap.size, 0, none⟩ (.pointer (some ⟨g, 0, none⟩))).alloc (.cells #[.int .u8 0] 5)) 22 #[.slice A m c]
    rwa [World.size_alloc, hz] at this
  have hB3 : Below w.heap.size w w3 := by
    rw [← hw3]
    exact (((hB0.trans (hB1.mono (by simp; omega))).setCell (p := ⟨w.heap.size, 0, none⟩) (Nat.le_refl _) _).alloc (by rw [hz]; omega) _).alloc (by simp [hz]; omega) _
  have hs3 : w1.heap.size + 2 ≤ w3.heap.size ∧ w3.heap.size ≤ w1.heap.size + 2 := by rw [← hw3]; simp [hz]
  have hfar2 := hg.far (by simp; omega) hfar HB.out
  rw [hw3]
  clear hw3 hz hcf1 hff1 hbf1 hbx1 hbf0 hbx0 hB0 hB1 hF1 hfar hf
  refine wpIn_wide.1 (wpIn_down (n := 9) (by omega) (Bn := w1.heap.size + 1) (m := m) (c := c) (A := A) (by omega) rfl
    (fun k r V => r = p ∧ Bytes V A (bs p) ∧ Block V (w1.heap.size + 1) 22 #[.slice A m c] ∧ Block V w.heap.size 40 #[.pointer (some ⟨g, 0, none⟩)] ∧ Block V (w.heap.size + 1) 5 #[.int .u8 x.n] ∧ Block V w1.heap.size 5 #[.int .u8 (eval (p.drop k) x).n] ∧ Fld V g ∧ Past w.heap.size g w V)
    (fun _ _ => False)
    (fun k r V V' ⟨h1, h2, h3, h4, h5, h6, h7, h8⟩ ht => ⟨h1, ht.bytes h2, ht.block h3, ht.block h4, ht.block h5, ht.block h6, h7.imp ht.block ht.block, ht.past h8 (by omega)⟩)
    (fun _ _ _ h _ => h)
    (fun k r V ⟨h1, h2, h3, _⟩ => ⟨by rw [h1, HL.out], by rw [h1]; exact h2, h3.cell 0⟩)
    p ⟨rfl, HB.out.below hB3, hba3, hbf3, hbx3, by rw [List.drop_eq_nil_of_le (by rw [HL.out]; omega)]; exact hbv3, hF3, Past.of_below hB3 _⟩
    ?a1 ?assign ?body ?done (fun _ _ h => h.elim))
  case assign =>
    intro l k y V K hK
    gi_wp2
    exact hK
  case body =>
    rintro l k r V hk ⟨rfl, h2, h3, h4, h5, h6, h7, h8⟩ hsV
    have hc4 := h4.cell 0
    have hc5 := h5.cell 0
    have hc6 := h6.cell 0
    obtain ⟨v, hv⟩ : ∃ v, eval (r.drop (k + 1)) x = v := ⟨_, rfl⟩
    obtain ⟨y, hy⟩ : ∃ y, coef r k = y := ⟨_, rfl⟩
    have HV : Hid (eval (r.drop k) x = v * x + y) := Lib.hid (by rw [eval_drop, hv, hy])
    rw [hv] at h6 hc6
    rw [hy]
    clear hv hy
    gi_wp2_with (first
      | (refine ⟨trivial, ?_⟩; gi_at_call 32; refine (callsIn_round (mul_f g v x _ h7)).mono ?_; rintro e V2 ⟨rfl, hF2, hP2⟩; have g6 := h6.past hP2 h6.lt (by omega); have gc6 := g6.cell 0; have gf6 := g6.frozen 0)
      | (refine ⟨trivial, ?_⟩; gi_at_call 40; refine (callsIn_round (add_still (v * x) y _)).mono ?_; rintro e V3 ⟨rfl, rfl⟩))
    have hcl : ∃ cs t fr, V.heap[g]? = some (Obj.cells cs t fr) := by rcases h7 with h | h <;> exact ⟨_, _, _, h⟩
    have g8 : Past w.heap.size g w (V3.setCell ⟨w1.heap.size, 0, none⟩ (.int .u8 ((v * x + y).n : Int))) := (h8.trans (hP2.mono (by omega))).setCell (p := ⟨w1.heap.size, 0, none⟩) (.inr (by simp; omega)) _
    refine ⟨(keeps_past hP2 (.inr hcl)).trans ((KeepsOthers.setCell _ _ _).from _), r, rfl, bytes_far HB.out (fun hp a ha => (hfar2 hp a ha).1) g8,
      (h3.past hP2 h3.lt (by omega)).far (by simp) _, (h4.past hP2 h4.lt (hgne _ (by omega) (by omega))).far (by simp; omega) _, (h5.past hP2 h5.lt (hgne _ (by omega) (by omega))).far (by simp; omega) _, ?_, ?_, g8⟩
    · rw [HV.out]; exact g6.set_ 0 _
    · exact hF2.imp (fun h => h.far (by simp; omega) _) (fun h => h.far (by simp; omega) _)
  case done =>
    rintro r V ⟨rfl, h2, h3, h4, h5, h6, h7, h8⟩ hD
    have hc6 := h6.cell 0
    go_wp2
    refine ⟨by simp, .inl ⟨_, _, rfl, run_takeDeferred hD, ?_⟩⟩
    have ht : Turn w.heap.size V _ := Turn.put hD rfl (by omega) (.deferred none)
    exact ⟨_, results_tmp rfl _ _ _, rfl, hg.fldP (h7.imp ht.block ht.block), hg.past (by simp; omega) (ht.past h8 (Nat.le_refl _))⟩
end Go.Proofs.Ytjpbdbgihakpmaa.Poly
