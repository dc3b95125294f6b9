/- Of the program, joined: PolyCode6. -/
import Derived.Test.YtjoghbmedfmioabGreatPt06
namespace Go.Proofs.YtjoghbmedfmioabGreat.Poly
open Go.RowKit Go.Shelf F8 GF
attribute [local go_sem] Oper.semAt_some
def DivAt (V : World) (gq nq dg k : Nat) (P Q r : List F8) : Prop :=
 ∃ qt : List F8, qt.length = nq ∧ Block V gq 5 (bv (bs qt)).toArray ∧ Eqv P (padd (pmul qt Q) r) ∧ Bdd r (max k dg) ∧ ∀ i, i + dg < k → coef qt i = 0
theorem DivAt.turn {V V' : World} {B gq nq dg k : Nat} {P Q r : List F8} (h : DivAt V gq nq dg k P Q r) (t : Turn B V V') : DivAt V' gq nq dg k P Q r := by
 obtain ⟨qt, h1, h2, h3⟩ := h
 exact ⟨qt, h1, t.block h2, h3⟩
theorem set_mono {qt : List F8} {i : Nat} (y : F8) (hi : i < qt.length) (h0 : coef qt i = 0) : Eqv (qt.set i y) (padd qt (mono i y)) := fun j => by
 rw [coef_set qt i y hi, coef_padd, coef_mono]
 by_cases e : j = i
 ·subst e; rw [if_pos rfl, if_pos rfl, h0, zero_add]
 ·rw [if_neg e, if_neg e, add_zero]
theorem slice_own2 (g M C k : Nat) (hk : k < M) (hM : M ≤ C) (w : World) :
  (Instr.slice 35 (.slice (some ⟨g, 0, none⟩) M C) (some (.int .i64 (k : Int))) none none).run Tryz.prog w = .ok (.slice (some ⟨g, k, none⟩) (M - k) (C - k)) w := by
 obtain ⟨i, hi, _, hi2, _⟩ := info_parts info_u8
 have hne : ¬ C = k := by omega
 simp [Instr.slice, Instr.sliceBounds, Instr.sliceBound, run_underlying Tryz.underlying35, asIntOf, sizeOf, typeInfo, Sem.run_bind, hi, hi2, addr_add]
 rw [if_pos (by omega), if_neg hne]
theorem Own.isCells {w : World} {B g n c : Nat} {e : TypeId} {xs : List Value} {o : Obj} (h : Own w B e (.slice (some ⟨g, 0, none⟩) n c) xs) (ho : w.heap[g]? = some o) : o.isCells = true := by
 rcases h.2 with ⟨h1, _⟩ | ⟨g', cap, cur, h1, _, h3, _⟩
 ·cases h1
 ·injection h1 with h1
  injection h1 with h1
  injection h1 with h1
  subst h1
  rw [h3] at ho
  cases ho
  rfl
theorem div_round {P Q r r' qt : List F8} {k dg : Nat} {y : F8} (hk : dg ≤ k) (hQ : Q.length = dg + 1) (hQ0 : coef Q dg ≠ 0) (hy : y = coef r k / coef Q dg) (hi : k - dg < qt.length)
  (h1 : Eqv P (padd (pmul qt Q) r)) (h2 : Bdd r (max (k + 1) dg)) (h3 : ∀ i, i + dg < k + 1 → coef qt i = 0) (hr : Eqv r' (padd r (pmul (mono (k - dg) y) Q))) :
  Eqv P (padd (pmul (qt.set (k - dg) y) Q) r') ∧ Bdd r' (max k dg) ∧ ∀ i, i + dg < k → coef (qt.set (k - dg) y) i = 0 := by
 refine ⟨?_, ?_, ?_⟩
 ·refine h1.trans ?_
  have e1 := (pmul_congr_left Q (set_mono y hi (h3 (k - dg) (by omega)))).trans (padd_pmul qt (mono (k - dg) y) Q)
  intro i
  rw [coef_padd, coef_padd, e1 i, hr i, coef_padd, coef_padd]
  rw [show coef (pmul qt Q) i + coef (pmul (mono (k - dg) y) Q) i + (coef r i + coef (pmul (mono (k - dg) y) Q) i) = coef (pmul qt Q) i + coef r i + (coef (pmul (mono (k - dg) y) Q) i + coef (pmul (mono (k - dg) y) Q) i) by ac_rfl, add_self, add_zero]
 ·intro i hi2
  rw [hr i, coef_padd, coef_mono_pmul, if_neg (by omega)]
  by_cases e : i = k
  ·subst e
   rw [show i - (i - dg) = dg by omega, hy, div_mul _ hQ0, add_self]
  ·rw [h2 i (by omega), coef_of_le (p := Q) (by omega), mul_zero, add_zero]
 ·intro i hi2
  rw [coef_set qt _ y hi, if_neg (by omega)]
  exact h3 i (by omega)
theorem div_f (gf : Nat) (x y : F8) (hy : y ≠ 0) (w : World) (hf : Fld w gf) :
  Calls Tryz.prog 85 #[.pointer (some ⟨gf, 0, none⟩), .int .u8 x.n, .int .u8 y.n] w fun e w' => e = .returned (.tuple #[.int .u8 (x / y).n, .bool true]) ∧ Fld w' gf ∧ Past w.heap.size gf w w' :=
 (div_calls (some ⟨gf, 0, none⟩) x.n y.n x.h y.h (n_ne_zero.2 hy) w (FldP.of hf)).mono fun _ _ ⟨h1, h2, h3⟩ => ⟨h1, h2.fld, h3⟩
theorem div_end {p q P Q r qt : List F8} {dg la nq : Nat} (hP : trim p = P) (hQ : trim q = Q) (hla : P.length = la) (hdg : len q = dg + 1) (hnq : la - dg = nq) (hl : qt.length = nq)
  (h1 : Eqv P (padd (pmul qt Q) r)) (h2 : Bdd r dg) : DivBy p q qt (trim r) := by
 have hlr : len r ≤ dg := len_le_of_bdd h2
 refine ⟨?_, trim_trim r, ?_, by rw [len_trim, hdg]; omega⟩
 ·by_cases h0 : nq = 0
  ·have : qt = [] := List.eq_nil_of_length_eq_zero (by omega)
   rw [this]; rfl
  ·have hPla : len P = la := by rw [← hP, len_trim]; rw [← hla, ← hP]; rfl
   have e1 : len (pmul qt Q) = la := by
    have b1 : Bdd (pmul qt Q) la := fun i hi => by
     have := h1 i
     rw [coef_padd, h2 i (by omega), add_zero, coef_of_le (by omega)] at this
     exact this.symm
    have n1 : ¬ coef (pmul qt Q) (la - 1) = 0 := by
     have := h1 (la - 1)
     rw [coef_padd, h2 (la - 1) (by omega), add_zero] at this
     rw [← this]
     have hl := lead (p := P) (by omega)
     rwa [hPla] at hl
    have := len_top (k := la - 1) n1 (by rwa [show la - 1 + 1 = la by omega])
    omega
   have hq0 : 0 < len qt := by
    rcases Nat.eq_zero_or_pos (len qt) with h | h
    ·have := len_zero.2 (pmul_zero_left Q (len_zero.1 h))
     omega
    ·exact h
   have hQ0 : len Q = dg + 1 := by rw [← hQ, len_trim, hdg]
   have := len_pmul hq0 (by rw [hQ0]; omega)
   rw [e1, hQ0] at this
   exact own_trimmed (by omega)
 ·refine (show Eqv p P from by rw [← hP]; exact (trim_eqv p).symm).trans (h1.trans (padd_congr (pmul_congr (Eqv.refl _) (by rw [← hQ]; exact trim_eqv q)) (trim_eqv r).symm))
def DivZero (pf : Option Addr) (w : World) (e : Ending) (w' : World) : Prop := PolyRes2 pf w w' e [] [] 30
def DivRes (pf : Option Addr) (w : World) (p q : List F8) (e : Ending) (w' : World) : Prop := ∃ u v, DivBy p q u v ∧ PolyRes2 pf w w' e u v 0
set_option maxRecDepth 100000 in
set_option maxHeartbeats 4000000 in
theorem div_pzero (A B : Option Addr) (q : List F8) (m n c d : Nat) (w : World) (hl2 : q.length = n) (hb2 : Bytes w B (bs q)) (hd : n ≤ d) (hn : n ≤ 5000) (pf : Option Addr) (hf : FldP w pf) (hz : trim q = []) :
  Calls Tryz.prog 84 #[.pointer pf, .slice A m c, .slice B n d] w (DivZero pf w) := by
 have h0 : len q = 0 := by unfold len; rw [hz]; rfl
 have H0 := Lib.hid h0
 have hB0 : Below w.heap.size w ((w.alloc (.cells #[.pointer pf] 30)).alloc (.cells #[.slice B n d] 35)) := ((Below.refl _ w).alloc (Nat.le_refl _) _).alloc (by simp) _
 clear hz h0
 refine (callsIn_wide (n := 9)).1 (callsIn_of_wp_marks Tryz.func84 rfl trivial ?_ rfl)
 simp only [Tryz.ntmps84, List.size_toArray, List.length_cons, List.length_nil, Nat.reduceAdd, Nat.reduceSub, Array.replicate_succ, Array.replicate_zero, List.push_toArray, List.append_toArray, List.nil_append, List.cons_append]
 refine wpIn_wide.2 ?_
 go_wp2_with fail
 refine (degree_calls B q n d _ hl2 (hb2.below hB0) hd (by omega)).mono ?_
 rintro e w1 ⟨rfl, hB1⟩
 rw [H0.out]
 have hs1 := hB1.size
 simp only [World.size_alloc] at hs1
 go_wp2
 have hBw := ((hB0.trans (hB1.mono (by simp; omega))).alloc (by omega) (.cells #[.int .i64 (-1)] 3))
 exact ⟨_, results_tmp3 rfl _ _ _, none, 0, none, 0, rfl, Nat.le_refl _, Nat.le_refl _, Own.nil _ _ _, Own.nil _ _ _, hf.below hBw, Past.of_below hBw _⟩
set_option linter.unusedSimpArgs false in
set_option maxRecDepth 100000 in
set_option maxHeartbeats 4000000 in
theorem div_pcalls (A B : Option Addr) (p q : List F8) (m n c d : Nat) (w : World) (hl : p.length = m) (hl2 : q.length = n) (hb : Bytes w A (bs p)) (hb2 : Bytes w B (bs q)) (hc : m ≤ c) (hd : n ≤ d) (hm : m ≤ 5000) (hn : n ≤ 5000) (pf : Option Addr) (hf : FldP w pf) (_ : Far pf A p) (hfar2 : Far pf B q) (hz : 0 < len q) :
  Calls Tryz.prog 84 #[.pointer pf, .slice A m c, .slice B n d] w (DivRes pf w p q) := by
 obtain ⟨P, hP⟩ : ∃ P, trim p = P := ⟨_, rfl⟩
 obtain ⟨Q, hQ⟩ : ∃ Q, trim q = Q := ⟨_, rfl⟩
 obtain ⟨la, hla⟩ : ∃ k, P.length = k := ⟨_, rfl⟩
 obtain ⟨dg, hdg⟩ : ∃ k, len q = k + 1 := ⟨len q - 1, by omega⟩
 have hQl : Q.length = dg + 1 := by rw [← hQ, ← hdg]; rfl
 have hla1 : la ≤ m := by rw [← hla, ← hP, ← hl]; exact len_le p
 have hdg1 : dg + 1 ≤ n := by rw [← hdg, ← hl2]; exact len_le q
 have HB := Lib.hid hb
 have HB2 := Lib.hid hb2
 have HP := Lib.hid hP
 have HQ := Lib.hid hQ
 have HLA := Lib.hid hla
 have HDG := Lib.hid hdg
 have HQL := Lib.hid hQl
 have hB0 : Below w.heap.size w ((w.alloc (.cells #[.pointer pf] 30)).alloc (.cells #[.slice B n d] 35)) := ((Below.refl _ w).alloc (Nat.le_refl _) _).alloc (by simp) _
 have hbf0 : Block ((w.alloc (.cells #[.pointer pf] 30)).alloc (.cells #[.slice B n d] 35)) w.heap.size 30 #[.pointer pf] := (Block.new w _ _).alloc _
 have hbb0 : Block ((w.alloc (.cells #[.pointer pf] 30)).alloc (.cells #[.slice B n d] 35)) (w.heap.size + 1) 35 #[.slice B n d] := by
  have := Block.new (w.alloc (.cells #[.pointer pf] 30)) 35 #[.slice B n d]; rwa [World.size_alloc] at this
 clear hb hb2 hP hQ hla hdg hQl hz
 refine (callsIn_wide (n := 9)).1 (callsIn_of_wp_marks Tryz.func84 rfl trivial ?_ rfl)
 simp only [Tryz.ntmps84, List.size_toArray, List.length_cons, List.length_nil, Nat.reduceAdd, Nat.reduceSub, Array.replicate_succ, Array.replicate_zero, List.push_toArray, List.append_toArray, List.nil_append, List.cons_append]
 refine wpIn_wide.2 ?_
 go_wp2_with fail
 refine (degree_calls B q n d _ hl2 (HB2.out.below hB0) hd (by omega)).mono ?_
 rintro e w1 ⟨rfl, hB1⟩
 rw [HDG.out, show (((dg + 1 : Nat) : Int) - 1) = (dg : Int) by omega]
 have hs1 := hB1.size
 simp only [World.size_alloc] at hs1
 have hbf1 := hbf0.below hB1 (by simp; omega)
 have hbb1 := hbb0.below hB1 (by simp)
 have hbf2 := hbf1.alloc (.cells #[.int .i64 (dg : Int)] 3)
 have hbb2 := hbb1.alloc (.cells #[.int .i64 (dg : Int)] 3)
 have hbd2 := Block.new w1 3 #[.int .i64 (dg : Int)]
 have hcf2 := hbf2.cell 0
 have hcb2 := hbb2.cell 0
 have hB2 : Below w.heap.size w (w1.alloc (.cells #[.int .i64 (dg : Int)] 3)) := (hB0.trans (hB1.mono (by simp; omega))).alloc (by omega) _
 have hdneg : decide ((dg : Int) < 0) = false := by simp
 clear hbf0 hbb0 hB0 hbf1 hbb1
 go_wp2_with fail
 refine (orNew_f pf w _ hf hB2).mono ?_
 rintro e w2 ⟨g, rfl, hg, hF2, hB3⟩
 have hs2 := hB3.size
 simp only [World.size_alloc] at hs2
 have hlt0 : ∀ {i t cs}, Block (w1.alloc (.cells #[.int .i64 (dg : Int)] 3)) i t cs → i < (w1.alloc (.cells #[.int .i64 (dg : Int)] 3)).heap.size := fun h => h.lt
 have hbf3 := hbf2.below hB3 (hlt0 hbf2)
 have hbb3 := hbb2.below hB3 (hlt0 hbb2)
 have hbd3 := hbd2.below hB3 (hlt0 hbd2)
 have hcf3 := hbf3.cell 0
 have hff3 := hbf3.frozen 0
 have hcb3 := hbb3.cell 0
 have hgne : ∀ k, w.heap.size ≤ k → k ≤ w1.heap.size → k ≠ g := fun k h1 h2 => hg.ne h1 (by simp; omega)
 have hglt := hF2.lt
 have hBs3 : Below w.heap.size w (w2.setCell ⟨w.heap.size, 0, none⟩ (.pointer (some ⟨g, 0, none⟩))) := (hB2.trans (hB3.mono (by simp; omega))).setCell (p := ⟨w.heap.size, 0, none⟩) (Nat.le_refl _) _
 have hz2 : (w2.setCell ⟨w.heap.size, 0, none⟩ (.pointer (some ⟨g, 0, none⟩))).heap.size = w2.heap.size := by simp [World.setCell]
 have HZ2 := Lib.hid hz2
 have hF3 : Fld (w2.setCell ⟨w.heap.size, 0, none⟩ (.pointer (some ⟨g, 0, none⟩))) g := by
  have e1 : g ≠ w.heap.size := fun e => hgne g (by omega) (by omega) rfl
  exact hF2.imp (fun h => h.far e1 _) (fun h => h.far e1 _)
 clear hz2 hcf2 hcb2 hf
 go_wp2_with fail
 refine (trimmed_calls B q n d _ hl2 (HB2.out.below hBs3) hd (by omega)).mono ?_
 rintro e w3 ⟨B2, rfl, hcut2, hB4⟩
 rw [HDG.out]
 have hs3 := hB4.size
 rw [HZ2.out] at hs3
 have hbf4 := (hbf3.set_ 0 (.pointer (some ⟨g, 0, none⟩))).below hB4 (by rw [HZ2.out]; exact hbf3.lt)
 have hbb4 := (hbb3.far (p := ⟨w.heap.size, 0, none⟩) (by simp) (.pointer (some ⟨g, 0, none⟩))).below hB4 (by rw [HZ2.out]; exact hbb3.lt)
 have hbd4 := (hbd3.far (p := ⟨w.heap.size, 0, none⟩) (by simp; omega) (.pointer (some ⟨g, 0, none⟩))).below hB4 (by rw [HZ2.out]; exact hbd3.lt)
 have hF4 := hF3.below hB4 (by rw [HZ2.out]; exact hglt)
 have hcb4 := hbb4.cell 0
 have hfb4 := hbb4.frozen 0
 have hBs4 : Below w.heap.size w (w3.setCell ⟨w.heap.size + 1, 0, none⟩ (.slice B2 (dg + 1) d)) := (hBs3.trans (hB4.mono (by rw [HZ2.out]; omega))).setCell (p := ⟨w.heap.size + 1, 0, none⟩) (by simp) _
 have hz3 : (w3.setCell ⟨w.heap.size + 1, 0, none⟩ (.slice B2 (dg + 1) d)).heap.size = w3.heap.size := by simp [World.setCell]
 have HZ3 := Lib.hid hz3
 clear hz3 hcf3 hff3 hcb3
 go_wp2_with fail
 refine (trim_calls A p m c _ hl (HB.out.below hBs4) hc hm).mono ?_
 rintro e w4 ⟨A3, c3, rfl, hc3, hO5, hB5⟩
 rw [HP.out, HLA.out] at hO5 hc3 ⊢
 have hs4 := hB5.size
 rw [HZ3.out] at hs4 hO5
 have hbf5 := (hbf4.far (p := ⟨w.heap.size + 1, 0, none⟩) (by simp) (.slice B2 (dg + 1) d)).below hB5 (by rw [HZ3.out]; exact hbf4.lt)
 have hbb5 := (hbb4.set_ 0 (.slice B2 (dg + 1) d)).below hB5 (by rw [HZ3.out]; exact hbb4.lt)
 have hbd5 := (hbd4.far (p := ⟨w.heap.size + 1, 0, none⟩) (by simp; omega) (.slice B2 (dg + 1) d)).below hB5 (by rw [HZ3.out]; exact hbd4.lt)
 have hF5 := (show Fld (w3.setCell ⟨w.heap.size + 1, 0, none⟩ (.slice B2 (dg + 1) d)) g from (by
  have e1 : g ≠ w.heap.size + 1 := fun e => hgne g (by omega) (by omega) rfl
  exact hF4.imp (fun h => h.far e1 _) (fun h => h.far e1 _))).below hB5 (by rw [HZ3.out]; omega)
 have hBs5 : Below w.heap.size w (w4.alloc (.cells #[.slice A3 la c3] 35)) := (hBs4.trans (hB5.mono (by rw [HZ3.out]; omega))).alloc (by omega) _
 have hbd6 := hbd5.alloc (.cells #[.slice A3 la c3] 35)
 have hcd6 := hbd6.cell 0
 obtain ⟨nq, hnq⟩ : ∃ nq, la - dg = nq := ⟨_, rfl⟩
 obtain ⟨wm, hmk, hOm, hBm⟩ := make_run (w4.alloc (.cells #[.slice A3 la c3] 35)) nq (by omega)
 rw [World.size_alloc] at hmk hOm
 clear hcb4 hfb4
 have hbr : Block (wm.alloc (.cells #[.slice (some ⟨w4.heap.size + 1, 0, none⟩) nq nq] 35)) w4.heap.size 35 #[.slice A3 la c3] := ((Block.new w4 35 #[.slice A3 la c3]).below hBm (by simp)).alloc _
 have hcr := hbr.cell 0
 have hgqlt := (Own.block hOm).lt
 by_cases hq : dg < la
 ·have hq1 : decide ((0 : Int) < (la : Int) - (dg : Int)) = true := by simp; omega
  rw [show ((nq : Nat) : Int) = (la : Int) - (dg : Int) by omega] at hmk
  have HNQ := Lib.hid hnq
  clear hnq
  go_wp2_with (go_at_call 88; refine (downward_calls _ _ _ _).mono ?_; rintro e w' ⟨rfl, rfl⟩)
  obtain ⟨w6, hw6⟩ : ∃ w6, (wm.alloc (.cells #[.slice (some ⟨w4.heap.size + 1, 0, none⟩) nq nq] 35)).alloc (.cells #[.slice A3 la c3] 35) = w6 := ⟨_, rfl⟩
  have hbf6 : Block w6 w.heap.size 30 #[.pointer (some ⟨g, 0, none⟩)] := by rw [← hw6]; exact (((hbf5.alloc _).below hBm (by simp; omega)).alloc _).alloc _
  have hbb6 : Block w6 (w.heap.size + 1) 35 #[.slice B2 (dg + 1) d] := by rw [← hw6]; exact (((hbb5.alloc _).below hBm (by simp; omega)).alloc _).alloc _
  have hbd7 : Block w6 w1.heap.size 3 #[.int .i64 dg] := by rw [← hw6]; exact ((hbd6.below hBm (by simp; omega)).alloc _).alloc _
  have hbr6 : Block w6 w4.heap.size 35 #[.slice A3 la c3] := by rw [← hw6]; exact hbr.alloc _
  have hgq6 : Block w6 (w4.heap.size + 1) 5 (bv (bs (List.replicate nq 0))).toArray := by rw [← hw6]; exact ((Own.block hOm).alloc _).alloc _
  have hbq6 : Block w6 wm.heap.size 35 #[.slice (some ⟨w4.heap.size + 1, 0, none⟩) nq nq] := by rw [← hw6]; exact (Block.new _ _ _).alloc _
  have hbi6 : Block w6 (wm.heap.size + 1) 35 #[.slice A3 la c3] := by
   rw [← hw6]; have := Block.new (wm.alloc (.cells #[.slice (some ⟨w4.heap.size + 1, 0, none⟩) nq nq] 35)) 35 #[.slice A3 la c3]; rwa [World.size_alloc] at this
  have hF6 : Fld w6 g := by rw [← hw6]; exact ((hF5.alloc _).below hBm (by simp; omega)).alloc _ |>.alloc _
  have hO6 : Own w6 w3.heap.size 5 (.slice A3 la c3) (bv (bs P)) := by rw [← hw6]; exact (((hO5.alloc _).below hBm).alloc _).alloc _
  have hB6 : Below w.heap.size w w6 := by rw [← hw6]; exact ((hBs5.trans (hBm.mono (by simp; omega))).alloc (by omega) _).alloc (by simp; omega) _
  have hs6 : wm.heap.size + 2 ≤ w6.heap.size ∧ w6.heap.size ≤ wm.heap.size + 2 := by rw [← hw6]; simp
  have hQ0 : coef Q dg ≠ 0 := by
   have := lead (p := Q) (by rw [← HQ.out, len_trim, HDG.out]; omega)
   rw [← HQ.out, len_trim, HDG.out] at this
   rw [← HQ.out]; exact this
  have HQ0 := Lib.hid hQ0
  have hfb := hcut2.far HB2.out (hg.far (by simp; omega) hfar2 HB2.out)
  have HBB : Hid (Bytes w B2 (bs (trim q))) := Lib.hid (hcut2.bytes HB2.out)
  rw [HQ.out] at hfb HBB
  have h0 : DivAt w6 (w4.heap.size + 1) nq dg la P Q P := by
   refine ⟨List.replicate nq 0, by simp, hgq6, ?_, fun i hi => coef_of_le (by have := HLA.out; omega), fun i _ => ?_⟩
   ·refine fun i => ?_
    have : Eqv (List.replicate nq (0 : F8)) [] := (trim_nil_iff (p := List.replicate nq (0 : F8))).1 (by rw [show List.replicate nq (0 : F8) = [] ++ List.replicate nq 0 from rfl]; exact trim_zeros nq)
    rw [coef_padd, pmul_zero_left Q this i, coef_nil, zero_add]
   ·have : Eqv (List.replicate nq (0 : F8)) [] := (trim_nil_iff (p := List.replicate nq (0 : F8))).1 (by rw [show List.replicate nq (0 : F8) = [] ++ List.replicate nq 0 from rfl]; exact trim_zeros nq)
    rw [this i, coef_nil]
  have hmx : Tryz.prog.follows .mixedOrders = true := by kernel_rfl
  rw [hw6]
  have hgrx : ∀ a, A3 = some a → a.block < w4.heap.size := fun a ha => by subst ha; exact (hO5.lt a.block rfl).2
  clear hw6 hmk hbf5 hbb5 hbd6 hbd5 hbr hcr hcd6 hOm hO5 hF5 hgq6 hbf4 hbb4 hbd4 hbf3 hbb3 hbd3 hbf2 hbb2 hbd2 hlt0 hF2 hF3 hF4 hdneg hq1 hfar2 hQ0
  refine wpIn_wide.1 (wpIn_down (n := 9) (by omega) (Bn := wm.heap.size + 1) (m := la) (c := c3) (A := A3) (by omega) rfl
   (fun k r V => r.length = la ∧ Own V w3.heap.size 5 (.slice A3 la c3) (bv (bs r)) ∧ Block V (wm.heap.size + 1) 35 #[.slice A3 la c3] ∧ Block V w.heap.size 30 #[.pointer (some ⟨g, 0, none⟩)] ∧ Block V (w.heap.size + 1) 35 #[.slice B2 (dg + 1) d] ∧ Block V w1.heap.size 3 #[.int .i64 dg] ∧ Block V w4.heap.size 35 #[.slice A3 la c3] ∧ Block V wm.heap.size 35 #[.slice (some ⟨w4.heap.size + 1, 0, none⟩) nq nq] ∧ DivAt V (w4.heap.size + 1) nq dg k P Q r ∧ Fld V g ∧ Past w.heap.size g w V)
   (fun j V => j = .exit 0 ∧ ∃ r, r.length = la ∧ Own V w3.heap.size 5 (.slice A3 la c3) (bv (bs r)) ∧ Block V w4.heap.size 35 #[.slice A3 la c3] ∧ Block V wm.heap.size 35 #[.slice (some ⟨w4.heap.size + 1, 0, none⟩) nq nq] ∧ DivAt V (w4.heap.size + 1) nq dg 0 P Q r ∧ Fld V g ∧ Past w.heap.size g w V)
   (fun k r V V' ⟨h1, h2, h3, h4, h5, h6, h7, h8, h9, h10, h11⟩ ht => ⟨h1, ht.own h2, ht.block h3, ht.block h4, ht.block h5, ht.block h6, ht.block h7, ht.block h8, h9.turn ht, h10.imp ht.block ht.block, ht.past h11 (by omega)⟩)
   (fun j V V' ⟨h0, r, h1, h2, h7, h8, h9, h10, h11⟩ ht => ⟨h0, r, h1, ht.own h2, ht.block h7, ht.block h8, h9.turn ht, h10.imp ht.block ht.block, ht.past h11 (by omega)⟩)
   (fun k r V ⟨h1, h2, h3, _⟩ => ⟨h1, by rw [← h1] at h2; exact Own.bytes h2, h3.cell 0⟩)
   P ⟨HLA.out, hO6, hbi6, hbf6, hbb6, hbd7, hbr6, hbq6, h0, hF6, Past.of_below hB6 _⟩
   ?a1 ?assign ?body ?done ?stop)
  case assign =>
   intro l k y V K hK
   gi_wp2
   exact hK
  case body =>
   rintro l k r V hk ⟨h1, h2, h3, h4, h5, h6, h7, h8, ⟨qt, hql, hqb, hqe, hqd, hqz⟩, h10, h11⟩ hsV
   have hc4 := h4.cell 0
   have hc5 := h5.cell 0
   have hc6 := h6.cell 0
   have hc7 := h7.cell 0
   have hc8 := h8.cell 0
   by_cases hkd : k < dg
   ·have hkd1 : decide ((k : Int) < (dg : Int)) = true := by simp; omega
    have HQE := Lib.hid hqe
    have HQZ := Lib.hid hqz
    have HR := Lib.hid h1
    have HQLn := Lib.hid hql
    clear hqe hqz h1 hql
    gi_wp2
    exact ⟨keeps_below (Below.refl _ _), rfl, r, HR.out, h2, h7, h8, ⟨qt, HQLn.out, hqb, HQE.out, by rw [show max 0 dg = max (k + 1) dg by omega]; exact hqd, fun i hi => by omega⟩, h10, h11⟩
   ·obtain ⟨gr, c4, e4, hgr1, hgr2, _⟩ := Own.form1 h2 (by rw [bvs_length, h1]; omega)
    injection e4 with e4 e7 e8
    clear e7 e8
    have HBV := bytes_far HBB.out (fun hp a ha => (hfb hp a ha).1) h11
    obtain ⟨b, o, hB2e⟩ := where_ HBV (by have := HQL.out; omega)
    have hcq := cellF HBV dg (by have := HQL.out; omega)
    rw [hB2e] at hcq
    obtain ⟨b', o', e5, hcq⟩ := hcq
    injection e5 with e5
    injection e5 with e5 e6
    subst e5 e6
    subst hB2e
    obtain ⟨j, hj⟩ : ∃ j : Nat, (k : Int) - (dg : Int) = (j : Int) := ⟨k - dg, by omega⟩
    have hjn : j = k - dg := by omega
    obtain ⟨x, hx⟩ : ∃ x, coef r k = x := ⟨_, rfl⟩
    obtain ⟨ld, hld⟩ : ∃ x, coef Q dg = x := ⟨_, rfl⟩
    have hld0 : ld ≠ 0 := by rw [← hld]; exact HQ0.out
    rw [hld] at hcq
    rw [hx]
    have hkd1 : decide ((k : Int) < (dg : Int)) = false := by simp; omega
    have hjq : j < nq := by have := HNQ.out; omega
    have hjl : j < la := by omega
    have HQE := Lib.hid hqe
    have HQZ := Lib.hid hqz
    have HR := Lib.hid h1
    have HQLn := Lib.hid hql
    have HX := Lib.hid hx
    have HLD := Lib.hid hld
    have HJ := Lib.hid hjn
    have HE4 := Lib.hid e4
    have hltV : ∀ {i t cs}, Block V i t cs → i < V.heap.size := fun h => h.lt
    obtain ⟨S, hSdef⟩ : ∃ S : World → Prop, S = fun V' => V'.cell? ⟨wm.heap.size, 0, none⟩ = some (.slice (some ⟨w4.heap.size + 1, 0, none⟩) nq nq) ∧ V'.cell? ⟨w.heap.size, 0, none⟩ = some (.pointer (some ⟨g, 0, none⟩)) ∧ V'.cell? ⟨w.heap.size + 1, 0, none⟩ = some (.slice (some ⟨b, o, none⟩) (dg + 1) d) ∧ V'.cell? ⟨w1.heap.size, 0, none⟩ = some (.int .i64 dg) ∧ V'.cell? ⟨b, o + dg, none⟩ = some (.int .u8 ld.n) ∧ True := ⟨_, rfl⟩
    have hbg := hfb (by intro e; have := HQL.out; rw [e] at this; simp at this) _ rfl
    simp only at hbg
    have hS : ∀ V', But V.heap.size (fun i => i = g ∨ i = w4.heap.size + 1) V V' → S V' := fun V' hP => by
     rw [hSdef]
     exact ⟨(hP.blk h8 (hltV h8) (by omega)).cell 0, (hP.blk h4 (hltV h4) (by have := hgne w.heap.size (by omega) (by omega); omega)).cell 0, (hP.blk h5 (hltV h5) (by have := hgne (w.heap.size + 1) (by omega) (by omega); omega)).cell 0, (hP.blk h6 (hltV h6) (by have := hgne w1.heap.size (by omega) (by omega); omega)).cell 0, (World.cell?_of_block (hP.block b (cell_lt hcq) (by omega))).trans hcq, trivial⟩
    have HSD := Lib.hid hSdef
    clear hqe hqz h1 hql hx hld hjn e4 hSdef
    gi_wp2
    refine region_round_held (S := S) hmx (by kernel_rfl) (fun h => by obtain ⟨a, w, h⟩ := h; exact h) (hS _ ((But.refl _ _ _).drew)) (fun hS0 => ?_)
    refine wpAnyH_take (i := 0) (v := .slice (some ⟨w4.heap.size + 1, 0, none⟩) nq nq) rfl (by kernel_rfl) (by kernel_rfl) (by kernel_rfl) (fun _ _ _ h => h) (Or.inl ⟨by rfl, fun W hW => by rw [HSD.out] at hW; obtain ⟨s1, s2, s3, s4, s5, _⟩ := hW; go_simp⟩) hS0 ?_
    simp only [Act.put, List.setIfInBounds_toArray, List.set_cons_zero, List.set_cons_succ]
    refine wpAnyH_take (i := 1) (v := .int .i64 (j : Int)) rfl (by kernel_rfl) (by kernel_rfl) (by kernel_rfl) (fun _ _ _ h => h) (Or.inl ⟨by rfl, fun W hW => by rw [HSD.out] at hW; obtain ⟨s1, s2, s3, s4, s5, _⟩ := hW; go_simp⟩) hS0 ?_
    simp only [Act.put, List.setIfInBounds_toArray, List.set_cons_zero, List.set_cons_succ]
    refine wpAnyH_take (i := 2) (v := .pointer (some ⟨g, 0, none⟩)) rfl (by kernel_rfl) (by kernel_rfl) (by kernel_rfl) (fun _ _ _ h => h) (Or.inl ⟨by rfl, fun W hW => by rw [HSD.out] at hW; obtain ⟨s1, s2, s3, s4, s5, _⟩ := hW; go_simp⟩) hS0 ?_
    simp only [Act.put, List.setIfInBounds_toArray, List.set_cons_zero, List.set_cons_succ]
    refine wpAnyH_take (i := 3) (v := .int .u8 (x.n : Int)) rfl (by kernel_rfl) (by kernel_rfl) (by kernel_rfl) (fun _ _ _ h => h) (Or.inl ⟨by rfl, fun W hW => by rw [HSD.out] at hW; obtain ⟨s1, s2, s3, s4, s5, _⟩ := hW; go_simp⟩) hS0 ?_
    simp only [Act.put, List.setIfInBounds_toArray, List.set_cons_zero, List.set_cons_succ]
    refine wpAnyH_take (i := 4) (v := .slice (some ⟨b, o, none⟩) (dg + 1) d) rfl (by kernel_rfl) (by kernel_rfl) (by kernel_rfl) (fun _ _ _ h => h) (Or.inl ⟨by rfl, fun W hW => by rw [HSD.out] at hW; obtain ⟨s1, s2, s3, s4, s5, _⟩ := hW; go_simp⟩) hS0 ?_
    simp only [Act.put, List.setIfInBounds_toArray, List.set_cons_zero, List.set_cons_succ]
    refine wpAnyH_take (i := 5) (v := .int .i64 (dg : Int)) rfl (by kernel_rfl) (by kernel_rfl) (by kernel_rfl) (fun _ _ _ h => h) (Or.inl ⟨by rfl, fun W hW => by rw [HSD.out] at hW; obtain ⟨s1, s2, s3, s4, s5, _⟩ := hW; go_simp⟩) hS0 ?_
    simp only [Act.put, List.setIfInBounds_toArray, List.set_cons_zero, List.set_cons_succ]
    refine wpAnyH_take (i := 6) (v := .pointer (some ⟨b, o + dg, none⟩)) rfl (by kernel_rfl) (by kernel_rfl) (by kernel_rfl) (fun _ _ _ h => h) (Or.inl ⟨by rfl, fun W hW => by go_simp; intro h; omega⟩) hS0 ?_
    simp only [Act.put, List.setIfInBounds_toArray, List.set_cons_zero, List.set_cons_succ]
    refine wpAnyH_take (i := 7) (v := .int .u8 (ld.n : Int)) rfl (by kernel_rfl) (by kernel_rfl) (by kernel_rfl) (fun _ _ _ h => h) (Or.inl ⟨by rfl, fun W hW => by rw [HSD.out] at hW; obtain ⟨s1, s2, s3, s4, s5, _⟩ := hW; go_simp⟩) hS0 ?_
    simp only [Act.put, List.setIfInBounds_toArray, List.set_cons_zero, List.set_cons_succ]
    refine wpAnyH_all (rs := [8]) (by kernel_rfl) (by simp) (fun i hi => ?_)
    obtain rfl : i = 8 := by simpa using hi
    refine wpOp_call rfl (by rfl) ?_
    go_simp
    refine (div_f g x ld hld0 _ (show Fld V.drew g from h10)).mono ?_
    rintro e V2 ⟨rfl, hF2, hP2⟩
    obtain ⟨y, hy⟩ : ∃ y, x / ld = y := ⟨_, rfl⟩
    rw [hy]
    have HYY := Lib.hid hy
    have hS1 := hS V2 (But.drew (But.refl _ _ _) |>.trans (But.of_past hP2 (.inl rfl)))
    have hq2 := hqb.drew.past hP2 hqb.drew.lt (by omega)
    have hcq2 := (hq2.cell j).trans (bvs_get qt j (by rw [HQLn.out]; exact hjq))
    have hfq2 := hq2.frozen j
    clear hy
    refine ⟨hS1, ?_⟩
    refine wpAnyH_take (i := 9) (v := .tuple #[.int .u8 (y.n : Int), .bool true]) rfl (by kernel_rfl) (by kernel_rfl) (by kernel_rfl) (fun _ _ _ h => h) (Or.inl ⟨by rfl, fun W hW => by go_simp⟩) hS1 ?_
    simp only [Act.put, List.setIfInBounds_toArray, List.set_cons_zero, List.set_cons_succ]
    refine wpAnyH_take (i := 10) (v := .int .u8 (y.n : Int)) rfl (by kernel_rfl) (by kernel_rfl) (by kernel_rfl) (fun _ _ _ h => h) (Or.inl ⟨by rfl, fun W hW => by go_simp⟩) hS1 ?_
    simp only [Act.put, List.setIfInBounds_toArray, List.set_cons_zero, List.set_cons_succ]
    refine wpAnyH_take (i := 11) (v := .bool true) rfl (by kernel_rfl) (by kernel_rfl) (by kernel_rfl) (fun _ _ _ h => h) (Or.inl ⟨by rfl, fun W hW => by go_simp⟩) hS1 ?_
    simp only [Act.put, List.setIfInBounds_toArray, List.set_cons_zero, List.set_cons_succ]
    refine wpAnyH_take (i := 12) (v := .pointer (some ⟨w4.heap.size + 1, j, none⟩)) rfl (by kernel_rfl) (by kernel_rfl) (by kernel_rfl) (fun _ _ _ h => h) (Or.inl ⟨by rfl, fun W hW => by go_simp⟩) hS1 ?_
    simp only [Act.put, List.setIfInBounds_toArray, List.set_cons_zero, List.set_cons_succ]
    refine wpAnyH_all (rs := [13]) (by kernel_rfl) (by simp) (fun i hi => ?_)
    obtain rfl : i = 13 := by simpa using hi
    refine wpOp_call rfl (by rfl) ?_
    go_simp
    have hU3 : But V.heap.size (fun i => i = g ∨ i = w4.heap.size + 1) V (V2.setCell ⟨w4.heap.size + 1, j, none⟩ (.int .u8 (y.n : Int))) :=
     ((But.refl _ _ V).drew.trans (But.of_past hP2 (.inl rfl))).setCell (p := ⟨w4.heap.size + 1, j, none⟩) (.inl (.inr rfl)) _
    have hgrlt := hgrx _ HE4.out
    have hO2 : Own (V2.setCell ⟨w4.heap.size + 1, j, none⟩ (.int .u8 (y.n : Int))) w3.heap.size 5 (.slice A3 la c3) (bv (bs r)) :=
     (own_keep h2.drew (FldP.of (show Fld V.drew g from h10)) hP2).far (by rw [HE4.out]; simp [Value.ownBlock] at hgrlt ⊢; omega) _
    have hF3 : Fld (V2.setCell ⟨w4.heap.size + 1, j, none⟩ (.int .u8 (y.n : Int))) g := hF2.imp (fun h => h.far (by simp; omega) _) (fun h => h.far (by simp; omega) _)
    have hq3 : Block (V2.setCell ⟨w4.heap.size + 1, j, none⟩ (.int .u8 (y.n : Int))) (w4.heap.size + 1) 5 (bv (bs (qt.set j y))).toArray := by rw [← bvs_set]; exact hq2.set_ j _
    refine ⟨hS _ hU3, wpAnyH_done (by kernel_rfl) ?_ _⟩
    obtain ⟨V3, hV3⟩ : ∃ V3, V2.setCell ⟨w4.heap.size + 1, j, none⟩ (.int .u8 (y.n : Int)) = V3 := ⟨_, rfl⟩
    rw [hV3] at hU3 hO2 hF3 hq3 ⊢
    have hkp : KeepsFrom w6.heap.size V V3 := keeps_but hU3 (fun i o hi ho => by rcases hi with rfl | rfl; exact Fld.isCells h10 ho; exact Block.isCells hqb ho)
    have hbi3 := hU3.blk h3 (hltV h3) (by omega)
    have hbf3 := hU3.blk h4 (hltV h4) (by have := hgne w.heap.size (by omega) (by omega); omega)
    have hbb3 := hU3.blk h5 (hltV h5) (by have := hgne (w.heap.size + 1) (by omega) (by omega); omega)
    have hbd3 := hU3.blk h6 (hltV h6) (by have := hgne w1.heap.size (by omega) (by omega); omega)
    have hbr3 := hU3.blk h7 (hltV h7) (by omega)
    have hbq3 := hU3.blk h8 (hltV h8) (by omega)
    have hcf3 := hbf3.cell 0
    have hcb3 := hbb3.cell 0
    have hcr3 := hbr3.cell 0
    have hcq3 := hbq3.cell 0
    have hcy3 := (hq3.cell j).trans (bvs_get (qt.set j y) j (by rw [List.length_set, HQLn.out]; exact hjq))
    rw [coef_set qt j y (by rw [HQLn.out]; exact hjq) j, if_pos rfl] at hcy3
    rw [HE4.out] at hcr3
    have hsx := slice_own2 gr la c3 j hjl hc3
    have hP3 : Past w.heap.size g w V3 := h11.trans ((hU3.mono (S' := (· = g)) (by omega) (fun i hi h => by omega)).past)
    have HBV3 := Lib.hid (bytes_far HBB.out (fun hp a ha => (hfb hp a ha).1) hP3)
    have hsz3 := hU3.size
    rw [HE4.out] at hO2
    clear hV3 hcq2 hfq2 hS1 hS hc4 hc5 hc6 hc7 hc8 hcq hq2
    gi_wp2
    refine region_round_tail 9 hmx (by kernel_rfl) (by kernel_rfl) (fun h => by obtain ⟨a, w, h⟩ := h; exact h) ?_
    simp only [List.take_succ_cons, List.take_zero, List.drop_succ_cons, List.drop_zero]
    iterate 9 still_step
    refine wpStill_nil ?_
    go_wp2_with fail
    refine (addTimes_calls w3.heap.size g gr la c3 j (la - j) (c3 - j) (some ⟨gr, j, none⟩) (some ⟨b, o, none⟩) r Q (dg + 1) d y V3.drew hF3 hO2.drew HR.out HQL.out (fun _ => rfl) (by rw [HR.out]; have := HJ.out; omega) (by have := HJ.out; omega) HBV3.out.drew (fun hp a ha => ⟨by have := (hfb hp a ha).2; omega, (hfb hp a ha).1⟩) (by omega) (by rw [HR.out]; omega)).mono ?_
    rintro e V4 ⟨rfl, ⟨r2, g1, g2, g3⟩, hF4, hU4⟩
    rw [HR.out] at g1
    have G1 := Lib.hid g1
    have G2 := Lib.hid g2
    clear g1 g2
    go_wp2
    have hszd : V3.drew.heap.size = V3.heap.size := rfl
    have hl4 : ∀ {i t cs}, Block V3 i t cs → i < V3.drew.heap.size := fun h => h.lt
    have hdr := div_round (k := k) (dg := dg) (y := y) (P := P) (Q := Q) (r := r) (r' := r2) (qt := qt) (by omega) HQL.out HQ0.out (by rw [HX.out, HLD.out]; exact HYY.out.symm) (by rw [HQLn.out, ← HJ.out]; exact hjq) HQE.out hqd HQZ.out (by rw [← HJ.out]; exact G2.out)
    rw [← HJ.out] at hdr
    rw [← HE4.out] at g3
    refine ⟨hkp.trans (((KeepsOthers.drew V3).from _).trans (keeps_but hU4 (fun i o hi ho => by rcases hi with rfl | rfl; exact Own.isCells hO2.drew ho; exact Fld.isCells (show Fld V3.drew _ from hF3) ho))), r2, G1.out, g3,
     hU4.blk hbi3.drew (hl4 hbi3) (by omega), hU4.blk hbf3.drew (hl4 hbf3) (by have := hgne w.heap.size (by omega) (by omega); omega), hU4.blk hbb3.drew (hl4 hbb3) (by have := hgne (w.heap.size + 1) (by omega) (by omega); omega), hU4.blk hbd3.drew (hl4 hbd3) (by have := hgne w1.heap.size (by omega) (by omega); omega),
     hU4.blk hbr3.drew (hl4 hbr3) (by omega), hU4.blk hbq3.drew (hl4 hbq3) (by omega), ⟨qt.set j y, by rw [List.length_set, HQLn.out], hU4.blk hq3.drew (hl4 hq3) (by omega), hdr.1, hdr.2.1, hdr.2.2⟩, hF4, hP3.drew.trans ((hU4.mono (S' := (· = g)) (by omega) (fun i hi h => by omega)).past)⟩
  case done =>
   rintro r V ⟨h1, h2, _, _, _, _, h7, h8, h9, h10, h11⟩ hD
   have hc7 := h7.cell 0
   have hc8 := h8.cell 0
   have HR := Lib.hid h1
   have HO := Lib.hid h2
   have HRB : Hid (Bytes V A3 (bs r)) := Lib.hid (by rw [← h1] at h2; exact Own.bytes h2)
   have hV3 : w.heap.size ≤ V.heap.size := by have := h7.lt; omega
   obtain ⟨n3, hn3⟩ : ∃ k, len r = k := ⟨_, rfl⟩
   have HN3 := Lib.hid hn3
   have H9 := Lib.hid h9
   clear h1 h2 hn3 h9
   go_wp2_with fail
   refine wp_region_noPanic ?_
   go_region_with (go_at_call 87; refine (trimmed_calls A3 r la c3 _ HR.out HRB.out.drew hc3 (by omega)).mono ?_; rintro e V5 ⟨A5, rfl, hcut5, hB55⟩; rw [HN3.out]; have hc9 := (h8.drew.below hB55 h8.lt).cell 0)
   all_goals
    refine NoPanic.normal ?_
    go_wp2
    have hK := (hB55.block _ (Array.getElem?_eq_some_iff.1 hD).1).trans hD
    refine ⟨by simp, .inl ⟨_, _, rfl, run_takeDeferred hK, ?_⟩⟩
    have ht : Turn w.heap.size V5 _ := Turn.put hK rfl (by omega) (.deferred none)
    have ht2 : Turn w.heap.size V _ := (⟨(Below.refl w.heap.size V).drew.trans (hB55.mono hV3), fun i cs t fr hi => (hB55.block i (Array.getElem?_eq_some_iff.1 hi).1).trans hi⟩ : Turn w.heap.size V V5).trans ht
    obtain ⟨qt, q1, q2, q3, q4, _⟩ := H9.out.turn ht2
    have hdv := div_end HP.out HQ.out HLA.out HDG.out HNQ.out q1 q3 (by rw [Nat.zero_max] at q4; exact q4)
    have hfin := (hcut5.own HR.out (ht2.own HO.out))
    rw [HN3.out] at hfin
    have hlt : (trim r).length = n3 := by rw [← HN3.out]; rfl
    refine ⟨_, results_tmp3 rfl _ _ _, qt, trim r, hdv, some ⟨w4.heap.size + 1, 0, none⟩, nq, A5, c3, by rw [q1, hlt]; rfl, by rw [q1]; exact Nat.le_refl _, by have := trim_le r; rw [HR.out] at this; omega, ?_, ?_, hg.fldP (h10.imp ht2.block ht2.block), hg.past (by simp; omega) (ht2.past h11 (Nat.le_refl _))⟩
    ·rw [q1]; exact Own.of_block q2 (by omega) (by rw [bvs_length, q1]) (by have := HNQ.out; simp only [maxLen]; omega)
    ·rw [hlt]; exact Own.more hfin (by omega)
  case stop =>
   rintro ex V ⟨rfl, r, h1, h2, h7, h8, h9, h10, h11⟩ hD
   refine wpIn_wide.2 ?_
   have hc7 := h7.cell 0
   have hc8 := h8.cell 0
   have HR := Lib.hid h1
   have HO := Lib.hid h2
   have HRB : Hid (Bytes V A3 (bs r)) := Lib.hid (by rw [← h1] at h2; exact Own.bytes h2)
   have hV3 : w.heap.size ≤ V.heap.size := by have := h7.lt; omega
   obtain ⟨n3, hn3⟩ : ∃ k, len r = k := ⟨_, rfl⟩
   have HN3 := Lib.hid hn3
   have H9 := Lib.hid h9
   clear h1 h2 hn3 h9
   go_wp2_with fail
   refine wp_region_noPanic ?_
   go_region_with (go_at_call 87; refine (trimmed_calls A3 r la c3 _ HR.out HRB.out.drew hc3 (by omega)).mono ?_; rintro e V5 ⟨A5, rfl, hcut5, hB55⟩; rw [HN3.out]; have hc9 := (h8.drew.below hB55 h8.lt).cell 0)
   all_goals
    refine NoPanic.normal ?_
    go_wp2
    have hK := (hB55.block _ (Array.getElem?_eq_some_iff.1 hD).1).trans hD
    refine ⟨by simp, .inl ⟨_, _, rfl, run_takeDeferred hK, ?_⟩⟩
    have ht : Turn w.heap.size V5 _ := Turn.put hK rfl (by omega) (.deferred none)
    have ht2 : Turn w.heap.size V _ := (⟨(Below.refl w.heap.size V).drew.trans (hB55.mono hV3), fun i cs t fr hi => (hB55.block i (Array.getElem?_eq_some_iff.1 hi).1).trans hi⟩ : Turn w.heap.size V V5).trans ht
    obtain ⟨qt, q1, q2, q3, q4, _⟩ := H9.out.turn ht2
    have hdv := div_end HP.out HQ.out HLA.out HDG.out HNQ.out q1 q3 (by rw [Nat.zero_max] at q4; exact q4)
    have hfin := (hcut5.own HR.out (ht2.own HO.out))
    rw [HN3.out] at hfin
    have hlt : (trim r).length = n3 := by rw [← HN3.out]; rfl
    refine ⟨_, results_tmp3 rfl _ _ _, qt, trim r, hdv, some ⟨w4.heap.size + 1, 0, none⟩, nq, A5, c3, by rw [q1, hlt]; rfl, by rw [q1]; exact Nat.le_refl _, by have := trim_le r; rw [HR.out] at this; omega, ?_, ?_, hg.fldP (h10.imp ht2.block ht2.block), hg.past (by simp; omega) (ht2.past h11 (Nat.le_refl _))⟩
    ·rw [q1]; exact Own.of_block q2 (by omega) (by rw [bvs_length, q1]) (by have := HNQ.out; simp only [maxLen]; omega)
    ·rw [hlt]; exact Own.more hfin (by omega)
 ·have hq1 : decide ((0 : Int) < (la : Int) - (dg : Int)) = false := by simp; omega
  rw [show ((nq : Nat) : Int) = 0 by omega] at hmk
  have HNQ := Lib.hid hnq
  clear hnq
  go_wp2_with (go_at_call 88; refine (downward_calls _ _ _ _).mono ?_; rintro e w' ⟨rfl, rfl⟩)
  obtain ⟨w6, hw6⟩ : ∃ w6, (wm.alloc (.cells #[.slice (some ⟨w4.heap.size + 1, 0, none⟩) nq nq] 35)).alloc (.cells #[.slice A3 la c3] 35) = w6 := ⟨_, rfl⟩
  have hbf6 : Block w6 w.heap.size 30 #[.pointer (some ⟨g, 0, none⟩)] := by rw [← hw6]; exact (((hbf5.alloc _).below hBm (by simp; omega)).alloc _).alloc _
  have hbb6 : Block w6 (w.heap.size + 1) 35 #[.slice B2 (dg + 1) d] := by rw [← hw6]; exact (((hbb5.alloc _).below hBm (by simp; omega)).alloc _).alloc _
  have hbd7 : Block w6 w1.heap.size 3 #[.int .i64 dg] := by rw [← hw6]; exact ((hbd6.below hBm (by simp; omega)).alloc _).alloc _
  have hbr6 : Block w6 w4.heap.size 35 #[.slice A3 la c3] := by rw [← hw6]; exact hbr.alloc _
  have hgq6 : Block w6 (w4.heap.size + 1) 5 (bv (bs (List.replicate nq 0))).toArray := by rw [← hw6]; exact ((Own.block hOm).alloc _).alloc _
  have hbq6 : Block w6 wm.heap.size 35 #[.slice (some ⟨w4.heap.size + 1, 0, none⟩) nq nq] := by rw [← hw6]; exact (Block.new _ _ _).alloc _
  have hbi6 : Block w6 (wm.heap.size + 1) 35 #[.slice A3 la c3] := by
   rw [← hw6]; have := Block.new (wm.alloc (.cells #[.slice (some ⟨w4.heap.size + 1, 0, none⟩) nq nq] 35)) 35 #[.slice A3 la c3]; rwa [World.size_alloc] at this
  have hF6 : Fld w6 g := by rw [← hw6]; exact ((hF5.alloc _).below hBm (by simp; omega)).alloc _ |>.alloc _
  have hO6 : Own w6 w3.heap.size 5 (.slice A3 la c3) (bv (bs P)) := by rw [← hw6]; exact (((hO5.alloc _).below hBm).alloc _).alloc _
  have hB6 : Below w.heap.size w w6 := by rw [← hw6]; exact ((hBs5.trans (hBm.mono (by simp; omega))).alloc (by omega) _).alloc (by simp; omega) _
  have hs6 : wm.heap.size + 2 ≤ w6.heap.size ∧ w6.heap.size ≤ wm.heap.size + 2 := by rw [← hw6]; simp
  have hQ0 : coef Q dg ≠ 0 := by
   have := lead (p := Q) (by rw [← HQ.out, len_trim, HDG.out]; omega)
   rw [← HQ.out, len_trim, HDG.out] at this
   rw [← HQ.out]; exact this
  have HQ0 := Lib.hid hQ0
  have hfb := hcut2.far HB2.out (hg.far (by simp; omega) hfar2 HB2.out)
  have HBB : Hid (Bytes w B2 (bs (trim q))) := Lib.hid (hcut2.bytes HB2.out)
  rw [HQ.out] at hfb HBB
  have h0 : DivAt w6 (w4.heap.size + 1) nq dg la P Q P := by
   refine ⟨List.replicate nq 0, by simp, hgq6, ?_, fun i hi => coef_of_le (by have := HLA.out; omega), fun i _ => ?_⟩
   ·refine fun i => ?_
    have : Eqv (List.replicate nq (0 : F8)) [] := (trim_nil_iff (p := List.replicate nq (0 : F8))).1 (by rw [show List.replicate nq (0 : F8) = [] ++ List.replicate nq 0 from rfl]; exact trim_zeros nq)
    rw [coef_padd, pmul_zero_left Q this i, coef_nil, zero_add]
   ·have : Eqv (List.replicate nq (0 : F8)) [] := (trim_nil_iff (p := List.replicate nq (0 : F8))).1 (by rw [show List.replicate nq (0 : F8) = [] ++ List.replicate nq 0 from rfl]; exact trim_zeros nq)
    rw [this i, coef_nil]
  have hmx : Tryz.prog.follows .mixedOrders = true := by kernel_rfl
  rw [hw6]
  have hgrx : ∀ a, A3 = some a → a.block < w4.heap.size := fun a ha => by subst ha; exact (hO5.lt a.block rfl).2
  clear hw6 hmk hbf5 hbb5 hbd6 hbd5 hbr hcr hcd6 hOm hO5 hF5 hgq6 hbf4 hbb4 hbd4 hbf3 hbb3 hbd3 hbf2 hbb2 hbd2 hlt0 hF2 hF3 hF4 hdneg hq1 hfar2 hQ0
  refine wpIn_wide.1 (wpIn_down (n := 9) (by omega) (Bn := wm.heap.size + 1) (m := la) (c := c3) (A := A3) (by omega) rfl
   (fun k r V => r.length = la ∧ Own V w3.heap.size 5 (.slice A3 la c3) (bv (bs r)) ∧ Block V (wm.heap.size + 1) 35 #[.slice A3 la c3] ∧ Block V w.heap.size 30 #[.pointer (some ⟨g, 0, none⟩)] ∧ Block V (w.heap.size + 1) 35 #[.slice B2 (dg + 1) d] ∧ Block V w1.heap.size 3 #[.int .i64 dg] ∧ Block V w4.heap.size 35 #[.slice A3 la c3] ∧ Block V wm.heap.size 35 #[.slice (some ⟨w4.heap.size + 1, 0, none⟩) nq nq] ∧ DivAt V (w4.heap.size + 1) nq dg k P Q r ∧ Fld V g ∧ Past w.heap.size g w V)
   (fun j V => j = .exit 0 ∧ ∃ r, r.length = la ∧ Own V w3.heap.size 5 (.slice A3 la c3) (bv (bs r)) ∧ Block V w4.heap.size 35 #[.slice A3 la c3] ∧ Block V wm.heap.size 35 #[.slice (some ⟨w4.heap.size + 1, 0, none⟩) nq nq] ∧ DivAt V (w4.heap.size + 1) nq dg 0 P Q r ∧ Fld V g ∧ Past w.heap.size g w V)
   (fun k r V V' ⟨h1, h2, h3, h4, h5, h6, h7, h8, h9, h10, h11⟩ ht => ⟨h1, ht.own h2, ht.block h3, ht.block h4, ht.block h5, ht.block h6, ht.block h7, ht.block h8, h9.turn ht, h10.imp ht.block ht.block, ht.past h11 (by omega)⟩)
   (fun j V V' ⟨h0, r, h1, h2, h7, h8, h9, h10, h11⟩ ht => ⟨h0, r, h1, ht.own h2, ht.block h7, ht.block h8, h9.turn ht, h10.imp ht.block ht.block, ht.past h11 (by omega)⟩)
   (fun k r V ⟨h1, h2, h3, _⟩ => ⟨h1, by rw [← h1] at h2; exact Own.bytes h2, h3.cell 0⟩)
   P ⟨HLA.out, hO6, hbi6, hbf6, hbb6, hbd7, hbr6, hbq6, h0, hF6, Past.of_below hB6 _⟩
   ?a1B ?assignB ?bodyB ?doneB ?stopB)
  case assignB =>
   intro l k y V K hK
   gi_wp2
   exact hK
  case bodyB =>
   rintro l k r V hk ⟨h1, h2, h3, h4, h5, h6, h7, h8, ⟨qt, hql, hqb, hqe, hqd, hqz⟩, h10, h11⟩ hsV
   have hc4 := h4.cell 0
   have hc5 := h5.cell 0
   have hc6 := h6.cell 0
   have hc7 := h7.cell 0
   have hc8 := h8.cell 0
   by_cases hkd : k < dg
   ·have hkd1 : decide ((k : Int) < (dg : Int)) = true := by simp; omega
    have HQE := Lib.hid hqe
    have HQZ := Lib.hid hqz
    have HR := Lib.hid h1
    have HQLn := Lib.hid hql
    clear hqe hqz h1 hql
    gi_wp2
    exact ⟨keeps_below (Below.refl _ _), rfl, r, HR.out, h2, h7, h8, ⟨qt, HQLn.out, hqb, HQE.out, by rw [show max 0 dg = max (k + 1) dg by omega]; exact hqd, fun i hi => by omega⟩, h10, h11⟩
   ·obtain ⟨gr, c4, e4, hgr1, hgr2, _⟩ := Own.form1 h2 (by rw [bvs_length, h1]; omega)
    injection e4 with e4 e7 e8
    clear e7 e8
    have HBV := bytes_far HBB.out (fun hp a ha => (hfb hp a ha).1) h11
    obtain ⟨b, o, hB2e⟩ := where_ HBV (by have := HQL.out; omega)
    have hcq := cellF HBV dg (by have := HQL.out; omega)
    rw [hB2e] at hcq
    obtain ⟨b', o', e5, hcq⟩ := hcq
    injection e5 with e5
    injection e5 with e5 e6
    subst e5 e6
    subst hB2e
    obtain ⟨j, hj⟩ : ∃ j : Nat, (k : Int) - (dg : Int) = (j : Int) := ⟨k - dg, by omega⟩
    have hjn : j = k - dg := by omega
    obtain ⟨x, hx⟩ : ∃ x, coef r k = x := ⟨_, rfl⟩
    obtain ⟨ld, hld⟩ : ∃ x, coef Q dg = x := ⟨_, rfl⟩
    have hld0 : ld ≠ 0 := by rw [← hld]; exact HQ0.out
    rw [hld] at hcq
    rw [hx]
    have hkd1 : decide ((k : Int) < (dg : Int)) = false := by simp; omega
    have hjq : j < nq := by have := HNQ.out; omega
    have hjl : j < la := by omega
    have HQE := Lib.hid hqe
    have HQZ := Lib.hid hqz
    have HR := Lib.hid h1
    have HQLn := Lib.hid hql
    have HX := Lib.hid hx
    have HLD := Lib.hid hld
    have HJ := Lib.hid hjn
    have HE4 := Lib.hid e4
    have hltV : ∀ {i t cs}, Block V i t cs → i < V.heap.size := fun h => h.lt
    obtain ⟨S, hSdef⟩ : ∃ S : World → Prop, S = fun V' => V'.cell? ⟨wm.heap.size, 0, none⟩ = some (.slice (some ⟨w4.heap.size + 1, 0, none⟩) nq nq) ∧ V'.cell? ⟨w.heap.size, 0, none⟩ = some (.pointer (some ⟨g, 0, none⟩)) ∧ V'.cell? ⟨w.heap.size + 1, 0, none⟩ = some (.slice (some ⟨b, o, none⟩) (dg + 1) d) ∧ V'.cell? ⟨w1.heap.size, 0, none⟩ = some (.int .i64 dg) ∧ V'.cell? ⟨b, o + dg, none⟩ = some (.int .u8 ld.n) ∧ True := ⟨_, rfl⟩
    have hbg := hfb (by intro e; have := HQL.out; rw [e] at this; simp at this) _ rfl
    simp only at hbg
    have hS : ∀ V', But V.heap.size (fun i => i = g ∨ i = w4.heap.size + 1) V V' → S V' := fun V' hP => by
     rw [hSdef]
     exact ⟨(hP.blk h8 (hltV h8) (by omega)).cell 0, (hP.blk h4 (hltV h4) (by have := hgne w.heap.size (by omega) (by omega); omega)).cell 0, (hP.blk h5 (hltV h5) (by have := hgne (w.heap.size + 1) (by omega) (by omega); omega)).cell 0, (hP.blk h6 (hltV h6) (by have := hgne w1.heap.size (by omega) (by omega); omega)).cell 0, (World.cell?_of_block (hP.block b (cell_lt hcq) (by omega))).trans hcq, trivial⟩
    have HSD := Lib.hid hSdef
    clear hqe hqz h1 hql hx hld hjn e4 hSdef
    gi_wp2
    refine region_round_held (S := S) hmx (by kernel_rfl) (fun h => by obtain ⟨a, w, h⟩ := h; exact h) (hS _ ((But.refl _ _ _).drew)) (fun hS0 => ?_)
    refine wpAnyH_take (i := 0) (v := .slice (some ⟨w4.heap.size + 1, 0, none⟩) nq nq) rfl (by kernel_rfl) (by kernel_rfl) (by kernel_rfl) (fun _ _ _ h => h) (Or.inl ⟨by rfl, fun W hW => by rw [HSD.out] at hW; obtain ⟨s1, s2, s3, s4, s5, _⟩ := hW; go_simp⟩) hS0 ?_
    simp only [Act.put, List.setIfInBounds_toArray, List.set_cons_zero, List.set_cons_succ]
    refine wpAnyH_take (i := 1) (v := .int .i64 (j : Int)) rfl (by kernel_rfl) (by kernel_rfl) (by kernel_rfl) (fun _ _ _ h => h) (Or.inl ⟨by rfl, fun W hW => by rw [HSD.out] at hW; obtain ⟨s1, s2, s3, s4, s5, _⟩ := hW; go_simp⟩) hS0 ?_
    simp only [Act.put, List.setIfInBounds_toArray, List.set_cons_zero, List.set_cons_succ]
    refine wpAnyH_take (i := 2) (v := .pointer (some ⟨g, 0, none⟩)) rfl (by kernel_rfl) (by kernel_rfl) (by kernel_rfl) (fun _ _ _ h => h) (Or.inl ⟨by rfl, fun W hW => by rw [HSD.out] at hW; obtain ⟨s1, s2, s3, s4, s5, _⟩ := hW; go_simp⟩) hS0 ?_
    simp only [Act.put, List.setIfInBounds_toArray, List.set_cons_zero, List.set_cons_succ]
    refine wpAnyH_take (i := 3) (v := .int .u8 (x.n : Int)) rfl (by kernel_rfl) (by kernel_rfl) (by kernel_rfl) (fun _ _ _ h => h) (Or.inl ⟨by rfl, fun W hW => by rw [HSD.out] at hW; obtain ⟨s1, s2, s3, s4, s5, _⟩ := hW; go_simp⟩) hS0 ?_
    simp only [Act.put, List.setIfInBounds_toArray, List.set_cons_zero, List.set_cons_succ]
    refine wpAnyH_take (i := 4) (v := .slice (some ⟨b, o, none⟩) (dg + 1) d) rfl (by kernel_rfl) (by kernel_rfl) (by kernel_rfl) (fun _ _ _ h => h) (Or.inl ⟨by rfl, fun W hW => by rw [HSD.out] at hW; obtain ⟨s1, s2, s3, s4, s5, _⟩ := hW; go_simp⟩) hS0 ?_
    simp only [Act.put, List.setIfInBounds_toArray, List.set_cons_zero, List.set_cons_succ]
    refine wpAnyH_take (i := 5) (v := .int .i64 (dg : Int)) rfl (by kernel_rfl) (by kernel_rfl) (by kernel_rfl) (fun _ _ _ h => h) (Or.inl ⟨by rfl, fun W hW => by rw [HSD.out] at hW; obtain ⟨s1, s2, s3, s4, s5, _⟩ := hW; go_simp⟩) hS0 ?_
    simp only [Act.put, List.setIfInBounds_toArray, List.set_cons_zero, List.set_cons_succ]
    refine wpAnyH_take (i := 6) (v := .pointer (some ⟨b, o + dg, none⟩)) rfl (by kernel_rfl) (by kernel_rfl) (by kernel_rfl) (fun _ _ _ h => h) (Or.inl ⟨by rfl, fun W hW => by go_simp; intro h; omega⟩) hS0 ?_
    simp only [Act.put, List.setIfInBounds_toArray, List.set_cons_zero, List.set_cons_succ]
    refine wpAnyH_take (i := 7) (v := .int .u8 (ld.n : Int)) rfl (by kernel_rfl) (by kernel_rfl) (by kernel_rfl) (fun _ _ _ h => h) (Or.inl ⟨by rfl, fun W hW => by rw [HSD.out] at hW; obtain ⟨s1, s2, s3, s4, s5, _⟩ := hW; go_simp⟩) hS0 ?_
    simp only [Act.put, List.setIfInBounds_toArray, List.set_cons_zero, List.set_cons_succ]
    refine wpAnyH_all (rs := [8]) (by kernel_rfl) (by simp) (fun i hi => ?_)
    obtain rfl : i = 8 := by simpa using hi
    refine wpOp_call rfl (by rfl) ?_
    go_simp
    refine (div_f g x ld hld0 _ (show Fld V.drew g from h10)).mono ?_
    rintro e V2 ⟨rfl, hF2, hP2⟩
    obtain ⟨y, hy⟩ : ∃ y, x / ld = y := ⟨_, rfl⟩
    rw [hy]
    have HYY := Lib.hid hy
    have hS1 := hS V2 (But.drew (But.refl _ _ _) |>.trans (But.of_past hP2 (.inl rfl)))
    have hq2 := hqb.drew.past hP2 hqb.drew.lt (by omega)
    have hcq2 := (hq2.cell j).trans (bvs_get qt j (by rw [HQLn.out]; exact hjq))
    have hfq2 := hq2.frozen j
    clear hy
    refine ⟨hS1, ?_⟩
    refine wpAnyH_take (i := 9) (v := .tuple #[.int .u8 (y.n : Int), .bool true]) rfl (by kernel_rfl) (by kernel_rfl) (by kernel_rfl) (fun _ _ _ h => h) (Or.inl ⟨by rfl, fun W hW => by go_simp⟩) hS1 ?_
    simp only [Act.put, List.setIfInBounds_toArray, List.set_cons_zero, List.set_cons_succ]
    refine wpAnyH_take (i := 10) (v := .int .u8 (y.n : Int)) rfl (by kernel_rfl) (by kernel_rfl) (by kernel_rfl) (fun _ _ _ h => h) (Or.inl ⟨by rfl, fun W hW => by go_simp⟩) hS1 ?_
    simp only [Act.put, List.setIfInBounds_toArray, List.set_cons_zero, List.set_cons_succ]
    refine wpAnyH_take (i := 11) (v := .bool true) rfl (by kernel_rfl) (by kernel_rfl) (by kernel_rfl) (fun _ _ _ h => h) (Or.inl ⟨by rfl, fun W hW => by go_simp⟩) hS1 ?_
    simp only [Act.put, List.setIfInBounds_toArray, List.set_cons_zero, List.set_cons_succ]
    refine wpAnyH_take (i := 12) (v := .pointer (some ⟨w4.heap.size + 1, j, none⟩)) rfl (by kernel_rfl) (by kernel_rfl) (by kernel_rfl) (fun _ _ _ h => h) (Or.inl ⟨by rfl, fun W hW => by go_simp⟩) hS1 ?_
    simp only [Act.put, List.setIfInBounds_toArray, List.set_cons_zero, List.set_cons_succ]
    refine wpAnyH_all (rs := [13]) (by kernel_rfl) (by simp) (fun i hi => ?_)
    obtain rfl : i = 13 := by simpa using hi
    refine wpOp_call rfl (by rfl) ?_
    go_simp
    have hU3 : But V.heap.size (fun i => i = g ∨ i = w4.heap.size + 1) V (V2.setCell ⟨w4.heap.size + 1, j, none⟩ (.int .u8 (y.n : Int))) :=
     ((But.refl _ _ V).drew.trans (But.of_past hP2 (.inl rfl))).setCell (p := ⟨w4.heap.size + 1, j, none⟩) (.inl (.inr rfl)) _
    have hgrlt := hgrx _ HE4.out
    have hO2 : Own (V2.setCell ⟨w4.heap.size + 1, j, none⟩ (.int .u8 (y.n : Int))) w3.heap.size 5 (.slice A3 la c3) (bv (bs r)) :=
     (own_keep h2.drew (FldP.of (show Fld V.drew g from h10)) hP2).far (by rw [HE4.out]; simp [Value.ownBlock] at hgrlt ⊢; omega) _
    have hF3 : Fld (V2.setCell ⟨w4.heap.size + 1, j, none⟩ (.int .u8 (y.n : Int))) g := hF2.imp (fun h => h.far (by simp; omega) _) (fun h => h.far (by simp; omega) _)
    have hq3 : Block (V2.setCell ⟨w4.heap.size + 1, j, none⟩ (.int .u8 (y.n : Int))) (w4.heap.size + 1) 5 (bv (bs (qt.set j y))).toArray := by rw [← bvs_set]; exact hq2.set_ j _
    refine ⟨hS _ hU3, wpAnyH_done (by kernel_rfl) ?_ _⟩
    obtain ⟨V3, hV3⟩ : ∃ V3, V2.setCell ⟨w4.heap.size + 1, j, none⟩ (.int .u8 (y.n : Int)) = V3 := ⟨_, rfl⟩
    rw [hV3] at hU3 hO2 hF3 hq3 ⊢
    have hkp : KeepsFrom w6.heap.size V V3 := keeps_but hU3 (fun i o hi ho => by rcases hi with rfl | rfl; exact Fld.isCells h10 ho; exact Block.isCells hqb ho)
    have hbi3 := hU3.blk h3 (hltV h3) (by omega)
    have hbf3 := hU3.blk h4 (hltV h4) (by have := hgne w.heap.size (by omega) (by omega); omega)
    have hbb3 := hU3.blk h5 (hltV h5) (by have := hgne (w.heap.size + 1) (by omega) (by omega); omega)
    have hbd3 := hU3.blk h6 (hltV h6) (by have := hgne w1.heap.size (by omega) (by omega); omega)
    have hbr3 := hU3.blk h7 (hltV h7) (by omega)
    have hbq3 := hU3.blk h8 (hltV h8) (by omega)
    have hcf3 := hbf3.cell 0
    have hcb3 := hbb3.cell 0
    have hcr3 := hbr3.cell 0
    have hcq3 := hbq3.cell 0
    have hcy3 := (hq3.cell j).trans (bvs_get (qt.set j y) j (by rw [List.length_set, HQLn.out]; exact hjq))
    rw [coef_set qt j y (by rw [HQLn.out]; exact hjq) j, if_pos rfl] at hcy3
    rw [HE4.out] at hcr3
    have hsx := slice_own2 gr la c3 j hjl hc3
    have hP3 : Past w.heap.size g w V3 := h11.trans ((hU3.mono (S' := (· = g)) (by omega) (fun i hi h => by omega)).past)
    have HBV3 := Lib.hid (bytes_far HBB.out (fun hp a ha => (hfb hp a ha).1) hP3)
    have hsz3 := hU3.size
    rw [HE4.out] at hO2
    clear hV3 hcq2 hfq2 hS1 hS hc4 hc5 hc6 hc7 hc8 hcq hq2
    gi_wp2
    refine region_round_tail 9 hmx (by kernel_rfl) (by kernel_rfl) (fun h => by obtain ⟨a, w, h⟩ := h; exact h) ?_
    simp only [List.take_succ_cons, List.take_zero, List.drop_succ_cons, List.drop_zero]
    iterate 9 still_step
    refine wpStill_nil ?_
    go_wp2_with fail
    refine (addTimes_calls w3.heap.size g gr la c3 j (la - j) (c3 - j) (some ⟨gr, j, none⟩) (some ⟨b, o, none⟩) r Q (dg + 1) d y V3.drew hF3 hO2.drew HR.out HQL.out (fun _ => rfl) (by rw [HR.out]; have := HJ.out; omega) (by have := HJ.out; omega) HBV3.out.drew (fun hp a ha => ⟨by have := (hfb hp a ha).2; omega, (hfb hp a ha).1⟩) (by omega) (by rw [HR.out]; omega)).mono ?_
    rintro e V4 ⟨rfl, ⟨r2, g1, g2, g3⟩, hF4, hU4⟩
    rw [HR.out] at g1
    have G1 := Lib.hid g1
    have G2 := Lib.hid g2
    clear g1 g2
    go_wp2
    have hszd : V3.drew.heap.size = V3.heap.size := rfl
    have hl4 : ∀ {i t cs}, Block V3 i t cs → i < V3.drew.heap.size := fun h => h.lt
    have hdr := div_round (k := k) (dg := dg) (y := y) (P := P) (Q := Q) (r := r) (r' := r2) (qt := qt) (by omega) HQL.out HQ0.out (by rw [HX.out, HLD.out]; exact HYY.out.symm) (by rw [HQLn.out, ← HJ.out]; exact hjq) HQE.out hqd HQZ.out (by rw [← HJ.out]; exact G2.out)
    rw [← HJ.out] at hdr
    rw [← HE4.out] at g3
    refine ⟨hkp.trans (((KeepsOthers.drew V3).from _).trans (keeps_but hU4 (fun i o hi ho => by rcases hi with rfl | rfl; exact Own.isCells hO2.drew ho; exact Fld.isCells (show Fld V3.drew _ from hF3) ho))), r2, G1.out, g3,
     hU4.blk hbi3.drew (hl4 hbi3) (by omega), hU4.blk hbf3.drew (hl4 hbf3) (by have := hgne w.heap.size (by omega) (by omega); omega), hU4.blk hbb3.drew (hl4 hbb3) (by have := hgne (w.heap.size + 1) (by omega) (by omega); omega), hU4.blk hbd3.drew (hl4 hbd3) (by have := hgne w1.heap.size (by omega) (by omega); omega),
     hU4.blk hbr3.drew (hl4 hbr3) (by omega), hU4.blk hbq3.drew (hl4 hbq3) (by omega), ⟨qt.set j y, by rw [List.length_set, HQLn.out], hU4.blk hq3.drew (hl4 hq3) (by omega), hdr.1, hdr.2.1, hdr.2.2⟩, hF4, hP3.drew.trans ((hU4.mono (S' := (· = g)) (by omega) (fun i hi h => by omega)).past)⟩
  case doneB =>
   rintro r V ⟨h1, h2, _, _, _, _, h7, h8, h9, h10, h11⟩ hD
   have hc7 := h7.cell 0
   have hc8 := h8.cell 0
   have HR := Lib.hid h1
   have HO := Lib.hid h2
   have HRB : Hid (Bytes V A3 (bs r)) := Lib.hid (by rw [← h1] at h2; exact Own.bytes h2)
   have hV3 : w.heap.size ≤ V.heap.size := by have := h7.lt; omega
   obtain ⟨n3, hn3⟩ : ∃ k, len r = k := ⟨_, rfl⟩
   have HN3 := Lib.hid hn3
   have H9 := Lib.hid h9
   clear h1 h2 hn3 h9
   go_wp2_with fail
   refine wp_region_noPanic ?_
   go_region_with (go_at_call 87; refine (trimmed_calls A3 r la c3 _ HR.out HRB.out.drew hc3 (by omega)).mono ?_; rintro e V5 ⟨A5, rfl, hcut5, hB55⟩; rw [HN3.out]; have hc9 := (h8.drew.below hB55 h8.lt).cell 0)
   all_goals
    refine NoPanic.normal ?_
    go_wp2
    have hK := (hB55.block _ (Array.getElem?_eq_some_iff.1 hD).1).trans hD
    refine ⟨by simp, .inl ⟨_, _, rfl, run_takeDeferred hK, ?_⟩⟩
    have ht : Turn w.heap.size V5 _ := Turn.put hK rfl (by omega) (.deferred none)
    have ht2 : Turn w.heap.size V _ := (⟨(Below.refl w.heap.size V).drew.trans (hB55.mono hV3), fun i cs t fr hi => (hB55.block i (Array.getElem?_eq_some_iff.1 hi).1).trans hi⟩ : Turn w.heap.size V V5).trans ht
    obtain ⟨qt, q1, q2, q3, q4, _⟩ := H9.out.turn ht2
    have hdv := div_end HP.out HQ.out HLA.out HDG.out HNQ.out q1 q3 (by rw [Nat.zero_max] at q4; exact q4)
    have hfin := (hcut5.own HR.out (ht2.own HO.out))
    rw [HN3.out] at hfin
    have hlt : (trim r).length = n3 := by rw [← HN3.out]; rfl
    refine ⟨_, results_tmp3 rfl _ _ _, qt, trim r, hdv, some ⟨w4.heap.size + 1, 0, none⟩, nq, A5, c3, by rw [q1, hlt]; rfl, by rw [q1]; exact Nat.le_refl _, by have := trim_le r; rw [HR.out] at this; omega, ?_, ?_, hg.fldP (h10.imp ht2.block ht2.block), hg.past (by simp; omega) (ht2.past h11 (Nat.le_refl _))⟩
    ·rw [q1]; exact Own.of_block q2 (by omega) (by rw [bvs_length, q1]) (by have := HNQ.out; simp only [maxLen]; omega)
    ·rw [hlt]; exact Own.more hfin (by omega)
  case stopB =>
   rintro ex V ⟨rfl, r, h1, h2, h7, h8, h9, h10, h11⟩ hD
   refine wpIn_wide.2 ?_
   have hc7 := h7.cell 0
   have hc8 := h8.cell 0
   have HR := Lib.hid h1
   have HO := Lib.hid h2
   have HRB : Hid (Bytes V A3 (bs r)) := Lib.hid (by rw [← h1] at h2; exact Own.bytes h2)
   have hV3 : w.heap.size ≤ V.heap.size := by have := h7.lt; omega
   obtain ⟨n3, hn3⟩ : ∃ k, len r = k := ⟨_, rfl⟩
   have HN3 := Lib.hid hn3
   have H9 := Lib.hid h9
   clear h1 h2 hn3 h9
   go_wp2_with fail
   refine wp_region_noPanic ?_
   go_region_with (go_at_call 87; refine (trimmed_calls A3 r la c3 _ HR.out HRB.out.drew hc3 (by omega)).mono ?_; rintro e V5 ⟨A5, rfl, hcut5, hB55⟩; rw [HN3.out]; have hc9 := (h8.drew.below hB55 h8.lt).cell 0)
   all_goals
    refine NoPanic.normal ?_
    go_wp2
    have hK := (hB55.block _ (Array.getElem?_eq_some_iff.1 hD).1).trans hD
    refine ⟨by simp, .inl ⟨_, _, rfl, run_takeDeferred hK, ?_⟩⟩
    have ht : Turn w.heap.size V5 _ := Turn.put hK rfl (by omega) (.deferred none)
    have ht2 : Turn w.heap.size V _ := (⟨(Below.refl w.heap.size V).drew.trans (hB55.mono hV3), fun i cs t fr hi => (hB55.block i (Array.getElem?_eq_some_iff.1 hi).1).trans hi⟩ : Turn w.heap.size V V5).trans ht
    obtain ⟨qt, q1, q2, q3, q4, _⟩ := H9.out.turn ht2
    have hdv := div_end HP.out HQ.out HLA.out HDG.out HNQ.out q1 q3 (by rw [Nat.zero_max] at q4; exact q4)
    have hfin := (hcut5.own HR.out (ht2.own HO.out))
    rw [HN3.out] at hfin
    have hlt : (trim r).length = n3 := by rw [← HN3.out]; rfl
    refine ⟨_, results_tmp3 rfl _ _ _, qt, trim r, hdv, some ⟨w4.heap.size + 1, 0, none⟩, nq, A5, c3, by rw [q1, hlt]; rfl, by rw [q1]; exact Nat.le_refl _, by have := trim_le r; rw [HR.out] at this; omega, ?_, ?_, hg.fldP (h10.imp ht2.block ht2.block), hg.past (by simp; omega) (ht2.past h11 (Nat.le_refl _))⟩
    ·rw [q1]; exact Own.of_block q2 (by omega) (by rw [bvs_length, q1]) (by have := HNQ.out; simp only [maxLen]; omega)
    ·rw [hlt]; exact Own.more hfin (by omega)
end Go.Proofs.YtjoghbmedfmioabGreat.Poly
