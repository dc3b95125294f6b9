/- Of the program, joined: MatMulP. -/
import Derived.Test.YtjoghbmedfmioaaGreatPb13
import Derived.Deep.WholeRow
namespace Go.Proofs.YtjoghbmedfmioaaGreat.Mat
open Go.RowKit Go.Shelf F8 Poly GF
attribute [local go_sem] Oper.semAt_some
def zmc (i : Nat) : Value := if i = 0 then .pointer none else if i < 257 then .int .i64 0 else .pointer none
def zmcells : Array Value := Array.ofFn (n := 513) fun i => zmc i
theorem zero_multiplier (w : World) : (zeroValue 135).run Tryz.prog w = .ok (.agg zmcells) w := by kernel_rfl
theorem zmcells_set (gf : Nat) : zmcells.setIfInBounds 0 (.pointer (some ⟨gf, 0, none⟩)) = mcells gf (fun _ => 0) (fun _ => none) := by
 apply Array.ext
 ·simp [zmcells, mcells]
 ·intro i h1 h2
  have hi : i < 513 := by simpa [mcells] using h2
  rw [Array.getElem_setIfInBounds (by simpa [zmcells] using hi)]
  simp only [zmcells, mcells, Array.getElem_ofFn]
  unfold zmc mc
  by_cases h : i = 0
  ·subst h; rfl
  ·rw [if_neg (fun e => h e.symm), if_neg h, if_neg h]; rfl
theorem store_mul (gf : Nat) (w : World) : (storeCells ⟨w.heap.size, 0, none⟩ (zmcells.toList.set 0 (.pointer (some ⟨gf, 0, none⟩)))).run Tryz.prog (w.alloc (.cells zmcells 135)) = .ok () (w.alloc (.cells (mcells gf (fun _ => 0) (fun _ => none)) 135)) := by
 have e : zmcells.toList.set 0 (.pointer (some ⟨gf, 0, none⟩)) = (mcells gf (fun _ => 0) (fun _ => none)).toList := by
  rw [← zmcells_set, Array.toList_setIfInBounds]
 rw [e]
 have hz : (mcells gf (fun _ => 0) (fun _ => none)).size = 513 := by simp [mcells]
 have hi : (Tryz.prog.info? 135).map (·.size) = some 513 := by kernel_rfl
 refine run_storeCells_new w 135 zmcells _ (by rw [hz]; exact hi) (by rw [hz]; simp [zmcells]) ?_
 rw [Array.all_eq_true]
 intro i hi2
 have hi3 : i < 513 := by rw [hz] at hi2; exact hi2
 simp only [mcells, Array.getElem_ofFn]
 unfold mc
 split
 ·rfl
 ·split <;> rfl
theorem mulst_new (w : World) (gf : Nat) : MulSt (w.alloc (.cells (mcells gf (fun _ => 0) (fun _ => none)) 135)) w.heap.size gf :=
 ⟨_, _, Block.new _ _ _, fun _ => by omega, fun _ => .inl rfl⟩
theorem wpAnyH_one {P : Program} {ops : Array Oper} {Q : Exit → Act → World → Prop} {md : Region.Mode} {S : World → Prop} {fuel i : Nat} {listed : Array Bool} {o : Oper} {a : Act} {w : World} (hr : Region.ready md ops listed = [i]) (ho : ops[i]? = some o) (hw : Region.wanted o (yielded ops a.tmps) = true)
  (h : o.wp P a w (fun a2 w2 => S w2 ∧ wpAnyH P md ops Q S fuel (listed.setIfInBounds i true) a2 w2) Q) : wpAnyH P md ops Q S (fuel + 1) listed a w :=
 wpAnyH_all hr (by simp) (fun j hj => (by simpa using hj : j = i) ▸ wpOp_call ho hw h)
def mulT (s q : List F8) (n m i j a b : Nat) : F8 := if a < i then mulF n (ent s n) (ent q m) a b else if a = i then sum j (fun l => ent s n a l * ent q m l b) else 0
theorem mulT_step {r n m i j : Nat} {s q t t' : List F8} (h : IsM r m t (mulT s q n m i j)) (h2 : SoFar t t' (rowL q m j) (i * m) m (ent s n i j)) : IsM r m t' (mulT s q n m i (j + 1)) := by
 refine ⟨by rw [h2.1, h.len], fun a b ha hb => ?_⟩
 have e : ent t' m a b = ent t m a b + if i * m ≤ a * m + b ∧ a * m + b < i * m + m then ent s n i j * coef (rowL q m j) (a * m + b - i * m) else 0 := h2.2 _
 rw [e, h.ent a b ha hb]
 unfold mulT
 by_cases e1 : a = i
 ·subst e1
  have h0 : a * m ≤ a * m + b ∧ a * m + b < a * m + m := ⟨Nat.le_add_right _ _, Nat.add_lt_add_left hb _⟩
  simp only [Nat.lt_irrefl, if_false, if_true, h0, and_self, Nat.add_sub_cancel_left, coef_rowL hb]
  rfl
 ·rw [if_neg (fun h => e1 ((idx_row hb).1 h)), add_zero]
  by_cases e2 : a < i
  ·rw [if_pos e2, if_pos e2]
  ·rw [if_neg e2, if_neg e1, if_neg e2, if_neg e1]
theorem mulT_row {r n m i : Nat} {s q t : List F8} (h : IsM r m t (mulT s q n m i n)) : IsM r m t (mulT s q n m (i + 1) 0) :=
 h.congr fun a b ha hb => by
  unfold mulT
  by_cases e1 : a < i
  ·rw [if_pos e1, if_pos (by omega)]
  ·rw [if_neg e1]
   by_cases e2 : a = i
   ·rw [if_pos e2, if_pos (by omega)]; rfl
   ·rw [if_neg e2, if_neg (by omega)]
    split <;> rfl
set_option maxRecDepth 100000 in
set_option maxHeartbeats 4000000 in
theorem mul_pcalls (r n m N1 N2 N3 c1 c2 : Nat) (A B : Option Addr) (s q : List F8) (hr : r ≤ 65536) (hn : n ≤ 65536) (hm : m ≤ 65536) (hN1 : r * n = N1) (hN2 : n * m = N2) (hN3 : r * m = N3) (h3 : N3 ≤ 16777216) (hc1 : N1 ≤ c1) (hc2 : N2 ≤ c2) (hl1 : s.length = N1) (hl2 : q.length = N2)
  (w : World) (hb1 : Bytes w A (bs s)) (hb2 : Bytes w B (bs q)) (pf : Option Addr) (hf : FldP w pf) (hfar1 : Far pf A s) (hfar2 : Far pf B q) :
  Calls Tryz.prog 39 #[.pointer pf, .agg #[.int .i64 r, .int .i64 n, .slice A N1 c1], .agg #[.int .i64 n, .int .i64 m, .slice B N2 c2]] w fun e w' => MatResF pf w w' e r m (flat r m (mulF n (ent s n) (ent q m))) 0 := by
 have HR1 : Hid (RightB r n N1 = true) := Lib.hid (rightB_iff.2 ⟨r, n, rfl, rfl, hr, hn, hN1.symm⟩)
 have HR2 : Hid (RightB n m N2 = true) := Lib.hid (rightB_iff.2 ⟨n, m, rfl, rfl, hn, hm, hN2.symm⟩)
 have HB1 := Lib.hid hb1
 have HB2 := Lib.hid hb2
 have HL1 := Lib.hid hl1
 have HL2 := Lib.hid hl2
 have HN1 := Lib.hid hN1
 have HN2 := Lib.hid hN2
 have HN3 := Lib.hid hN3
 have HFar1 := Lib.hid hfar1
 have HFar2 := Lib.hid hfar2
 have k1 : ((n : Int) != (n : Int)) = false := by simp
 have k2 : ((n : Int) == (n : Int)) = true := by simp
 have k3 : decide (16777216 < (N3 : Int)) = false := by simp; omega
 have hz := zero_multiplier
 have hst := store_mul
 clear hb1 hb2 hl1 hl2 hN1 hN2 hN3 hfar1 hfar2
 refine (callsIn_wide (n := 9)).1 (callsIn_of_wp_marks Tryz.func39 rfl trivial ?_ rfl)
 simp only [Tryz.ntmps39, List.size_toArray, List.length_cons, List.length_nil, Nat.reduceAdd, Nat.reduceSub, Array.replicate_succ, Array.replicate_zero, List.push_toArray, List.append_toArray, List.nil_append, List.cons_append]
 refine wpIn_wide.2 ?_
 obtain ⟨wa, hwa⟩ : ∃ wa, ((w.alloc (.cells #[.int .i64 r, .int .i64 n, .slice A N1 c1] 62)).alloc (.cells #[.int .i64 n, .int .i64 m, .slice B N2 c2] 62)).alloc (.cells #[.int .i64 0, .int .i64 0, .slice none 0 0] 62) = wa := ⟨_, rfl⟩
 have hba : Block wa w.heap.size 62 #[.int .i64 r, .int .i64 n, .slice A N1 c1] := by rw [← hwa]; exact ((Block.new _ _ _).alloc _).alloc _
 have hbb : Block wa (w.heap.size + 1) 62 #[.int .i64 n, .int .i64 m, .slice B N2 c2] := by
  rw [← hwa]
  have := Block.new (w.alloc (.cells #[.int .i64 r, .int .i64 n, .slice A N1 c1] 62)) 62 #[.int .i64 n, .int .i64 m, .slice B N2 c2]
  rw [World.size_alloc] at this
  exact this.alloc _
 have hbr : Block wa (w.heap.size + 2) 62 #[.int .i64 0, .int .i64 0, .slice none 0 0] := by
  rw [← hwa]
  have := Block.new ((w.alloc (.cells #[.int .i64 r, .int .i64 n, .slice A N1 c1] 62)).alloc (.cells #[.int .i64 n, .int .i64 m, .slice B N2 c2] 62)) 62 #[.int .i64 0, .int .i64 0, .slice none 0 0]
  rwa [World.size_alloc, World.size_alloc] at this
 have hBa : Below w.heap.size w wa := by rw [← hwa]; exact (((Below.refl _ w).alloc (Nat.le_refl _) _).alloc (by simp) _).alloc (by simp; omega) _
 have hsa : wa.heap.size = w.heap.size + 3 := by rw [← hwa]; simp
 obtain ⟨n0, n1, n2⟩ := cells3 hba
 go_wp2_with fail
 refine (right_calls r n A N1 c1 _).mono ?_
 rintro e w1 ⟨rfl, hB1⟩
 rw [HR1.out]
 have hs1 := hB1.size
 have hba1 := hba.below hB1 hba.lt
 have hbb1 := hbb.below hB1 hbb.lt
 have hbr1 := hbr.below hB1 hbr.lt
 have hBw1 := hBa.trans (hB1.mono (by omega))
 obtain ⟨p0, p1, p2⟩ := cells3 hbb1
 clear hwa hba hbb hbr hB1 hBa n0 n1 n2
 go_wp2_with fail
 refine (right_calls n m B N2 c2 _).mono ?_
 rintro e w2 ⟨rfl, hB2⟩
 rw [HR2.out]
 have hs2 := hB2.size
 have hba2 := hba1.below hB2 hba1.lt
 have hbb2 := hbb1.below hB2 hbb1.lt
 have hbr2 := hbr1.below hB2 hbr1.lt
 have hBw2 := hBw1.trans (hB2.mono (by omega))
 obtain ⟨n0, n1, n2⟩ := cells3 hba2
 obtain ⟨q0, q1, q2⟩ := cells3 hbb2
 clear hba1 hbb1 hbr1 hB2 hBw1 p0 p1 p2
 go_wp2_with fail
 refine (area_nat r m (by rw [HN3.out]; omega) _).mono ?_
 rintro e w3 ⟨rfl, rfl⟩
 rw [HN3.out]
 go_wp2_with fail
 refine (orNew_f pf w _ hf hBw2).mono ?_
 rintro e w4 ⟨gf, rfl, hg, hF4, hB4⟩
 have hs4 := hB4.size
 have hba4 := hba2.below hB4 hba2.lt
 have hbb4 := hbb2.below hB4 hbb2.lt
 have hbr4 := hbr2.below hB4 hbr2.lt
 have hBw4 := hBw2.trans (hB4.mono (by omega))
 obtain ⟨p0, p1, p2⟩ := cells3 (hba4.alloc (.cells (mcells gf (fun _ => 0) (fun _ => none)) 135))
 obtain ⟨r0, r1, r2⟩ := cells3 (hbb4.alloc (.cells (mcells gf (fun _ => 0) (fun _ => none)) 135))
 clear hba2 hbb2 hbr2 hB4 hBw2 n0 n1 n2 q0 q1 q2
 go_wp2_with fail
 refine (zeros_calls r m N3 HN3.out (by omega) _).mono ?_
 rintro e w5 ⟨gz, rfl, z1, z2, hO, hB5⟩
 have hs5 := hB5.size
 simp only [World.size_alloc] at hs5 z1
 have hba5 := (hba4.alloc (.cells (mcells gf (fun _ => 0) (fun _ => none)) 135)).below hB5 (by simp; have := hba4.lt; omega)
 have hbb5 := (hbb4.alloc (.cells (mcells gf (fun _ => 0) (fun _ => none)) 135)).below hB5 (by simp; have := hbb4.lt; omega)
 have hbr5 := (hbr4.alloc (.cells (mcells gf (fun _ => 0) (fun _ => none)) 135)).below hB5 (by simp; have := hbr4.lt; omega)
 have hM5 := (mulst_new w4 gf).below hB5
 have hF5 := (hF4.alloc (.cells (mcells gf (fun _ => 0) (fun _ => none)) 135)).below hB5 (by simp; have := hF4.lt; omega)
 have hBw5 := (hBw4.alloc (by omega) (.cells (mcells gf (fun _ => 0) (fun _ => none)) 135)).trans (hB5.mono (by simp; omega))
 have hbl := hba4.lt
 obtain ⟨n0, n1, n2⟩ := cells3 (hba5.alloc (.cells #[.int .i64 r, .int .i64 m, .slice (some ⟨gz, 0, none⟩) N3 N3] 62))
 have hgflt := hF4.lt
 obtain ⟨qm, hqm⟩ : ∃ qm, w4.heap.size = qm := ⟨_, rfl⟩
 rw [hqm] at hM5 hgflt
 clear hba4 hbb4 hbr4 hB5 hBw4 p0 p1 p2 r0 r1 r2
 go_wp2_with fail
 refine (all_calls r n N1 c1 A (by omega) _).mono ?_
 rintro e W0 ⟨Bat, Bm, gi, rfl, a1, a2, a3, hV, hB0, a4⟩
 simp only [World.size_alloc] at a1 a2 a3
 have hs0 := hB0.size
 simp only [World.size_alloc] at hs0
 have hbb0 := (hbb5.alloc (.cells #[.int .i64 r, .int .i64 m, .slice (some ⟨gz, 0, none⟩) N3 N3] 62)).below hB0 (by simp; omega)
 have hbr0 := (hbr5.alloc (.cells #[.int .i64 r, .int .i64 m, .slice (some ⟨gz, 0, none⟩) N3 N3] 62)).below hB0 (by simp; omega)
 have hbp0 : Block W0 w5.heap.size 62 #[.int .i64 r, .int .i64 m, .slice (some ⟨gz, 0, none⟩) N3 N3] := (Block.new _ _ _).below hB0 (by simp)
 have hM0 := (hM5.turn (Turn.alloc (Nat.le_refl _) (.cells #[.int .i64 r, .int .i64 m, .slice (some ⟨gz, 0, none⟩) N3 N3] 62))).below hB0
 have hF0 := (hF5.alloc (.cells #[.int .i64 r, .int .i64 m, .slice (some ⟨gz, 0, none⟩) N3 N3] 62)).below hB0 (by simp; have := hF5.lt; omega)
 have hO0 : Own W0 w.heap.size 5 (.slice (some ⟨gz, 0, none⟩) N3 N3) (bv (bs (List.replicate N3 0))) := ((hO.more (by simp; omega)).alloc _).below hB0
 have hBw : Below w.heap.size w W0 := (hBw5.alloc (by omega) _).trans (hB0.mono (by simp; omega))
 have hN1' : ∀ k, k < r → (k + 1) * n ≤ N1 := fun k hk => by rw [← HN1.out]; exact Nat.mul_le_mul_right n (by omega)
 have hN2' : ∀ k, k < n → (k + 1) * m ≤ N2 := fun k hk => by rw [← HN2.out]; exact Nat.mul_le_mul_right m (by omega)
 have hN3' : ∀ k, k < r → (k + 1) * m ≤ N3 := fun k hk => by rw [← HN3.out]; exact Nat.mul_le_mul_right m (by omega)
 have hb16 := mul_bound16 hr hn
 have hb26 := mul_bound16 hn hm
 rw [HN1.out] at hb16
 rw [HN2.out] at hb26
 have hfa := hg.far (by omega) HFar1.out HB1.out
 have hfb := hg.far (by omega) HFar2.out HB2.out
 have hgne : ∀ k, w.heap.size ≤ k → k < w2.heap.size → k ≠ gf := fun k h1 h2 => hg.ne h1 h2
 have hgq := hM0.ne_fld hF0
 have hgz := Fld.ne_own hF0 (by decide) hO0
 have hmx : Tryz.prog.follows .mixedOrders = true := by kernel_rfl
 have hgp : w5.heap.size ≠ gf := fun e => Fld.ne_block hF0 hbp0 (by decide) e.symm
 clear hO hB0 hba5 hbb5 hbr5 hBw5 n0 n1 n2 hst hz hM5 hF5
 go_wp2_with fail
 refine wpIn_wide.1 (wpIn_rows (n := 9) (by omega) (Bat := Bat) (Bm := Bm) (na := r) (ca := r) (c := n) (N := N1) (cap := c1) (Aat := some ⟨gi, 0, none⟩) (A := A) (ats := List.range r) (R := r) (fun k => k) (by simp) (by omega) (fun k hk => List.getElem?_range hk)
  (by omega) hc1 (by omega) (fun k hk => ⟨hN1' k hk, by omega⟩) rfl
  (fun k W => Vis W Bat Bm (some ⟨gi, 0, none⟩) r r (List.range r) r n A N1 c1 ∧ Block W (w.heap.size + 2) 62 #[.int .i64 0, .int .i64 0, .slice none 0 0] ∧ Block W (w.heap.size + 1) 62 #[.int .i64 n, .int .i64 m, .slice B N2 c2] ∧ Block W w5.heap.size 62 #[.int .i64 r, .int .i64 m, .slice (some ⟨gz, 0, none⟩) N3 N3] ∧ Past w.heap.size gf w W ∧ Fld W gf ∧ MulSt W qm gf ∧ ∃ t, IsM r m t (mulT s q n m k 0) ∧ Own W w.heap.size 5 (.slice (some ⟨gz, 0, none⟩) N3 N3) (bv (bs t)))
  (fun _ _ => False)
  (fun k W W' ⟨h1, h2, h3, h4, h5, h6, h7, s, h8, h9⟩ t => ⟨h1.turn t, t.block h2, t.block h3, t.block h4, t.past h5 (by omega), h6.imp t.block t.block, h7.turn t, s, h8, t.own h9⟩)
  (fun _ _ _ h _ => h)
  (fun k W h => h.1)
  ⟨hV, hbr0, hbb0, hbp0, Past.of_below hBw gf, hF0, hM0, _, ⟨by rw [List.length_replicate]; exact HN3.out.symm, fun i j _ _ => by rw [ent_replicate]; unfold mulT; rw [if_neg (by omega)]; split <;> rfl⟩, hO0⟩
  ?a1 ?assign ?body ?done (fun _ _ h => h.elim))
 case assign =>
  intro l k W K hk hK
  gi_wp2
  exact hK
 case body =>
  rintro l i W hi ⟨k1, k2, k3, k4, k5, k6, k7, t, k8, k9⟩ hsz
  have HV := Lib.hid k1
  have HR := Lib.hid k2
  have HBb := Lib.hid k3
  have HP := Lib.hid k4
  have HU := Lib.hid k5
  have HF := Lib.hid k6
  have HM := Lib.hid k7
  have HT := Lib.hid k8
  have HO := Lib.hid k9
  clear k1 k2 k3 k4 k5 k6 k7 k8 k9
  gi_wp2
  gi_loopw [52] (fun ii wr => ∃ (j : Nat) (t : List F8), j ≤ n ∧ ii = .int .i64 j ∧ Hid (Vis wr Bat Bm (some ⟨gi, 0, none⟩) r r (List.range r) r n A N1 c1) ∧ Hid (Block wr (w.heap.size + 2) 62 #[.int .i64 0, .int .i64 0, .slice none 0 0]) ∧ Hid (Block wr (w.heap.size + 1) 62 #[.int .i64 n, .int .i64 m, .slice B N2 c2]) ∧ Hid (Block wr w5.heap.size 62 #[.int .i64 r, .int .i64 m, .slice (some ⟨gz, 0, none⟩) N3 N3]) ∧ Hid (Past w.heap.size gf w wr) ∧ Hid (Fld wr gf) ∧ Hid (MulSt wr qm gf) ∧ Hid (IsM r m t (mulT s q n m i j)) ∧ Hid (Own wr w.heap.size 5 (.slice (some ⟨gz, 0, none⟩) N3 N3) (bv (bs t))) ∧ Hid (KeepsFrom W0.heap.size W wr)) (fun ii _ => n - (intOf ii).toNat)
  case atStart => exact ⟨0, t, Nat.zero_le _, rfl, HV, HR, HBb, HP, HU, HF, HM, HT, HO, Lib.hid (keeps_below (Below.refl _ _))⟩
  case round =>
   clear HV HR HBb HP HU HF HM HT HO
   obtain ⟨j, t, hj, rfl, HV, HR, HBb, HP, HU, HF, HM, HT, HO, HK⟩ := hrel
   by_cases hjn : j < n
   ·have hx : i * n + j < s.length := by rw [HL1.out, ← HN1.out]; exact idx_lt hi hjn
    have hbw := bytes_far HB1.out (fun hp a ha => (hfa hp a ha).1) HU.out
    obtain ⟨b, o, rfl⟩ := where_ hbw (by omega)
    have hcell := cellAt hbw _ hx
    have hi3 := hN3' i hi
    have hj2 := hN2' j hjn
    have hi1 := hN1' i hi
    have htl : t.length = N3 := by rw [HT.out.len, HN3.out]
    have HTL := Lib.hid htl
    rw [rowA_some _ _ _ _ (by omega)]
    have hy : coef s (i * n + j) = ent s n i j := rfl
    rw [hy, ← Nat.add_assoc] at hcell
    obtain ⟨y, hy⟩ : ∃ y, ent s n i j = y := ⟨_, rfl⟩
    have HY := Lib.hid hy
    rw [hy] at hcell
    obtain ⟨x, hx⟩ : ∃ x, i * n = x := ⟨_, rfl⟩
    rw [hx] at hcell ⊢
    clear hy hx hbw
    obtain ⟨S, hSdef⟩ : ∃ S : World → Prop, S = fun V => (V.cell? ⟨w5.heap.size, 0, none⟩ = some (.int .i64 r) ∧ V.cell? ⟨w5.heap.size, 1, none⟩ = some (.int .i64 m) ∧ V.cell? ⟨w5.heap.size, 2, none⟩ = some (.slice (some ⟨gz, 0, none⟩) N3 N3)) ∧ (V.cell? ⟨w.heap.size + 1, 0, none⟩ = some (.int .i64 n) ∧ V.cell? ⟨w.heap.size + 1, 1, none⟩ = some (.int .i64 m) ∧ V.cell? ⟨w.heap.size + 1, 2, none⟩ = some (.slice B N2 c2)) := ⟨_, rfl⟩
    have hSi : ∀ V, Block V w5.heap.size 62 #[.int .i64 r, .int .i64 m, .slice (some ⟨gz, 0, none⟩) N3 N3] → Block V (w.heap.size + 1) 62 #[.int .i64 n, .int .i64 m, .slice B N2 c2] → S V := fun V h1 h2 => by rw [hSdef]; exact ⟨cells3 h1, cells3 h2⟩
    have hSc : ∀ V, S V → (V.cell? ⟨w5.heap.size, 0, none⟩ = some (.int .i64 r) ∧ V.cell? ⟨w5.heap.size, 1, none⟩ = some (.int .i64 m) ∧ V.cell? ⟨w5.heap.size, 2, none⟩ = some (.slice (some ⟨gz, 0, none⟩) N3 N3)) ∧ (V.cell? ⟨w.heap.size + 1, 0, none⟩ = some (.int .i64 n) ∧ V.cell? ⟨w.heap.size + 1, 1, none⟩ = some (.int .i64 m) ∧ V.cell? ⟨w.heap.size + 1, 2, none⟩ = some (.slice B N2 c2)) := fun V hV => by
     rw [hSdef] at hV; exact hV
    have ht0 : Turn wr.heap.size wr wr.drew := Turn.drewN (Turn.refl _ _) 1
    have hS0 : S wr.drew := hSi _ (ht0.block HP.out) (ht0.block HBb.out)
    clear hSdef
    gi_wp2_with fail
    refine region_round_held (S := S) hmx (by kernel_rfl) (fun h => by obtain ⟨a, w, h⟩ := h; exact h) hS0 (fun hS0 => ?_)
    refine wpAnyH_take (i := 0) (v := .agg #[.int .i64 r, .int .i64 m, .slice (some ⟨gz, 0, none⟩) N3 N3]) rfl (by kernel_rfl) (by kernel_rfl) (by kernel_rfl) (fun _ _ _ h => h) (Or.inl ⟨by rfl, fun W hW => by obtain ⟨⟨s1, s2, s3⟩, _⟩ := hSc W hW; go_simp⟩) hS0 ?_
    simp only [Act.put]
    refine wpAnyH_take (i := 1) (v := .int .i64 (i : Int)) rfl (by kernel_rfl) (by kernel_rfl) (by kernel_rfl) (fun _ _ _ h => h) (Or.inl ⟨by rfl, fun W hW => by go_simp⟩) hS0 ?_
    simp only [Act.put]
    refine wpAnyH_take (i := 3) (v := .agg #[.int .i64 n, .int .i64 m, .slice B N2 c2]) rfl (by kernel_rfl) (by kernel_rfl) (by kernel_rfl) (fun _ _ _ h => h) (Or.inl ⟨by rfl, fun W hW => by obtain ⟨_, s1, s2, s3⟩ := hSc W hW; go_simp⟩) hS0 ?_
    simp only [Act.put]
    refine wpAnyH_take (i := 4) (v := .int .i64 (j : Int)) rfl (by kernel_rfl) (by kernel_rfl) (by kernel_rfl) (fun _ _ _ h => h) (Or.inl ⟨by rfl, fun W hW => by go_simp⟩) hS0 ?_
    simp only [Act.put]
    refine wpAnyH_take (i := 6) (v := .int .u8 (y.n : Int)) rfl (by kernel_rfl) (by kernel_rfl) (by kernel_rfl) (fun _ _ _ h => h) (Or.inl ⟨by rfl, fun W hW => by go_simp⟩) hS0 ?_
    simp only [Act.put]
    have hrp : ∀ V, Calls Tryz.prog 74 #[.agg #[.int .i64 r, .int .i64 m, .slice (some ⟨gz, 0, none⟩) N3 N3], .int .i64 i] V (Laid (.slice (rowA (some ⟨gz, 0, none⟩) (i * m) m) m m) V) := fun V => rowAt_laid r (some ⟨gz, 0, none⟩) N3 N3 i m (by omega) hi3 (Nat.le_refl _) hm (by omega) V
    have hrb : ∀ V, Calls Tryz.prog 74 #[.agg #[.int .i64 n, .int .i64 m, .slice B N2 c2], .int .i64 j] V (Laid (.slice (rowA B (j * m) m) m m) V) := fun V => rowAt_laid n B N2 c2 j m (by omega) hj2 hc2 hm (by omega) V
    refine wpAnyH_one (i := 2) (by kernel_rfl) rfl (by kernel_rfl) ?_
    go_simp
    refine (hrp _).mono ?_
    rintro e V1 ⟨rfl, ht1⟩
    have ht01 := ht0.trans (turn_mono ht1 (by simp))
    have hS1 : S V1 := hSi _ (ht01.block HP.out) (ht01.block HBb.out)
    refine ⟨hS1, wpAnyH_one (i := 5) (by kernel_rfl) rfl (by kernel_rfl) ?_⟩
    go_simp
    refine (hrb _).mono ?_
    rintro e V2 ⟨rfl, ht2⟩
    have ht := ht01.trans (turn_mono ht2 ht01.size)
    have hS2 : S V2 := hSi _ (ht.block HP.out) (ht.block HBb.out)
    clear hS0 hS1 hrp hrb ht0 ht01 ht1 ht2
    refine ⟨hS2, wpAnyH_one (i := 7) (by kernel_rfl) rfl (by kernel_rfl) ?_⟩
    go_simp
    have hF2 : Fld V2 gf := HF.out.imp ht.block ht.block
    have hM2 := HM.out.turn ht
    have hO2 := ht.own HO.out
    have hU2 : Past w.heap.size gf w V2 := ht.past HU.out HU.out.size
    have hsz2 := HU.out.size
    have hltz := (Own.blk HO.out).2
    have hqlt := HM.out.lt
    refine (addTimes_calls w.heap.size qm gf gz N3 N3 (i * m) m m m m (rowA (some ⟨gz, 0, none⟩) (i * m) m) (rowA B (j * m) m) t (rowL q m j) y V2 hF2 hM2 hO2 HTL.out (rowL_length (by rw [HL2.out]; exact hj2)) (fun h0 => by rw [rowA_some _ _ _ _ h0, Nat.zero_add]) (by rw [Nat.succ_mul] at hi3; exact hi3) (Nat.le_refl _) (by omega) (fun V3 t' hU3 hO3 hl3 _ => rowA_bytes (hU3.bytes (bytes_far HB2.out (fun hp a ha => (hfb hp a ha).1) hU2) (fun hp a ha => by
     have h1 := hfb hp a ha
     rintro (h | h | h)
     ·omega
     ·exact h1.1 h
     ·omega)))).mono ?_
    rintro e V3 ⟨rfl, ⟨t3, hSF, hO3⟩, hF3, hM3, hU3⟩
    have HT3 := Lib.hid (mulT_step HT.out (by rw [HY.out]; exact hSF))
    have hno : ∀ q, w5.heap.size ≤ q → ¬ addS qm gf gz q := fun q hq h => by rcases h with h | h | h <;> omega
    have hno2 : ∀ q, w.heap.size ≤ q → q < w2.heap.size → ¬ addS qm gf gz q := fun q h1 h2 h => by
     have := hgne q h1 h2
     rcases h with h | h | h <;> omega
    have HV3 := Lib.hid ((HV.out.turn ht).keep (W' := V3) (fun q hq e => hU3.block q hq (hno q (by
     rcases e with rfl | rfl | ⟨a, ha, rfl⟩
     ·omega
     ·omega
     ·cases ha; simp; omega))))
    have HR3 := Lib.hid (hU3.blk (ht.block HR.out) (ht.block HR.out).lt (hno2 _ (by omega) (by omega)))
    have HBb3 := Lib.hid (hU3.blk (ht.block HBb.out) (ht.block HBb.out).lt (hno2 _ (by omega) (by omega)))
    have HP3 := Lib.hid (hU3.blk (ht.block HP.out) (ht.block HP.out).lt (hno _ (Nat.le_refl _)))
    have HU3 : Hid (Past w.heap.size gf w V3) := Lib.hid (hU2.trans ((hU3.mono (S' := (· = gf)) hU2.size (fun q hq h => by rcases h with h | h | h <;> omega)).past))
    have HK3 : Hid (KeepsFrom W0.heap.size W V3) := Lib.hid ((HK.out.trans (keeps_turn ht)).trans (keeps_but hU3 (fun k o hS ho => by
     rcases hS with rfl | rfl | rfl
     ·exact mulst_isCells hM2 ho
     ·exact fld_isCells hF2 ho
     ·exact own_isCells hO2 ho)))
    have HF3 := Lib.hid hF3
    have HM3 := Lib.hid hM3
    have HO3 := Lib.hid hO3
    clear hSF hO3 hF3 hM3 hU3 hno hno2 ht hF2 hM2 hO2 hU2 hS2 hSc hcell
    refine ⟨hSi _ HP3.out HBb3.out, wpAnyH_done (by kernel_rfl) ?_ _⟩
    clear hSi
    gi_wp2
    go_roundw
    case rel => exact ⟨j + 1, _, by omega, by go_num, HV3, HR3, HBb3, HP3, HU3, HF3, HM3, HT3, HO3, HK3⟩
    case measure => simp [intOf]; omega
   ·obtain rfl : j = n := by omega
    gi_wp2
    exact ⟨HK.out, HV.out, HR.out, HBb.out, HP.out, HU.out, HF.out, HM.out, t, mulT_row HT.out, HO.out⟩
 case done =>
  rintro W ⟨k1, k2, k3, k4, k5, k6, k7, t, k8, k9⟩ hD
  obtain ⟨l0, l1, l2⟩ := cells3 k4
  have d0 := k2.cell 0
  have d1 := k2.cell 1
  have d2 := k2.cell 2
  have f0 := k2.frozen 0
  have f1 := k2.frozen 1
  have f2 := k2.frozen 2
  go_wp2
  have hK := set3_other hD (show W0.heap.size ≠ w.heap.size + 2 by omega) (.int .i64 r) (.int .i64 m) (.slice (some ⟨gz, 0, none⟩) N3 N3)
  refine ⟨by simp, .inl ⟨_, _, rfl, run_takeDeferred hK, ?_⟩⟩
  have ht : Turn w.heap.size (set3 W (w.heap.size + 2) (.int .i64 r) (.int .i64 m) (.slice (some ⟨gz, 0, none⟩) N3 N3)) _ := Turn.put hK rfl (by omega) (.deferred none)
  obtain ⟨e0, e1, e2⟩ := cells3 (ht.block (block_set3_self k2 (.int .i64 r) (.int .i64 m) (.slice (some ⟨gz, 0, none⟩) N3 N3)))
  have e : t = flat r m (mulF n (ent s n) (ent q m)) := k8.only (isM_flat r m _) (fun a b ha hb => by unfold mulT; rw [if_pos ha])
  have hg2 := hgne (w.heap.size + 2) (by omega) (by omega)
  refine ⟨.tuple #[.agg #[.int .i64 r, .int .i64 m, .slice (some ⟨gz, 0, none⟩) N3 N3], .int .i64 0], ?_, some ⟨gz, 0, none⟩, N3, ?_, ?_, ?_, ?_, ?_⟩
  ·unfold set3 at e0 e1 e2
   simp [results, Tryz.results39, go_sem, e0, e1, e2]
  ·rw [flat_length, HN3.out]
  ·rw [flat_length, HN3.out]; exact Nat.le_refl _
  ·rw [flat_length, HN3.out, ← e]
   exact ht.own (own_set3 k9 (by simp [Value.ownBlock]; omega) _ _ _)
  ·exact hg.fldP ((fld_set3 k6 (Ne.symm hg2) _ _ _).imp ht.block ht.block)
  ·exact hg.past (by omega) (ht.past (past_set3 k5 (.inr (by omega)) _ _ _) (Nat.le_refl _))
end Go.Proofs.YtjoghbmedfmioaaGreat.Mat
