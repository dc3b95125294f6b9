/- Of the program, joined: PolyCode5, PolyCode6, PolyCode7, RdCode2, RdCode3, ElKit, MsKit, RdDecode, RdKit, MatCode1, MatRows. -/
import Derived.Test.YtjoghbmedfmioabPc06
import Derived.Test.YtjoghbmedfmioabPc05
import Derived.Deep.RegionWith
import Derived.Deep.RegionHeld
import Derived.Deep.QuietTactic
import Derived.BigQuiet
namespace Go.Proofs.Ytjoghbmedfmioab.Poly
open Go.RowKit Go.Shelf F8 GF
attribute [local go_sem] Oper.semAt_some
section
variable {B : Nat} {S : Nat → Prop} {w w' : World}
theorem But.blk {k : Nat} {t : TypeId} {cs : Array Value} (h : But B S w w') (hb : Block w k t cs) (h1 : k < B) (h2 : ¬ S k) : Block w' k t cs := (h.block k h1 h2).trans hb
theorem But.past {g : Nat} (h : But B (· = g) w w') : Past B g w w' := ⟨h.os, h.tape, h.output, h.size, fun k hk hn => h.block k hk hn⟩
theorem keeps_but {l : Nat} (h : But w.heap.size S w w') (hS : ∀ k o, S k → w.heap[k]? = some o → o.isCells = true) : KeepsFrom l w w' :=
 ⟨h.size, fun k o _ hk ho => by
  refine (h.block k (Array.getElem?_eq_some_iff.1 hk).1 ?_).trans hk
  intro hs
  rw [hS k o hs hk] at ho
  cases ho⟩
theorem Block.isCells {k : Nat} {t : TypeId} {cs : Array Value} {o : Obj} (h : Block w k t cs) (ho : w.heap[k]? = some o) : o.isCells = true := by
 unfold Block at h; rw [h] at ho; cases ho; rfl
theorem Fld.isCells {g : Nat} {o : Obj} (h : Fld w g) (ho : w.heap[g]? = some o) : o.isCells = true := by
 rcases h with h | h <;> exact Block.isCells h ho
end
def hi (q : List F8) (k : Nat) : List F8 := List.replicate k 0 ++ q.drop k
theorem coef_hi (q : List F8) (k i : Nat) : coef (hi q k) i = if i < k then 0 else coef q i := by
 unfold coef hi
 rw [List.getD_eq_getElem?_getD, List.getD_eq_getElem?_getD, List.getElem?_append]
 simp only [List.length_replicate, List.getElem?_replicate, List.getElem?_drop]
 by_cases h : i < k
 ·simp [h]
 ·simp [h, show k + (i - k) = i by omega]
theorem hi_step (q : List F8) (k : Nat) : Eqv (hi q k) (padd (hi q (k + 1)) (mono k (coef q k))) := fun i => by
 rw [coef_padd, coef_hi, coef_hi, coef_mono]
 by_cases h : i < k
 ·rw [if_pos h, if_pos (by omega), if_neg (by omega), add_zero]
 ·by_cases e : i = k
  ·subst e; rw [if_neg h, if_pos (by omega), if_pos rfl, zero_add]
  ·rw [if_neg h, if_neg (by omega), if_neg e, add_zero]
theorem hi_all {q : List F8} {k : Nat} (h : q.length ≤ k) : Eqv (hi q k) [] := fun i => by
 rw [coef_hi, coef_nil]
 split
 ·rfl
 ·exact coef_of_le (by omega)
theorem hi_zero (q : List F8) : Eqv (hi q 0) q := fun i => by rw [coef_hi, if_neg (by omega)]
theorem slice_own (g M k : Nat) (hk : k < M) (w : World) :
  (Instr.slice 65 (.slice (some ⟨g, 0, none⟩) M M) (some (.int .i64 (k : Int))) none none).run Try.prog w = .ok (.slice (some ⟨g, k, none⟩) (M - k) (M - k)) w := by
 obtain ⟨i, hi, _, hi2, _⟩ := info_parts info_u8
 have hne : ¬ M = k := by omega
 simp [Instr.slice, Instr.sliceBounds, Instr.sliceBound, run_underlying Try.underlying65, asIntOf, sizeOf, typeInfo, Sem.run_bind, hi, hi2, addr_add]
 rw [if_pos (by omega), if_neg hne]
theorem trim_zeros (M : Nat) : trim ([] ++ List.replicate M (0 : F8)) = [] := by
 induction M with
 | zero => rfl
 | succ n ih => rw [List.nil_append, List.replicate_succ, trim_cons_of (by simpa using ih), if_pos rfl]
theorem own_trimmed {s : List F8} (h : len s = s.length) : trim s = s := by rw [trim_take_len, h, List.take_length]
theorem Cut.far {A A2 : Option Addr} {p : List F8} {w : World} {g B0 : Nat} (h : Cut A A2) (hb : Bytes w A (bs p)) (hf : p ≠ [] → ∀ a, A = some a → a.block ≠ g ∧ a.block < B0) : trim p ≠ [] → ∀ a, A2 = some a → a.block ≠ g ∧ a.block < B0 := by
 intro hp a ha
 have hp2 : p ≠ [] := by rintro rfl; exact hp rfl
 obtain ⟨b, off, e⟩ := where_ hb (List.length_pos_iff.2 hp2)
 rw [h.same b off e] at ha
 exact hf hp2 a ha
def MulRes (pf : Option Addr) (w : World) (r : List F8) (e : Ending) (w' : World) : Prop := PolyRes pf w w' e r
def ProdAt (V : World) (gp M : Nat) (P Q : List F8) (k : Nat) : Prop := ∃ s : List F8, s.length = M ∧ Eqv s (pmul (hi Q k) P) ∧ Block V gp 5 (bv (bs s)).toArray
theorem ProdAt.turn {V V' : World} {B gp M k : Nat} {P Q : List F8} (h : ProdAt V gp M P Q k) (t : Turn B V V') : ProdAt V' gp M P Q k := by
 obtain ⟨s, h1, h2, h3⟩ := h
 exact ⟨s, h1, h2, t.block h3⟩
set_option maxRecDepth 100000 in
set_option maxHeartbeats 4000000 in
theorem mul_pcalls (A B : Option Addr) (p q : List F8) (m n c d : Nat) (w : World) (hl : p.length = m) (hl2 : q.length = n) (hb : Bytes w A (bs p)) (hb2 : Bytes w B (bs q)) (hc : m ≤ c) (hd : n ≤ d) (hm : m ≤ 5000) (hn : n ≤ 5000) (pf : Option Addr) (hf : FldP w pf) (hfar : Far pf A p) (hfar2 : Far pf B q) :
  Calls Try.prog 45 #[.pointer pf, .slice A m c, .slice B n d] w (MulRes pf w (trim (pmul p q))) := by
 obtain ⟨P, hP⟩ : ∃ P, trim p = P := ⟨_, rfl⟩
 obtain ⟨Q, hQ⟩ : ∃ Q, trim q = Q := ⟨_, rfl⟩
 obtain ⟨lp, hlp⟩ : ∃ k, len p = k := ⟨_, rfl⟩
 obtain ⟨lq, hlq⟩ : ∃ k, len q = k := ⟨_, rfl⟩
 have hPl : P.length = lp := by rw [← hP, ← hlp]; rfl
 have hQl : Q.length = lq := by rw [← hQ, ← hlq]; rfl
 have hlp1 : lp ≤ m := by rw [← hlp, ← hl]; exact len_le p
 have hlq1 : lq ≤ n := by rw [← hlq, ← hl2]; exact len_le q
 have HB := Lib.hid hb
 have HB2 := Lib.hid hb2
 have HP := Lib.hid hP
 have HQ := Lib.hid hQ
 have HLP := Lib.hid hlp
 have HLQ := Lib.hid hlq
 have HPL := Lib.hid hPl
 have HQL := Lib.hid hQl
 have hB0 : Below w.heap.size w ((w.alloc (.cells #[.pointer pf] 30)).alloc (.cells #[.slice A m c] 65)) := ((Below.refl _ w).alloc (Nat.le_refl _) _).alloc (by simp) _
 have hbf0 : Block ((w.alloc (.cells #[.pointer pf] 30)).alloc (.cells #[.slice A m c] 65)) w.heap.size 30 #[.pointer pf] := (Block.new w _ _).alloc _
 have hba0 : Block ((w.alloc (.cells #[.pointer pf] 30)).alloc (.cells #[.slice A m c] 65)) (w.heap.size + 1) 65 #[.slice A m c] := by
  have := Block.new (w.alloc (.cells #[.pointer pf] 30)) 65 #[.slice A m c]; rwa [World.size_alloc] at this
 clear hb hb2 hP hQ hlp hlq hPl hQl
 refine (callsIn_wide (n := 9)).1 (callsIn_of_wp_marks Try.func45 rfl trivial ?_ rfl)
 simp only [Try.ntmps45, List.size_toArray, List.length_cons, List.length_nil, Nat.reduceAdd, Nat.reduceSub, Array.replicate_succ, Array.replicate_zero, List.push_toArray, List.append_toArray, List.nil_append, List.cons_append]
 refine wpIn_wide.2 ?_
 go_wp2_with fail
 refine (trimmed_calls A p m c _ hl (HB.out.below hB0) hc (by omega)).mono ?_
 rintro e w1 ⟨A2, rfl, hcut, hB1⟩
 rw [HLP.out]
 go_wp2_with fail
 refine (trimmed_calls B q n d _ hl2 ((HB2.out.below hB0).below hB1) hd (by omega)).mono ?_
 rintro e w2 ⟨B2, rfl, hcut2, hB2⟩
 rw [HLQ.out]
 have hbf2 := (hbf0.below hB1 (by simp; omega)).below hB2 (by have := hB1.size; simp at this; omega)
 have hba2 := (hba0.below hB1 (by simp)).below hB2 (by have := hB1.size; simp at this; omega)
 have hca2 := hba2.cell 0
 have hfa2 := hba2.frozen 0
 have hcf2 := hbf2.cell 0
 have hs1 := hB1.size
 have hs2 := hB2.size
 simp only [World.size_alloc] at hs1
 have hBw : Below w.heap.size w w2 := (hB0.trans (hB1.mono (by simp; omega))).trans (hB2.mono (by omega))
 by_cases hz : lp = 0 ∨ lq = 0
 ·have hzero : trim (pmul p q) = [] := by
   rcases hz with h | h
   ·exact trim_nil_iff.2 (pmul_zero_left q (len_zero.1 (by rw [HLP.out]; exact h)))
   ·exact trim_nil_iff.2 ((pmul_comm p q).trans (pmul_zero_left p (len_zero.1 (by rw [HLQ.out]; exact h))))
  have HZ := Lib.hid hzero
  have hBw2 := hBw.setCell (p := ⟨w.heap.size + 1, 0, none⟩) (by simp) (.slice A2 lp c)
  by_cases z1 : lp = 0
  ·have k1 : ((lp : Int) == 0) = true := by rw [z1]; rfl
   clear hz hzero z1
   go_wp2
   refine ⟨_, results_tmp rfl _ _ _, none, 0, ?_, ?_, ?_, hf.below hBw2, Past.of_below hBw2 _⟩
   ·rw [HZ.out]; rfl
   ·rw [HZ.out]; exact Nat.le_refl _
   ·rw [HZ.out]; exact Own.nil _ _ _
  ·have k1 : ((lp : Int) == 0) = false := by simp; omega
   have z2 : lq = 0 := by omega
   have k2 : ((lq : Int) == 0) = true := by rw [z2]; rfl
   clear hz hzero z1 z2
   go_wp2
   refine ⟨_, results_tmp rfl _ _ _, none, 0, ?_, ?_, ?_, hf.below hBw2, Past.of_below hBw2 _⟩
   ·rw [HZ.out]; rfl
   ·rw [HZ.out]; exact Nat.le_refl _
   ·rw [HZ.out]; exact Own.nil _ _ _
 ·have k1 : ((lp : Int) == 0) = false := by simp; omega
  have k2 : ((lq : Int) == 0) = false := by simp; omega
  have p1 : 1 ≤ lp := by omega
  have p2 : 1 ≤ lq := by omega
  obtain ⟨M, hM⟩ : ∃ M, lp + lq - 1 = M := ⟨_, rfl⟩
  have hMI : (lp : Int) + (lq : Int) - 1 = (M : Int) := by omega
  have HMI := Lib.hid hMI
  have HM := Lib.hid hM
  have hM2 : M ≤ 50000 := by omega
  clear hz hMI hM
  go_wp2_with fail
  refine (orNew_f pf w _ hf (hBw.setCell (p := ⟨w.heap.size + 1, 0, none⟩) (by simp) _)).mono ?_
  rintro e w4 ⟨g, rfl, hg, hF4, hB4⟩
  obtain ⟨wm, hmk, hOm, hBm⟩ := make_run (w4.setCell ⟨w.heap.size, 0, none⟩ (.pointer (some ⟨g, 0, none⟩))) M (by omega)
  rw [← HMI.out] at hmk
  have hbf4 := (hbf2.far (p := ⟨w.heap.size + 1, 0, none⟩) (by simp) (.slice A2 lp c)).below hB4 (by simp [World.setCell]; omega)
  have hba4 := (hba2.set_ 0 (.slice A2 lp c)).below hB4 (by simp [World.setCell]; omega)
  have hcf4 := hbf4.cell 0
  have hff4 := hbf4.frozen 0
  have hca4 := (hba4.far (p := ⟨w.heap.size, 0, none⟩) (by simp) (.pointer (some ⟨g, 0, none⟩))).cell 0
  go_wp2_with (go_at_call 65; refine (downward_calls _ _ _ _).mono ?_; rintro e w' ⟨rfl, rfl⟩)
  have hs4 := hB4.size
  have hz4 : (w4.setCell ⟨w.heap.size, 0, none⟩ (.pointer (some ⟨g, 0, none⟩))).heap.size = w4.heap.size := by simp [World.setCell]
  have hz2 : (w2.setCell ⟨w.heap.size + 1, 0, none⟩ (.slice A2 lp c)).heap.size = w2.heap.size := by simp [World.setCell]
  rw [hz2] at hs4
  rw [hz4] at hOm hBm
  have hBlk := Own.block hOm
  have hgp := hBlk.lt
  have hglt := hF4.lt
  have hgne : ∀ k, w.heap.size ≤ k → k < w2.heap.size → k ≠ g := fun k h1 h2 => hg.ne h1 (by rw [hz2]; exact h2)
  obtain ⟨w5, hw5⟩ : ∃ w5, (wm.alloc (.cells #[.slice (some ⟨w4.heap.size, 0, none⟩) M M] 65)).alloc (.cells #[.slice B2 lq d] 65) = w5 := ⟨_, rfl⟩
  have hbf5 : Block w5 w.heap.size 30 #[.pointer (some ⟨g, 0, none⟩)] := by rw [← hw5]; exact (((hbf4.set_ 0 _).below hBm (by omega)).alloc _).alloc _
  have hba5 : Block w5 (w.heap.size + 1) 65 #[.slice A2 lp c] := by rw [← hw5]; exact (((hba4.far (p := ⟨w.heap.size, 0, none⟩) (by simp) _).below hBm (by omega)).alloc _).alloc _
  have hgp5 : Block w5 w4.heap.size 5 (bv (bs (List.replicate M 0))).toArray := by rw [← hw5]; exact (hBlk.alloc _).alloc _
  have hbp5 : Block w5 wm.heap.size 65 #[.slice (some ⟨w4.heap.size, 0, none⟩) M M] := by rw [← hw5]; exact (Block.new _ _ _).alloc _
  have hbb5 : Block w5 (wm.heap.size + 1) 65 #[.slice B2 lq d] := by
   rw [← hw5]; have := Block.new (wm.alloc (.cells #[.slice (some ⟨w4.heap.size, 0, none⟩) M M] 65)) 65 #[.slice B2 lq d]; rwa [World.size_alloc] at this
  have hF5 : Fld w5 g := by
   rw [← hw5]
   have e1 : g ≠ w.heap.size := fun e => hgne g (by omega) (by omega) rfl
   exact ((show Fld (w4.setCell ⟨w.heap.size, 0, none⟩ (.pointer (some ⟨g, 0, none⟩))) g from hF4.imp (fun h => h.far e1 _) (fun h => h.far e1 _)).below hBm hglt).alloc _ |>.alloc _
  have hB5 : Below w.heap.size w w5 := by
   rw [← hw5]
   exact ((((((hBw.setCell (p := ⟨w.heap.size + 1, 0, none⟩) (by simp) _).trans (hB4.mono (by rw [hz2]; omega))).setCell (p := ⟨w.heap.size, 0, none⟩) (Nat.le_refl _) _).trans (hBm.mono (by omega))).alloc (by omega) _).alloc (by simp; omega) _)
  have hs5 : wm.heap.size + 2 ≤ w5.heap.size ∧ w5.heap.size ≤ wm.heap.size + 2 := by rw [← hw5]; simp
  have hfa := hcut.far HB.out (hg.far (by rw [hz2]; omega) hfar HB.out)
  have hfb := hcut2.far HB2.out (hg.far (by rw [hz2]; omega) hfar2 HB2.out)
  have hbA5 := hcut.bytes (HB.out.below hB5)
  have hbB5 := hcut2.bytes (HB2.out.below hB5)
  have HBA : Hid (Bytes w A2 (bs (trim p))) := Lib.hid (hcut.bytes HB.out)
  have HBB : Hid (Bytes w B2 (bs (trim q))) := Lib.hid (hcut2.bytes HB2.out)
  rw [HP.out] at hfa hbA5 HBA
  rw [HQ.out] at hfb hbB5 HBB
  have hmx : Try.prog.follows .mixedOrders = true := by kernel_rfl
  rw [hw5]
  clear hw5 hmk hcf4 hff4 hca4 hbf4 hba4 hBlk hOm hz4 hz2 hF4 hfar hfar2 hf hbf2 hba2 hca2 hfa2 hcf2 hbf0 hba0
  refine wpIn_wide.1 (wpIn_down (n := 9) (by omega) (Bn := wm.heap.size + 1) (m := lq) (c := d) (A := B2) (by omega) rfl
   (fun k r V => r = Q ∧ Bytes V B2 (bs Q) ∧ Block V (wm.heap.size + 1) 65 #[.slice B2 lq d] ∧ Block V w.heap.size 30 #[.pointer (some ⟨g, 0, none⟩)] ∧ Block V (w.heap.size + 1) 65 #[.slice A2 lp c] ∧ Block V wm.heap.size 65 #[.slice (some ⟨w4.heap.size, 0, none⟩) M M] ∧ ProdAt V w4.heap.size M P Q k ∧ Fld V g ∧ Past w.heap.size g w V)
   (fun _ _ => False)
   (fun k r V V' ⟨h1, h2, h3, h4, h5, h6, h7, h8, h9⟩ ht => ⟨h1, ht.bytes h2, ht.block h3, ht.block h4, ht.block h5, ht.block h6, h7.turn ht, h8.imp ht.block ht.block, ht.past h9 (by omega)⟩)
   (fun _ _ _ h _ => h)
   (fun k r V ⟨h1, h2, h3, _⟩ => ⟨by rw [h1, HQL.out], by rw [h1]; exact h2, h3.cell 0⟩)
   Q ⟨rfl, hbB5, hbb5, hbf5, hba5, hbp5, ⟨List.replicate M 0, by simp, ((trim_nil_iff (p := List.replicate M (0 : F8))).1 (by rw [show List.replicate M (0 : F8) = [] ++ List.replicate M 0 from rfl]; exact trim_zeros M)).trans (pmul_zero_left P (hi_all (by rw [HQL.out]; omega))).symm, hgp5⟩, hF5, Past.of_below hB5 _⟩
   ?a1 ?assign ?body ?done (fun _ _ h => h.elim))
  case assign =>
   intro l k y V K hK
   gi_wp2
   exact hK
  case body =>
   rintro l k r V hk ⟨rfl, h2, h3, h4, h5, h6, ⟨s, hsl, hse, h7⟩, h8, h9⟩ hsV
   have hc4 := h4.cell 0
   have hc5 := h5.cell 0
   have hc6 := h6.cell 0
   obtain ⟨y, hy⟩ : ∃ y, coef r k = y := ⟨_, rfl⟩
   rw [hy]
   have HY := Lib.hid hy
   have HSL := Lib.hid hsl
   have HSE := Lib.hid hse
   have hkM : k < M := by have := HM.out; omega
   have hsx := slice_own w4.heap.size M k hkM
   have hbA : Bytes V A2 (bs P) := bytes_far HBA.out (fun hp a ha => (hfa hp a ha).1) h9
   have HBV := Lib.hid hbA
   clear hy hsl hse hbA
   gi_wp2
   refine region_round_tail 6 hmx (by kernel_rfl) (by kernel_rfl) (fun h => by obtain ⟨a, w, h⟩ := h; exact h) ?_
   simp only [List.take_succ_cons, List.take_zero, List.drop_succ_cons, List.drop_zero]
   iterate 6 still_step
   refine wpStill_nil ?_
   go_wp2_with fail
   refine (addTimes_calls w4.heap.size g w4.heap.size M M k (M - k) (M - k) (some ⟨w4.heap.size, k, none⟩) A2 s P lp c y V.drew h8 (Own.drew (Own.of_block h7 (Nat.le_refl _) (by rw [bvs_length, HSL.out]) (by simp only [maxLen]; omega))) HSL.out HPL.out (fun _ => rfl) (by rw [HSL.out]; have := HM.out; omega) (by have := HM.out; omega) HBV.out.drew (fun hp a ha => ⟨by have := (hfa hp a ha).2; omega, (hfa hp a ha).1⟩) (by omega) (by rw [HSL.out]; omega)).mono ?_
   rintro e V2 ⟨rfl, ⟨s2, g1, g2, g3⟩, hF2, hU2⟩
   rw [HSL.out] at g1
   have G1 := Lib.hid g1
   have G2 := Lib.hid g2
   clear g1 g2
   go_wp2
   have hsz2 : w.heap.size ≤ V.drew.heap.size := by show w.heap.size ≤ V.heap.size; omega
   have hP2 : Past w.heap.size g w V2 := h9.drew.trans (hU2.mono (S' := (· = g)) hsz2 (fun i hi h => by omega)).past
   have hlt : ∀ {i t cs}, Block V i t cs → i < V.drew.heap.size := fun h => h.lt
   refine ⟨((KeepsOthers.drew V).from _).trans (keeps_but hU2 (fun i o hi ho => by rcases hi with rfl | rfl; exact Block.isCells h7 ho; exact Fld.isCells h8 ho)), r, rfl, bytes_far HBB.out (fun hp a ha => (hfb hp a ha).1) hP2,
    hU2.blk h3.drew (hlt h3) (by omega), hU2.blk h4.drew (hlt h4) (by have := hgne w.heap.size (by omega) (by omega); omega), hU2.blk h5.drew (hlt h5) (by have := hgne (w.heap.size + 1) (by omega) (by omega); omega), hU2.blk h6.drew (hlt h6) (by omega), ⟨s2, G1.out, ?_, Own.block g3⟩, hF2, hP2⟩
   have hst := hi_step r k
   rw [HY.out] at hst
   exact G2.out.trans ((padd_congr HSE.out (Eqv.refl _)).trans ((padd_pmul _ _ _).symm.trans (pmul_congr_left P hst.symm)))
  case done =>
   rintro r V ⟨rfl, h2, h3, h4, h5, h6, ⟨s, hsl, hse, h7⟩, h8, h9⟩ hD
   have hc6 := h6.cell 0
   have HSL := Lib.hid hsl
   have HSE := Lib.hid hse
   clear hsl hse
   go_wp2
   refine ⟨by simp, .inl ⟨_, _, rfl, run_takeDeferred hD, ?_⟩⟩
   have ht : Turn w.heap.size V _ := Turn.put hD rfl (by omega) (.deferred none)
   refine ⟨_, results_tmp rfl _ _ _, ?_⟩
   have e1 : Eqv s (pmul p q) := HSE.out.trans ((pmul_congr (hi_zero r) (Eqv.refl P)).trans ((pmul_congr (by rw [← HQ.out]; exact trim_eqv q) (by rw [← HP.out]; exact trim_eqv p)).trans (pmul_comm q p)))
   have e2 : len s = s.length := by
    rw [len_congr e1, len_pmul (by rw [HLP.out]; omega) (by rw [HLQ.out]; omega), HLP.out, HLQ.out, HSL.out]; exact HM.out
   have e3 : trim (pmul p q) = s := by rw [← trim_congr e1]; exact own_trimmed e2
   rw [e3]
   refine ⟨some ⟨w4.heap.size, 0, none⟩, M, by rw [HSL.out]; rfl, by rw [HSL.out]; exact Nat.le_refl _, ?_, hg.fldP (h8.imp ht.block ht.block), hg.past (by simp [World.setCell]; omega) (ht.past h9 (Nat.le_refl _))⟩
   rw [HSL.out]
   exact Own.of_block (ht.block h7) (by omega) (by rw [bvs_length, HSL.out]) (by simp only [maxLen]; omega)
end Go.Proofs.Ytjoghbmedfmioab.Poly

namespace Go.Proofs.Ytjoghbmedfmioab.Poly
open Go.RowKit Go.Shelf F8 GF
theorem roots_take (p : List F8) (k : Nat) (x : F8) (hk : k < p.length) (hx : coef p k = x) : trim (pmul (trim (roots (p.take k))) [x, 1]) = trim (roots (p.take (k + 1))) := by
 rw [take_succ' p hk, ← coef_of_lt hk, hx]
 exact trim_congr ((pmul_congr_left _ (trim_eqv _)).trans (roots_snoc _ _).symm)
theorem roots_len (p : List F8) : (trim (roots p)).length = p.length + 1 := len_roots p
theorem far_own {w : World} {g B n c : Nat} {A : Option Addr} {p : List F8} (hf : Fld w g) (h : Own w B 5 (.slice A n c) (bv (bs p))) : Far (some ⟨g, 0, none⟩) A p := by
 intro _ a b ha hb
 cases hb
 subst ha
 have h1 : (Value.slice (some a) n c).ownBlock ≠ some g := by rcases hf with hf | hf <;> exact own_ne h hf (by decide)
 intro e
 exact h1 (show some a.block = some g by rw [show a.block = g from e])
def RootsRes (pf : Option Addr) (w : World) (r : List F8) (e : Ending) (w' : World) : Prop := PolyRes pf w w' e r
set_option maxRecDepth 100000 in
set_option maxHeartbeats 2000000 in
theorem roots_pcalls (A : Option Addr) (p : List F8) (m c : Nat) (w : World) (hl : p.length = m) (hb : Bytes w A (bs p)) (hm : m ≤ 1000) (pf : Option Addr) (hf : FldP w pf) (hfar : Far pf A p) :
  Calls Try.prog 24 #[.pointer pf, .slice A m c] w (RootsRes pf w (trim (roots p))) := by
 have HB := Lib.hid hb
 have HL := Lib.hid hl
 clear hb hl
 go_enter Try.func24, Try.ntmps24
 go_wp2_with fail
 refine (orNew_f pf w _ hf (Below.refl _ _)).mono ?_
 rintro e w1 ⟨g, rfl, hg, hF1, hB1⟩
 have hs1 := hB1.size
 have hglt := hF1.lt
 have hfa := hg.far (Nat.le_refl _) hfar HB.out
 go_wp2
 go_loopw [5, 13] (fun v i wr => ∃ k : Nat, k ≤ m ∧ i = .int .i64 k ∧ Hid (Own wr w.heap.size 5 v (bv (bs (trim (roots (p.take k)))))) ∧ Hid (Fld wr g) ∧ Hid (Past w.heap.size g w wr)) (fun _ i _ => m - (intOf i).toNat)
 case atStart =>
  refine ⟨0, by omega, rfl, Lib.hid ?_, Lib.hid (hF1.alloc _), Lib.hid ((Past.of_below hB1 _).alloc hs1 _)⟩
  have h1 := Own.lit w1 w1.heap.size 5 #[.int .u8 1] 1 (Nat.le_refl _) rfl (by decide)
  have e1 : trim (roots (p.take 0)) = [1] := by rw [List.take_zero]; show trim [1] = [1]; exact trim_snoc [] 1 one_ne_zero
  rw [e1]
  exact Own.more h1 hs1
 case round =>
  obtain ⟨k, hk, rfl, HO, HF, HP⟩ := hrel
  by_cases hkk : k < m
  ·have HBr := bytes_far HB.out (fun hp a ha => (hfa hp a ha).1) HP.out
   obtain ⟨b, o, rfl⟩ := where_ HB.out (by have := HL.out; omega)
   have hcell := cellAt HBr k (by have := HL.out; omega)
   obtain ⟨x, hx⟩ : ∃ x, coef p k = x := ⟨_, rfl⟩
   rw [hx] at hcell
   have HT := Lib.hid (roots_take p k x (by have := HL.out; omega) hx)
   obtain ⟨r, hr⟩ : ∃ r, trim (roots (p.take k)) = r := ⟨_, rfl⟩
   rw [hr] at HT HO
   have hrl : r.length = k + 1 := by rw [← hr, roots_len, List.length_take, HL.out]; omega
   have HRL := Lib.hid hrl
   obtain ⟨A2, c2, rfl, hc2⟩ := Own.shape HO.out
   rw [HRL.out] at HO hc2
   have hsz := HP.out.size
   have hF2 : Fld (wr.alloc (.cells #[.int .u8 x.n, .int .u8 1] 5)) g := HF.out.alloc _
   have hO2 : Own (wr.alloc (.cells #[.int .u8 x.n, .int .u8 1] 5)) w.heap.size 5 (.slice A2 (k + 1) c2) (bv (bs r)) := HO.out.alloc _
   have hX : Bytes (wr.alloc (.cells #[.int .u8 x.n, .int .u8 1] 5)) (some ⟨wr.heap.size, 0, none⟩) (bs [x, 1]) := ⟨Row.new _ _ _ _, bs_lt _⟩
   have HBA : Hid (Bytes (wr.alloc (.cells #[.int .u8 x.n, .int .u8 1] 5)) A2 (bs r)) := Lib.hid (by rw [← hrl] at hO2; exact Own.bytes hO2)
   have hFA := far_own hF2 hO2
   have hFX : Far (some ⟨g, 0, none⟩) (some ⟨wr.heap.size, 0, none⟩) [x, 1] := by
    intro _ a b ha hb
    cases ha; cases hb
    have := HF.out.lt
    simp; omega
   clear hx hr hrl HBr hglt hfa
   rw [HRL.out]
   go_wp2_with fail
   refine (mul_pcalls A2 (some ⟨wr.heap.size, 0, none⟩) r [x, 1] (k + 1) 2 c2 2 _ HRL.out rfl HBA.out hX hc2 (Nat.le_refl _) (by omega) (by omega) (some ⟨g, 0, none⟩) (FldP.of hF2) hFA hFX).mono ?_
   rintro e w3 ⟨A3, c3, rfl, hc3, hO3, hF3, hP3⟩
   rw [HT.out] at hO3
   have HO3 := Lib.hid (hO3.more (B' := w.heap.size) (by simp; omega))
   have HF3 := Lib.hid hF3.fld
   have HP3 : Hid (Past w.heap.size g w w3) := Lib.hid ((HP.out.alloc hsz _).trans (hP3.mono (by simp; omega)))
   rw [HT.out]
   clear hO3 hF3 hP3 hc3 hF2 hO2 hX hFA hFX hcell
   go_wp2
   go_roundw
   case rel => exact ⟨k + 1, by omega, by go_num, HO3, HF3, HP3⟩
   case measure => simp [intOf]; omega
  ·obtain rfl : k = m := by omega
   have HT : Hid (p.take k = p) := Lib.hid (List.take_of_length_le (by rw [HL.out]; omega))
   rw [HT.out] at HO
   clear HT hkk hk
   go_wp2
   go_ret
   obtain ⟨A2, c2, rfl, hc2⟩ := Own.shape HO.out
   exact ⟨A2, c2, rfl, hc2, HO.out, hg.fldP HF.out, hg.past (Nat.le_refl _) HP.out⟩
end Go.Proofs.Ytjoghbmedfmioab.Poly

namespace Go.Proofs.Ytjoghbmedfmioab.Rd
open Go.RowKit Go.Shelf F8 Poly GF
attribute [local go_sem] Oper.semAt_some
structure Cd (w : World) (b g : Nat) (A : Option Addr) (xs : List F8) (n c k : Nat) : Prop where
 blk : Block w b 96 (codeC g A n c k)
 ne : b ≠ g
 len : xs.length = n
 cap : n ≤ c
 by_ : Bytes w A (bs xs)
 far : Far (some ⟨g, 0, none⟩) A xs
 nd : xs.Nodup
 k1 : 1 ≤ k
 kn : k ≤ n
 n256 : n ≤ 256
 fld : FldP w (some ⟨g, 0, none⟩)
theorem nodup_le : ∀ (n : Nat) (l : List Nat), l.Nodup → (∀ x ∈ l, x < n) → l.length ≤ n
 | 0, l, _, h => by cases l with | nil => exact Nat.le_refl _ | cons a l => exact absurd (h a (by simp)) (by omega)
 | n + 1, l, hn, h => by
  by_cases hm : n ∈ l
  ·have h1 := nodup_le n (l.erase n) (hn.erase n) fun x hx => by
    have := (hn.mem_erase_iff).1 hx
    have := h x this.2
    omega
   rw [List.length_erase_of_mem hm] at h1
   omega
  ·have := nodup_le n l hn fun x hx => by
    have h1 := h x hx
    have : x ≠ n := fun e => hm (e ▸ hx)
    omega
   omega
theorem nodup256 {xs : List F8} (h : xs.Nodup) : xs.length ≤ 256 := by
 have h1 : (xs.map F8.n).Nodup := by
  rw [List.nodup_iff_pairwise_ne, List.pairwise_map]
  exact (List.nodup_iff_pairwise_ne.1 h).imp fun hne e => hne (F8.n_inj.1 e)
 have h3 := nodup_le 256 _ h1 fun x hx => by
  obtain ⟨y, _, rfl⟩ := List.mem_map.1 hx
  exact y.h
 simpa using h3
section
variable {w w' : World} {b g : Nat} {A : Option Addr} {xs : List F8} {n c k : Nat}
theorem Cd.past (h : Cd w b g A xs n c k) (h1 : FldP w' (some ⟨g, 0, none⟩)) (h2 : Past w.heap.size g w w') : Cd w' b g A xs n c k :=
 { h with blk := h.blk.past h2 h.blk.lt h.ne, by_ := bytes_far h.by_ (fun hp a ha => h.far hp a _ ha rfl) h2, fld := h1 }
theorem Cd.below (h : Cd w b g A xs n c k) (hb : Below w.heap.size w w') : Cd w' b g A xs n c k :=
 h.past (h.fld.below hb) (Past.of_below hb _)
end
def NewRes (w : World) (g : Nat) (xs : List F8) (n : Nat) (k : Int) (e : Ending) (w' : World) : Prop :=
 (newR xs k = 0 ∧ ∃ (b : Nat) (A : Option Addr) (c q : Nat), (q : Int) = k ∧ e = .returned (.tuple #[.pointer (some ⟨b, 0, none⟩), .int .i64 0]) ∧ w.heap.size ≤ b ∧ (∀ a, A = some a → w.heap.size ≤ a.block) ∧ Cd w' b g A xs n c q ∧ Below w.heap.size w w') ∨
 (newR xs k = 2 ∧ e = .returned (.tuple #[.pointer none, .int .i64 2]) ∧ Below w.heap.size w w')
set_option maxRecDepth 100000 in
set_option maxHeartbeats 2000000 in
theorem new_calls (g : Nat) (A : Option Addr) (p : List F8) (n c : Nat) (k : Int) (w : World) (hn : p.length = n) (hb : Bytes w A (bs p)) (hc : n ≤ c) (hn2 : n ≤ 1000000) (hf : FldP w (some ⟨g, 0, none⟩)) :
  Calls Try.prog 21 #[.pointer (some ⟨g, 0, none⟩), .slice A n c, .int .i64 k] w (NewRes w g p n k) := by
 by_cases h1 : k < 1
 ·have HX : Hid (newR p k = 2) := Lib.hid (if_neg (by omega))
  clear hb hf
  go_enter Try.func21, Try.ntmps21
  go_wp2
  go_ret2
  exact .inr ⟨HX.out, rfl, Below.refl _ _⟩
 by_cases h2 : (n : Int) < k
 ·have HX : Hid (newR p k = 2) := Lib.hid (if_neg (by omega))
  clear hb hf
  go_enter Try.func21, Try.ntmps21
  go_wp2
  go_ret2
  exact .inr ⟨HX.out, rfl, Below.refl _ _⟩
 by_cases hnd : p.Nodup
 ·have HT : Hid ((!decide p.Nodup) = false) := Lib.hid (by rw [decide_eq_true hnd]; rfl)
  have HX : Hid (newR p k = 0) := Lib.hid (if_pos ⟨hnd, by omega, by omega⟩)
  have HND := Lib.hid hnd
  have HB := Lib.hid hb
  have HN := Lib.hid hn
  have HF := Lib.hid hf
  have hglt := hf.fld.lt
  clear hb hf hnd hn
  go_enter Try.func21, Try.ntmps21
  go_wp2_with (go_at_call 34; refine (repeat_calls A p n c _ HN.out HB.out hn2).mono ?_; rintro e w1 ⟨rfl, hB1⟩; rw [HT.out])
  have hs1 := hB1.size
  refine (Poly.clone_calls A p n c _ HN.out (HB.out.below hB1) hc hn2).mono ?_
  rintro e w2 ⟨A2, c2, rfl, hc2, hO2, hB2⟩
  rw [HN.out] at hc2 hO2 ⊢
  go_wp2
  go_ret2
  obtain ⟨q, rfl⟩ : ∃ q : Nat, k = (q : Int) := ⟨k.toNat, by omega⟩
  have hs2 := hB2.size
  have hBW := hB1.trans (hB2.mono hs1)
  have hBW2 := hBW.alloc (by omega) (.cells #[.pointer (some ⟨g, 0, none⟩), .slice A2 n c2, .int .i64 (q : Int)] 96)
  have hblk : ∀ a, A2 = some a → w.heap.size ≤ a.block := fun a ha => Nat.le_trans hs1 (own_block hO2 a ha)
  refine .inl ⟨HX.out, w2.heap.size, A2, c2, q, rfl, rfl, by omega, hblk, ⟨Block.new _ _ _, by omega, HN.out, hc2, (Own.bytes hO2).alloc _, ?_, HND.out, by omega, by omega, by have := nodup256 HND.out; rw [HN.out] at this; exact this, HF.out.below hBW2⟩, hBW2⟩
  intro _ a b ha hb
  cases hb
  have := hblk a ha
  simp; omega
 ·have HT : Hid ((!decide p.Nodup) = true) := Lib.hid (by rw [decide_eq_false hnd]; rfl)
  have HX : Hid (newR p k = 2) := Lib.hid (if_neg (fun h => hnd h.1))
  have HB := Lib.hid hb
  have HN := Lib.hid hn
  clear hb hf hnd hn
  go_enter Try.func21, Try.ntmps21
  go_wp2_with (go_at_call 34; refine (repeat_calls A p n c _ HN.out HB.out hn2).mono ?_; rintro e w1 ⟨rfl, hB1⟩; rw [HT.out])
  go_ret2
  exact .inr ⟨HX.out, rfl, hB1⟩
section
variable {w : World} {b g : Nat} {A : Option Addr} {xs : List F8} {n c k : Nat} (h : Cd w b g A xs n c k)
include h
theorem k_calls : Calls Try.prog 31 #[.pointer (some ⟨b, 0, none⟩)] w fun e w' => e = .returned (.int .i64 k) ∧ w = w' := by
 have h2 := h.blk.cell 2
 simp only [codeC] at h2
 go_enter Try.func31, Try.ntmps31
 go_wp2_with (go_at_call 48; refine (isNone_calls h.blk h.k1).mono ?_; rintro e w1 ⟨rfl, rfl⟩)
 go_ret
 exact ⟨rfl, rfl⟩
end
end Go.Proofs.Ytjoghbmedfmioab.Rd

namespace Go.Proofs.Ytjoghbmedfmioab.Ms
open Go.RowKit Go.Shelf F8 Poly GF Rd
structure BF (g : Nat) (w : World) (A : Option Addr) (p : List F8) : Prop where
 by_ : Bytes w A (bs p)
 far : Far (some ⟨g, 0, none⟩) A p
section
variable {g : Nat} {w w' : World} {A : Option Addr} {p : List F8}
theorem BF.past (h : BF g w A p) (hp : Past w.heap.size g w w') : BF g w' A p := ⟨bytes_far h.by_ (fun hq a ha => h.far hq a _ ha rfl) hp, h.far⟩
theorem BF.below (h : BF g w A p) (hb : Below w.heap.size w w') : BF g w' A p := h.past (Past.of_below hb g)
theorem BF.own {B n c : Nat} (hf : FldP w (some ⟨g, 0, none⟩)) (h : Own w B 5 (.slice A n c) (bv (bs p))) : BF g w A p := ⟨Own.bytes h, far_own hf.fld h⟩
end
end Go.Proofs.Ytjoghbmedfmioab.Ms

namespace Go.Proofs.Ytjoghbmedfmioab.Rd
open Go.RowKit Go.Shelf F8 Poly GF
attribute [local go_sem] Oper.semAt_some
def pts (n : Nat) : List F8 := (List.range n).map fun i => ⟨gp i, gp_lt i⟩
theorem pts_length (n : Nat) : (pts n).length = n := by simp [pts]
theorem pts_succ (n : Nat) : pts (n + 1) = pts n ++ [⟨gp n, gp_lt n⟩] := by simp [pts, List.range_succ]
theorem pts_nodup {n : Nat} (h : n ≤ 255) : (pts n).Nodup := by
 unfold pts
 rw [List.nodup_iff_pairwise_ne, List.pairwise_map]
 refine (List.nodup_iff_pairwise_ne.1 List.nodup_range).imp_of_mem fun {a b} ha hb hne e => hne ?_
 have ha := List.mem_range.1 ha
 have hb := List.mem_range.1 hb
 exact gp_inj (by omega) (by omega) (congrArg F8.n e)
def KReed (w : World) (n k : Nat) (e : Ending) (w' : World) : Prop :=
 (k ≤ n ∧ ∃ b A c, e = .returned (.pointer (some ⟨b, 0, none⟩)) ∧ w.heap.size ≤ b ∧ (∀ a, A = some a → w.heap.size ≤ a.block) ∧ Cd w' b w.heap.size A (pts n) n c k ∧ Below w.heap.size w w') ∨
 (n < k ∧ e = .returned (.pointer none) ∧ Below w.heap.size w w')
set_option maxRecDepth 100000 in
set_option maxHeartbeats 4000000 in
theorem reed_calls (n k : Nat) (hn : n ≤ 255) (hk : 1 ≤ k) (w : World) : Calls Try.prog 7 #[.int .i64 n, .int .i64 k] w (KReed w n k) := by
 go_enter Try.func7, Try.ntmps7
 go_wp2_with fail
 refine (GF.new_calls w).mono ?_
 rintro e w1 ⟨rfl, hw1⟩
 have hF1 : FldP w1 (some ⟨w.heap.size, 0, none⟩) := FldP.of (by rw [hw1]; exact Fld.new w)
 have hz1 : w1.heap.size = w.heap.size + 1 := by rw [hw1]; simp
 have hB1 : Below w.heap.size w w1 := by rw [hw1]; exact (Below.refl _ _).alloc (Nat.le_refl _) _
 have HF1 := Lib.hid hF1
 have HB1 := Lib.hid hB1
 clear hw1 hF1 hB1
 go_wp2
 go_loopw [6, 7] (fun out i wr => ∃ j : Nat, j ≤ n ∧ i = .int .i64 j ∧ Hid (Own wr w1.heap.size 5 out (bv (bs (pts j)))) ∧ Hid (FldP wr (some ⟨w.heap.size, 0, none⟩)) ∧ Past w1.heap.size w.heap.size w1 wr) (fun _ i _ => n - (intOf i).toNat)
 case atStart => exact ⟨0, by omega, rfl, Lib.hid (Own.nil _ _ _), HF1, Past.refl _ _ _⟩
 case round =>
  obtain ⟨j, hj, rfl, HO, HF, HP⟩ := hrel
  have hsz := HP.size
  by_cases hlt : j < n
  ·have HL : Hid ((bv (bs (pts j))).length = j) := Lib.hid (by rw [bvs_length, pts_length])
   have HT : Hid (bv (bs (pts j)) ++ bv [gp j] = bv (bs (pts (j + 1)))) := Lib.hid (by rw [pts_succ, bvs_snoc])
   have HG : Hid (ge (j : Int) = gp j) := Lib.hid (ge_nat j)
   go_wp2_with fail
   refine (GF.exp_calls (some ⟨w.heap.size, 0, none⟩) (j : Int) (by omega) (by omega) _ HF.out).mono ?_
   rintro e w2 ⟨rfl, hf2, hp2⟩
   rw [HG.out]
   have HO2 := Lib.hid (own_keep HO.out HF.out hp2)
   have HF2 := Lib.hid hf2
   have HP2 : Past w1.heap.size w.heap.size w1 w2 := HP.trans ((show Past wr.heap.size w.heap.size wr w2 from hp2).mono hsz)
   have hsz2 := HP2.size
   clear hf2 hp2
   go_wp2_with (at_builtin; refine wpList_app _ rfl _ _ _ rfl w1.heap.size 5 _ 1 Try.underlying65 info_u8 rfl (by omega) _ _ rfl (HO2.out.alloc _) (some ⟨w2.heap.size, 0, none⟩) 1 1 (bv [gp j]) rfl rfl (Row.new _ _ _ _) (bv_one _) (by rw [HL.out]; omega) (by simp; omega) ?_; rintro v2 w3 hown hg3 -)
   rw [HT.out] at hown
   have HO3 := Lib.hid hown
   have hrow : ∀ k, Value.ownBlock _ = some k → w1.heap.size ≤ k := fun k hk => ((HO2.out.alloc (.cells #[.int .u8 (gp j : Nat)] 5)).lt k hk).1
   have HP3 := (HP2.alloc hsz2 (.cells #[.int .u8 (gp j : Nat)] 5)).grown hg3 (by simp; omega) hrow
   have HF3 := Lib.hid (FldP.of ((HF2.out.fld.alloc (.cells #[.int .u8 (gp j : Nat)] 5)).kept_grown hg3 (by omega) hrow))
   clear hown hg3 hrow
   go_roundw
   case rel => exact ⟨j + 1, by omega, by go_num, HO3, HF3, HP3⟩
   case measure => simp [intOf]; omega
  ·obtain rfl : j = n := by omega
   obtain ⟨A1, c1, rfl, hc1⟩ := Own.shape HO.out
   rw [pts_length] at hc1 HO ⊢
   have hBw : Below w.heap.size w wr := HB1.out.trans ((HP.mono (by omega)).below (Nat.le_refl _))
   have hBsz := hBw.size
   go_wp2_with fail
   refine (Rd.new_calls w.heap.size A1 (pts j) j c1 (k : Int) _ (pts_length j) (Own.bytes HO.out) hc1 (by omega) HF.out).mono ?_
   rintro e w2 (⟨h0, b, A, c, q, hq, rfl, hb, hA, hC, hB⟩ | ⟨h2, rfl, hB⟩)
   ·have hkn : (k : Int) ≤ (j : Int) := by
     have := h0
     unfold newR at this
     split at this
     ·rename_i h; have := h.2.2; rw [pts_length] at this; exact this
     ·cases this
    obtain rfl : q = k := by omega
    go_wp2
    go_ret
    exact .inl ⟨by omega, b, A, c, rfl, by omega, fun a ha => by have := hA a ha; omega, hC, hBw.trans (hB.mono hBsz)⟩
   ·have hkn : j < k := by
     rcases Nat.lt_or_ge j k with h | h
     ·exact h
     ·have : newR (pts j) (k : Int) = 0 := if_pos ⟨pts_nodup hn, by omega, by rw [pts_length]; omega⟩
      rw [this] at h2
      cases h2
    go_wp2
    go_ret
    exact .inr ⟨hkn, rfl, hBw.trans (hB.mono hBsz)⟩
end Go.Proofs.Ytjoghbmedfmioab.Rd

namespace Go.Proofs.Ytjoghbmedfmioab.Mat
open Go.RowKit F8 Poly
def iv (l : List Nat) : List Value := l.map fun n : Nat => Value.int .i64 (n : Int)
theorem iv_length (l : List Nat) : (iv l).length = l.length := by simp [iv]
theorem iv_set (l : List Nat) (k x : Nat) : (iv l).set k (.int .i64 (x : Int)) = iv (l.set k x) := by simp [iv, List.map_set]
theorem info_int : (Try.prog.info? 3).map (fun i => (i.zero, i.size, i.bytes)) = some (some (.int .i64 0), 1, 8) := by kernel_rfl
theorem mul_bound {r c a b : Nat} (h1 : r ≤ a) (h2 : c ≤ b) : r * c ≤ a * b := Nat.mul_le_mul h1 h2
end Go.Proofs.Ytjoghbmedfmioab.Mat
namespace Go.Proofs.Ytjoghbmedfmioab.Mat
open Go.RowKit Go.Shelf F8 Poly
theorem area_calls (R C : Int) (h : -9223372036854775808 ≤ R * C ∧ R * C ≤ 9223372036854775807) (w : World) :
  Calls Try.prog 39 #[.int .i64 R, .int .i64 C] w fun e w' => e = .returned (.int .i64 (R * C)) ∧ w = w' := by
 have hw : IntKind.i64.wrap (R * C) = R * C := IntWalk.i64_in _ h
 go_enter Try.func39, Try.ntmps39
 go_wp2
 go_ret
 exact ⟨rfl, rfl⟩
theorem area_nat (r c : Nat) (h : r * c ≤ 9223372036854775807) (w : World) :
  Calls Try.prog 39 #[.int .i64 r, .int .i64 c] w fun e w' => e = .returned (.int .i64 (r * c : Nat)) ∧ w = w' := by
 have e : ((r * c : Nat) : Int) = (r : Int) * (c : Int) := Int.natCast_mul r c
 rw [e]
 exact area_calls r c (by rw [← e]; omega) w
def sideB (n : Int) : Bool := decide (0 ≤ n) && decide (n ≤ 65536)
theorem sideB_true {n : Nat} (h : n ≤ 65536) : sideB n = true := by unfold sideB; simp; omega
theorem sideB_false {n : Int} (h : n < 0 ∨ 65536 < n) : sideB n = false := by unfold sideB; simp; omega
theorem sideB_iff {n : Int} : sideB n = true ↔ 0 ≤ n ∧ n ≤ 65536 := by unfold sideB; simp
theorem isSide_calls (n : Int) (w : World) :
  Calls Try.prog 38 #[.int .i64 n] w fun e w' => e = .returned (.bool (sideB n)) ∧ w = w' := by
 by_cases h0 : 0 ≤ n
 ·by_cases h1 : n ≤ 65536
  ·have HB : Hid (sideB n = true) := Lib.hid (sideB_iff.2 ⟨h0, h1⟩)
   have k1 : decide (n ≤ 65536) = true := by simp; omega
   have k2 : decide (0 ≤ n) = true := by simp; omega
   go_enter Try.func38, Try.ntmps38
   go_wp2
   go_ret
   exact ⟨by rw [HB.out]; rfl, rfl⟩
  ·have HB : Hid (sideB n = false) := Lib.hid (sideB_false (by omega))
   have k1 : decide (n ≤ 65536) = false := by simp; omega
   have k2 : decide (0 ≤ n) = true := by simp; omega
   go_enter Try.func38, Try.ntmps38
   go_wp2
   go_ret
   exact ⟨by rw [HB.out]; rfl, rfl⟩
 ·have HB : Hid (sideB n = false) := Lib.hid (sideB_false (by omega))
  have k2 : decide (0 ≤ n) = false := by simp; omega
  go_enter Try.func38, Try.ntmps38
  go_wp2
  go_ret
  exact ⟨by rw [HB.out]; rfl, rfl⟩
def rowA (A : Option Addr) (o c : Nat) : Option Addr := if c = 0 then A else A.map (·.add (o * 1))
theorem rowA_some (b off o c : Nat) (hc : 0 < c) : rowA (some ⟨b, off, none⟩) o c = some ⟨b, off + o, none⟩ := by
 unfold rowA; rw [if_neg (by omega), Nat.mul_one]; simp only [Option.map_some, addr_add]
theorem slice3_run (A : Option Addr) (N cap lo hi c : Nat) (h1 : lo + c = hi) (h2 : hi ≤ cap) (w : World) :
  (Instr.slice 65 (.slice A N cap) (some (.int .i64 (lo : Nat))) (some (.int .i64 (hi : Nat))) (some (.int .i64 (hi : Nat)))).run Try.prog w = .ok (.slice (rowA A lo c) c c) w := by
 obtain ⟨i, hi', _, hi2, _⟩ := info_parts info_u8
 have h3 : lo ≤ hi := by omega
 have e : hi - lo = c := by omega
 have e2 : (hi = lo) = (c = 0) := by rw [eq_iff_iff]; omega
 simp [Instr.slice, Instr.sliceBounds, Instr.sliceBound, run_underlying Try.underlying65, asIntOf, sizeOf, typeInfo, Sem.run_bind, hi', hi2, h2, h3, e, e2, rowA]
set_option maxHeartbeats 1000000 in
theorem rowAt_calls (R : Int) (A : Option Addr) (N cap i c : Nat) (hN : N ≤ 140737488355328) (hi : (i + 1) * c ≤ N) (hc : N ≤ cap) (hc16 : c ≤ 1000000) (hi16 : i ≤ 65536) (w : World) :
  Calls Try.prog 73 #[.agg #[.int .i64 R, .int .i64 c, .slice A N cap], .int .i64 i] w fun e w' => e = .returned (.slice (rowA A (i * c) c) c c) ∧ ∃ n, w' = (w.alloc (.cells #[.int .i64 R, .int .i64 c, .slice A N cap] 70)).drewN n := by
 have hs := slice3_run A N cap (i * c) ((i + 1) * c) c (by rw [Nat.succ_mul]) (by omega)
 have h1 : IntKind.i64.wrap ((i : Int) * c) = ((i * c : Nat) : Int) := by rw [Int.natCast_mul]; exact IntWalk.i64_in _ (by rw [← Int.natCast_mul]; have := mul_bound hi16 hc16; omega)
 have h2 : IntKind.i64.wrap (((i : Int) + 1) * c) = (((i + 1) * c : Nat) : Int) := by
  have e : ((i : Int) + 1) * c = (((i + 1) * c : Nat) : Int) := by rw [Int.natCast_mul]; rfl
  rw [e]; exact IntWalk.i64_in _ (by omega)
 have h3 : IntKind.i64.wrap ((i : Int) + 1) = (i : Int) + 1 := IntWalk.i64_in _ (by omega)
 obtain ⟨x, hx⟩ : ∃ x, i * c = x := ⟨_, rfl⟩
 obtain ⟨y, hy⟩ : ∃ y, (i + 1) * c = y := ⟨_, rfl⟩
 rw [hx] at h1 hs ⊢
 rw [hy] at h2 hs
 clear hx hy hi
 go_enter Try.func73, Try.ntmps73
 go_wp2
 go_quiet (fail)
 go_wp2
 go_ret
 exact ⟨rfl, _, rfl⟩
end Go.Proofs.Ytjoghbmedfmioab.Mat

namespace Go.Proofs.Ytjoghbmedfmioab.Mat
open Go.RowKit Go.Shelf F8 Poly
attribute [local go_sem] Oper.semAt_some
theorem Turn.drewN {B : Nat} {W W' : World} (h : Turn B W W') (n : Nat) : Turn B W (W'.drewN n) := ⟨Below.drewN' h.below n, h.cells⟩
structure Vis (W : World) (Bat Bm : Nat) (Aat : Option Addr) (na ca : Nat) (ats : List Nat) (R : Int) (c : Nat) (A : Option Addr) (N cap : Nat) : Prop where
 at_ : Block W Bat 118 #[.slice Aat na ca]
 m_ : Block W Bm 70 #[.int .i64 R, .int .i64 c, .slice A N cap]
 row : Row W Aat (iv ats)
section
variable {W W' : World} {Bat Bm : Nat} {Aat : Option Addr} {na ca : Nat} {ats : List Nat} {R : Int} {c : Nat} {A : Option Addr} {N cap : Nat}
theorem Vis.turn {B : Nat} (h : Vis W Bat Bm Aat na ca ats R c A N cap) (t : Turn B W W') : Vis W' Bat Bm Aat na ca ats R c A N cap := ⟨t.block h.at_, t.block h.m_, t.row h.row⟩
theorem Vis.keep (h : Vis W Bat Bm Aat na ca ats R c A N cap) (hk : ∀ k, k < W.heap.size → k = Bat ∨ k = Bm ∨ (∃ a, Aat = some a ∧ k = a.block) → W'.heap[k]? = W.heap[k]?) : Vis W' Bat Bm Aat na ca ats R c A N cap := by
 refine ⟨(hk _ h.at_.lt (.inl rfl)).trans h.at_, (hk _ h.m_.lt (.inr (.inl rfl))).trans h.m_, fun k u hu => ?_⟩
 obtain ⟨b, off, rfl, hc⟩ := h.row k u hu
 exact ⟨b, off, rfl, (World.cell?_of_block (hk b (cell_lt hc) (.inr (.inr ⟨_, rfl, rfl⟩)))).trans hc⟩
theorem cells3 {w : World} {g : Nat} {t : TypeId} {x y z : Value} (h : Block w g t #[x, y, z]) : w.cell? ⟨g, 0, none⟩ = some x ∧ w.cell? ⟨g, 1, none⟩ = some y ∧ w.cell? ⟨g, 2, none⟩ = some z :=
 ⟨h.cell 0, h.cell 1, h.cell 2⟩
end
set_option maxRecDepth 100000 in
set_option maxHeartbeats 2000000 in
theorem rows1_in (n : Nat) (hn : 1 ≤ n) (l D Bat Bm na ca c N cap : Nat) (Aat A : Option Addr) (ats : List Nat) (R : Int) (pos : Nat → Nat) (hna : ats.length = na) (hna2 : na ≤ 1000000) (hpos : ∀ k, k < na → ats[k]? = some (pos k))
  (hN : N ≤ 140737488355328) (hcap : N ≤ cap) (hc : c ≤ 1000000) (hin : ∀ k, k < na → (pos k + 1) * c ≤ N ∧ pos k ≤ 65536)
  (J : Nat → World → Prop) (Jx : World → Prop)
  (hJ : ∀ k W, J k W → Vis W Bat Bm Aat na ca ats R c A N cap ∧ D ≤ W.heap.size)
  (hT : ∀ k W W', J k W → Turn D W W' → J k W')
  (hY : ∀ k W, k < na → J k W → YieldAt Fence.wide (n - 1) Try.prog l #[.int .i64 (pos k : Nat), .slice (rowA A (pos k * c) c) c c] W fun e W' =>
   (e = .returned (.bool true) ∧ J (k + 1) W') ∨ (e = .returned (.bool false) ∧ Jx W'))
  (W : World) (h0 : J 0 W) :
  CallsIn Fence.wide n Try.prog 72 #[.func (.yield l) #[] #[], .pointer (some ⟨Bat, 0, none⟩), .pointer (some ⟨Bm, 0, none⟩)] W fun e W' => (∃ v, e = .returned v) ∧ (J na W' ∨ Jx W') := by
 refine callsIn_of_wp Try.func72 rfl trivial ?_ rfl
 simp only [Try.ntmps72, List.size_toArray, List.length_cons, List.length_nil, Nat.reduceAdd, Nat.reduceSub, Array.replicate_succ, Array.replicate_zero, List.push_toArray, List.append_toArray, List.nil_append, List.cons_append]
 have hb0 := (hJ _ _ h0).1.at_.cell 0
 gi_wp2
 gi_loopw [8] (fun i wr => ∃ k : Nat, k ≤ na ∧ i = .int .i64 k ∧ J k wr) (fun i _ => na - (intOf i).toNat)
 case atStart => exact ⟨0, Nat.zero_le _, rfl, h0⟩
 case round =>
  obtain ⟨k, hk, rfl, hj⟩ := hrel
  obtain ⟨hv, hsz⟩ := hJ _ _ hj
  by_cases hkk : k < na
  ·obtain ⟨b, off, rfl, hcell⟩ := hv.row k (.int .i64 (pos k : Nat)) (by simp [iv, hpos k hkk])
   obtain ⟨l0, l1, l2⟩ := cells3 hv.m_
   have hp := hin k hkk
   obtain ⟨p, hpk⟩ : ∃ p, pos k = p := ⟨_, rfl⟩
   have hYk := hY k
   rw [hpk] at hcell hp hYk
   clear hpk
   gi_wp2_with fail
   refine ⟨trivial, (callsIn_wide.2 (rowAt_calls R A N cap p c hN hp.1 hcap hc hp.2 _)).mono ?_⟩
   rintro e W2 ⟨rfl, m, rfl⟩
   have ht : Turn D wr ((wr.alloc (.cells #[.int .i64 R, .int .i64 c, .slice A N cap] 70)).drewN m) := Turn.drewN (Turn.alloc hsz _) m
   obtain ⟨fn, tmps, assign, body, hy, hR⟩ := hYk _ hkk (hT _ _ _ hj ht)
   gi_wp2
   refine hR.mono ?_
   rintro e W3 (⟨rfl, hJ3⟩ | ⟨rfl, hJx3⟩)
   ·gi_wp2
    go_roundw
    case rel => exact ⟨k + 1, by omega, by go_num, hJ3⟩
    case measure => simp [intOf]; omega
   ·gi_wp2
    refine bodyPost_ret (results_none rfl _ _ _) rfl ?_
    exact ⟨⟨_, rfl⟩, .inr hJx3⟩
  ·obtain rfl : k = na := by omega
   gi_wp2
   go_end0
   exact ⟨⟨_, rfl⟩, .inl hj⟩
def RowPost (B : Nat) (I : World → Prop) (Ix : Code → World → Prop) (W : World) : Exit → Act → World → Prop
 | .normal, _, W' => KeepsFrom B W W' ∧ I W'
 | .ret, _, W' => KeepsFrom B W W' ∧ Ix .ret W'
 | .exit id, _, W' => KeepsFrom B W W' ∧ Ix (.exit id) W'
 | _, _, _ => False
set_option maxRecDepth 100000 in
set_option maxHeartbeats 2000000 in
theorem wpIn_rows {n : Nat} (h1 : 3 ≤ n) {g : Operand} {s1 s2 : Tmp} {assign body : Code} {Q : Exit → Act → World → Prop} {a : Act} {w : World} {Bat Bm na ca c N cap : Nat} {Aat A : Option Addr} {ats : List Nat} {R : Int} (pos : Nat → Nat) (hna : ats.length = na) (hna2 : na ≤ 1000000) (hpos : ∀ k, k < na → ats[k]? = some (pos k))
  (hN : N ≤ 140737488355328) (hcap : N ≤ cap) (hc : c ≤ 1000000) (hin : ∀ k, k < na → (pos k + 1) * c ≤ N ∧ pos k ≤ 65536)
  (hg : a.eval g = .func (.func 72) #[] #[.pointer (some ⟨Bat, 0, none⟩), .pointer (some ⟨Bm, 0, none⟩)])
  (I : Nat → World → Prop) (Ix : Code → World → Prop)
  (hI : ∀ k W W', I k W → Turn w.heap.size W W' → I k W') (hIx : ∀ c W W', Ix c W → Turn w.heap.size W W' → Ix c W')
  (hrd : ∀ k W, I k W → Vis W Bat Bm Aat na ca ats R c A N cap)
  (h0 : I 0 w) (a₁ : Nat → Act)
  (hassign : ∀ (l k : Nat) (W : World) (K : Act → World → Prop), k < na → K (a₁ k) W →
   assign.wpIn (Fence.wide.inRound l) (n - 1 - 1) Try.prog (Exit.then K (fun _ _ _ => False)) { tmps := (a.tmps.setIfInBounds s1 (.int .i64 (pos k : Nat))).setIfInBounds s2 (.slice (rowA A (pos k * c) c) c c), defers := [] } W)
  (hbody : ∀ (l k : Nat) (W : World), k < na → I k W → w.heap.size ≤ W.heap.size → body.wpIn (Fence.wide.inRound l) (n - 1 - 1) Try.prog (RowPost w.heap.size (I (k + 1)) Ix W) (a₁ k) W)
  (hdone : ∀ (W : World), I na W → W.heap[w.heap.size]? = some (.deferred (some [])) → Q .normal { a with defers := { target := .collected w.heap.size, args := #[] } :: a.defers } W)
  (hstop : ∀ (c : Code) (W : World), Ix c W → W.heap[w.heap.size]? = some (.deferred (some [])) → c.wpIn Fence.wide n Try.prog Q { a with defers := { target := .collected w.heap.size, args := #[] } :: a.defers } W) :
  (Code.rangeFunc g #[s1, s2] assign body).wpIn Fence.wide n Try.prog Q a w := by
 refine wpIn_rangeFunc fun fn hfn => ?_
 obtain ⟨D, hD⟩ : ∃ D, D = w.heap.size := ⟨_, rfl⟩
 obtain ⟨R0, hR⟩ : ∃ R : LoopState → Option Code → Obj, R = fun st j => .loop { state := st, pending := j, fn, tmps := a.tmps, params := #[s1, s2], assign, body, defers := D } := ⟨_, rfl⟩
 have hRc : ∀ st j, (R0 st j).isCells = false := by intro st j; rw [hR]; rfl
 let Bk : LoopState → Option Code → World → Prop := fun st j W => W.heap[D + 1]? = some (R0 st j) ∧ W.heap[D]? = some (.deferred (some []))
 have bk_put : ∀ {st j st' j'} {W : World}, Bk st j W → Bk st' j' (W.putObj (D + 1) (R0 st' j')) := fun {st j st' j' W} h =>
  ⟨World.putObj_heap_same (Array.getElem?_eq_some_iff.1 h.1).1, (World.putObj_heap_other (by omega)).trans h.2⟩
 have tn_put : ∀ {st j st' j'} {W : World}, Bk st j W → Turn D W (W.putObj (D + 1) (R0 st' j')) := fun {st j st' j' W} h => Turn.put h.1 (hRc _ _) (by omega) _
 have bk_keep : ∀ {st j} {W W' : World}, Bk st j W → KeepsFrom D W W' → Bk st j W' := fun {st j W W'} h k => ⟨k.same _ _ (by omega) h.1 (hRc _ _), k.same _ _ (Nat.le_refl _) h.2 rfl⟩
 have ends : ∀ {W : World} (j : Option Code), Bk .busy none W → (Instr.endRound (D + 1) j).run Try.prog W = .ok (.bool j.isNone) (W.putObj (D + 1) (R0 (if j.isNone then .ready else .done) j)) := by
  intro W j h
  have h2 := h.1
  rw [hR] at h2 ⊢
  exact run_endRound j h2
 have out : ∀ {W : World} {st j}, st ≠ .busy → Bk st j W → (Instr.endLoop (D + 1)).run Try.prog W = .ok j (W.putObj (D + 1) (R0 .exhausted j)) := by
  intro W st j hst h
  have h2 := h.1
  rw [hR] at h2 ⊢
  exact run_endLoop h2 hst
 have bk_turn : ∀ {st j} {W W' : World}, Bk st j W → KeepsFrom D W W' → Bk st j W' := bk_keep
 rw [← hD] at hI hIx hbody hdone hstop
 obtain ⟨W1, hW1⟩ : ∃ W1, (w.alloc (.deferred (some []))).alloc (R0 .ready none) = W1 := ⟨_, rfl⟩
 have t1 : Turn D w W1 := by
  rw [← hW1]
  exact (Turn.alloc (by omega) _).trans (Turn.alloc (by simp; omega) _)
 have b1 : Bk .ready none W1 := by
  have e1 := World.alloc_heap_new (w.alloc (.deferred (some []))) (R0 .ready none)
  have e2 := (Below.heap_alloc (w.alloc (.deferred (some []))) (R0 .ready none) w.heap.size (by simp)).trans (World.alloc_heap_new w _)
  rw [World.size_alloc, hW1, ← hD] at e1
  rw [hW1, ← hD] at e2
  exact ⟨e1, e2⟩
 refine ⟨D + 1, [{ target := .collected D, args := #[] }], W1, { target := .fn (.func 72) #[.pointer (some ⟨Bat, 0, none⟩), .pointer (some ⟨Bm, 0, none⟩)], args := #[.func (.yield (D + 1)) #[] #[]] }, W1, 72,
  #[.func (.yield (D + 1)) #[] #[]] ++ #[.pointer (some ⟨Bat, 0, none⟩), .pointer (some ⟨Bm, 0, none⟩)], W1, ?_, ?_, fun _ _ => trivial, ?_, (fun h => by cases h), ?_⟩
 ·rw [← hW1, hR, hD]; exact run_enterLoop_outer _ _ _ _ _
 ·simp only [resolve, hg]; simp [go_sem]
 ·simp [invoke, go_sem]
 ·refine (rows1_in (n - 1) (by omega) (D + 1) (D + 2) Bat Bm na ca c N cap Aat A ats R pos hna hna2 hpos hN hcap hc hin (fun k W => I k W ∧ Bk .ready none W ∧ D + 2 ≤ W.heap.size) (fun W => ∃ j, Ix j W ∧ Bk .done (some j) W ∧ D ≤ W.heap.size)
   (fun k W h => ⟨hrd k W h.1, h.2.2⟩) (fun k W W' h t => ⟨hI k W W' h.1 ⟨t.below.mono (by omega), t.cells⟩, ⟨(t.below.block _ (by omega)).trans h.2.1.1, (t.below.block _ (by omega)).trans h.2.1.2⟩, by have := t.size; omega⟩) ?_ W1 ⟨hI _ _ _ h0 t1, b1, by rw [← hW1]; simp; omega⟩).mono ?_
  ·
   rintro k W hk ⟨hi, hb, hsz⟩
   have hy := run_yield (P := Try.prog) (args := #[.int .i64 (pos k : Nat), .slice (rowA A (pos k * c) c) c c]) (l := D + 1) (by have h2 := hb.1; rw [hR] at h2; exact h2) rfl
   have hbr := run_beginRound (P := Try.prog) (l := D + 1) (by have h2 := hb.1; rw [hR] at h2; exact h2) rfl
   refine ⟨fn, _, assign, body, hy, roundIn_of_wpIn hfn ?_⟩
   clear hy
   dsimp only
   rw [zip2]
   refine hassign _ k W _ hk ?_
   refine ⟨_, hbr, ?_⟩
   clear hbr
   have hb2 : Bk .busy none (W.putObj (D + 1) (R0 .busy none)) := bk_put hb
   have hi2 := hI _ _ _ hi (tn_put (st' := .busy) (j' := none) hb)
   have hwp := hbody (D + 1) k (W.putObj (D + 1) (R0 .busy none)) hk hi2 (by simp; omega)
   rw [hR] at hwp
   refine wpIn_mono hwp ?_
   rintro e a3 W3 hp
   have fin : ∀ (j : Option Code), KeepsFrom D (W.putObj (D + 1) (R0 .busy none)) W3 → (Instr.endRound (D + 1) j).run Try.prog W3 = .ok (.bool j.isNone) (W3.putObj (D + 1) (R0 (if j.isNone then .ready else .done) j)) ∧
     Bk (if j.isNone then .ready else .done) j (W3.putObj (D + 1) (R0 (if j.isNone then .ready else .done) j)) ∧ Turn D W3 (W3.putObj (D + 1) (R0 (if j.isNone then .ready else .done) j)) ∧ D + 2 ≤ (W3.putObj (D + 1) (R0 (if j.isNone then .ready else .done) j)).heap.size := fun j hkf => by
    have hb3 := bk_keep hb2 hkf
    refine ⟨ends j hb3, bk_put hb3, tn_put hb3, ?_⟩
    have := hkf.size
    simp at this ⊢
    omega
   have key : ∀ {W4 : World}, KeepsFrom D (W.putObj (D + 1) ((fun st j => Obj.loop { state := st, pending := j, fn, tmps := a.tmps, params := #[s1, s2], assign, body, defers := D }) .busy none)) W4 → KeepsFrom D (W.putObj (D + 1) (R0 .busy none)) W4 := by
    intro W4 h; rw [hR]; exact h
   cases e with
   | normal =>
    obtain ⟨hkf, hq⟩ := hp
    obtain ⟨f1, f2, f3, f4⟩ := fin none (key hkf)
    exact ⟨_, _, f1, .inl ⟨rfl, hI _ _ _ hq f3, f2, f4⟩⟩
   | ret =>
    obtain ⟨hkf, hq⟩ := hp
    obtain ⟨f1, f2, f3, f4⟩ := fin (some .ret) (key hkf)
    exact ⟨_, _, f1, .inr ⟨rfl, .ret, hIx _ _ _ hq f3, f2, by omega⟩⟩
   | exit id =>
    obtain ⟨hkf, hq⟩ := hp
    obtain ⟨f1, f2, f3, f4⟩ := fin (some (.exit id)) (key hkf)
    exact ⟨_, _, f1, .inr ⟨rfl, .exit id, hIx _ _ _ hq f3, f2, by omega⟩⟩
   | goto t => exact hp.elim
   | panic ch => exact hp.elim
   | outgrown => exact hp.elim
  ·rintro e W2 ⟨⟨v, rfl⟩, ⟨hi, hb, _⟩ | ⟨j, hi, hb, _⟩⟩
   ·exact ⟨none, _, out (by simp) hb, hdone _ (hI _ _ _ hi (tn_put hb)) (bk_put (st' := .exhausted) (j' := none) hb).2⟩
   ·exact ⟨some j, _, out (by simp) hb, hstop j _ (hIx _ _ _ hi (tn_put hb)) (bk_put (st' := .exhausted) (j' := some j) hb).2⟩
end Go.Proofs.Ytjoghbmedfmioab.Mat
