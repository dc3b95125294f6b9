/- Of the program and its document, joined: MatMul3, MatMulP. -/
import Derived.Test.YtbghmbfmidbgaaaGreatPk30
import Derived.Deep.WholeRow
/- What the program's addTimes does, by a table; and in any case. -/
namespace Go.Proofs.YtbghmbfmidbgaaaGreat.Mat
open Go.RowKit Go.Shelf F8 Poly GF
attribute [local go_sem] Oper.semAt_some

set_option maxRecDepth 100000 in
set_option maxHeartbeats 4000000 in
theorem addTimes_many (Bo qm gf g1 M C off ls cs n d : Nat) (A1 B : Option Addr) (s q : List F8) (c : F8) (w : World) (hf : Fld w gf) (hM : MulSt w qm gf) (hS : Own w Bo 5 (.slice (some ⟨g1, 0, none⟩) M C) (bv (bs s))) (hsl : s.length = M) (hl : q.length = n) (hA : 0 < n → A1 = some ⟨g1, off, none⟩)
    (hoff : off + n ≤ M) (hls : n ≤ ls) (hn : n ≤ 1000000000)
    (hread : ∀ (W : World) (t : List F8), But w.heap.size (addS qm gf g1) w W → Own W Bo 5 (.slice (some ⟨g1, 0, none⟩) M C) (bv (bs t)) → t.length = M → (∀ i, ¬ (off ≤ i ∧ i < off + n) → coef t i = coef s i) → Bytes W B (bs q))
    (met : Nat → Nat) (tab : Nat → Option Addr) (hb : Block w qm 164 (mcells gf met tab)) (hc0 : c ≠ 0) (hm : 256 ≤ met c.n) :
    Calls Tryz.prog 123 #[.pointer (some ⟨qm, 0, none⟩), .slice A1 ls cs, .slice B n d, .int .u8 c.n] w (AddRes Bo qm gf g1 M C off n s q c w) := by
  have hx0 : ((c.n : Int) == 0) = false := n_beq0 hc0
  have hnq := hM.ne_fld hf
  have hng := hM.ne_own hS
  have hgf := Fld.ne_own hf (by decide) hS
  have hbk := Own.blk hS
  have hcn := c.h
  have c1 : w.cell? ⟨qm, 1 + c.n, none⟩ = some (.int .i64 (met c.n : Nat)) := by
    rw [hb.cell, mcells_get _ _ _ _ (by omega)]; unfold mc; rw [if_neg (by omega), if_pos (by omega), show 1 + c.n - 1 = c.n by omega]
  obtain ⟨m, hmm⟩ : ∃ m, met c.n = m := ⟨_, rfl⟩
  rw [hmm] at c1 hm
  have hmd : decide ((m : Int) < 256) = false := by simp; omega
  have HL := Lib.hid hl
  have HSL := Lib.hid hsl
  have HRd := Lib.hid hread
  have HA := Lib.hid hA
  have HF := Lib.hid hf
  have HM := Lib.hid hM
  have HS := Lib.hid hS
  clear hl hsl hread hA hf hS hM hb hmm
  go_enter Tryz.func123, Tryz.ntmps123
  go_wp2_with fail
  refine (table_calls qm gf c.n hcn w HM.out HF.out).mono ?_
  rintro e w1 ⟨t, rfl, hT, hM1, hF1, hU1⟩
  have hgt : t ≠ g1 := fun e => by
    subst e
    exact own_ne (But.own hU1 HS.out (fun b hb => by simp [Value.ownBlock] at hb; subst hb; rintro (rfl | rfl); exact hng rfl; exact hgf rfl)) hT (by decide) rfl
  have htf : gf ≠ t := Fld.ne_block hF1 hT (by decide)
  have HS1 : Hid (Own w1 Bo 5 (.slice (some ⟨g1, 0, none⟩) M C) (bv (bs s))) := Lib.hid (But.own hU1 HS.out (fun b hb => by simp [Value.ownBlock] at hb; subst hb; rintro (rfl | rfl); exact hng rfl; exact hgf rfl))
  have HU1 : Hid (But w.heap.size (addS qm gf g1) w w1) := Lib.hid (hU1.mono (Nat.le_refl _) (fun k _ h => h.imp id .inl))
  have HT1 := Lib.hid hT
  have HM1 := Lib.hid hM1
  have HF1 := Lib.hid hF1
  clear hT hM1 hF1 hU1 HM HF HS c1
  go_wp2
  go_loopw [62] (fun i wr => ∃ (k : Nat) (u : List F8), k ≤ n ∧ i = .int .i64 k ∧ Hid (SoFar s u q off k c) ∧ Hid (Own wr Bo 5 (.slice (some ⟨g1, 0, none⟩) M C) (bv (bs u))) ∧ Hid (Fld wr gf) ∧ Hid (MulSt wr qm gf) ∧ Hid (Block wr t 76 (tcells c.n 256)) ∧ Hid (But w.heap.size (addS qm gf g1) w wr)) (fun i _ => n - (intOf i).toNat)
  case atStart => exact ⟨0, s, by omega, rfl, Lib.hid (SoFar.start s q off c), HS1, HF1, HM1, HT1, HU1⟩
  case round =>
    clear HS1 HF1 HM1 HU1 HT1
    obtain ⟨k, u, hk, rfl, HT, HSr, HFr, HMr, HTr, HU⟩ := hrel
    by_cases hkk : k < n
    · have htM : u.length = M := by rw [HT.out.1, HSL.out]
      have HTM := Lib.hid htM
      have hbq := HRd.out wr u HU.out HSr.out htM (fun i hi => HT.out.out hk i hi)
      obtain ⟨b, o, rfl⟩ := where_ hbq (by have := HL.out; omega)
      have hcell := cellAt hbq k (by have := HL.out; omega)
      obtain ⟨x, hx⟩ : ∃ x, coef q k = x := ⟨_, rfl⟩
      obtain ⟨y, hy⟩ : ∃ y, coef u (off + k) = y := ⟨_, rfl⟩
      have hc2 := own_cell HSr.out htM (k := off + k) (by omega)
      have hf2 := own_frozen HSr.out htM (off + k)
      have hgl := (Own.blk HSr.out).2
      have hxh := x.h
      have htc : wr.cell? ⟨t, x.n, none⟩ = some (.int .u8 ((x * c).n : Int)) := by
        rw [HTr.out.cell, tcells_get _ _ _ hxh]; unfold tc; rw [if_pos hxh]; rfl
      have HT2 : Hid (SoFar s (u.set (off + k) (y + x * c)) q off (k + 1) c) := Lib.hid (by rw [← hx, ← hy]; exact HT.out.step (by have := HSL.out; omega))
      rw [hx] at hcell
      rw [hy] at hc2
      have hkl : k < ls := by omega
      obtain rfl : A1 = some ⟨g1, off, none⟩ := HA.out (by omega)
      have hgz := HU.out.size
      clear hx hy hbq htM
      go_wp2_with fail
      go_region_with (go_at_call 68; refine (add_still y (x * c) _).mono ?_; rintro e w3 ⟨rfl, rfl⟩)
      all_goals
        have HS3 : Hid (Own (wr.setCell ⟨g1, off + k, none⟩ (.int .u8 ((y + x * c).n : Int))).drew Bo 5 (.slice (some ⟨g1, 0, none⟩) M C) (bv (bs (u.set (off + k) (y + x * c))))) := Lib.hid (own_set HSr.out HTM.out).drew
        have HF3 : Hid (Fld (wr.setCell ⟨g1, off + k, none⟩ (.int .u8 ((y + x * c).n : Int))).drew gf) := Lib.hid (HFr.out.imp (fun h => (h.far hgf _).drew) (fun h => (h.far hgf _).drew))
        have HM3 : Hid (MulSt (wr.setCell ⟨g1, off + k, none⟩ (.int .u8 ((y + x * c).n : Int))).drew qm gf) := Lib.hid ((HMr.out.store HSr.out (off + k) _).turn (Turn.drewN (Turn.refl 0 _) 1))
        have HT3 : Hid (Block (wr.setCell ⟨g1, off + k, none⟩ (.int .u8 ((y + x * c).n : Int))).drew t 76 (tcells c.n 256)) := Lib.hid (HTr.out.far hgt _).drew
        have HU3 : Hid (But w.heap.size (addS qm gf g1) w (wr.setCell ⟨g1, off + k, none⟩ (.int .u8 ((y + x * c).n : Int))).drew) := Lib.hid (HU.out.setCell (p := ⟨g1, off + k, none⟩) (.inl (.inr (.inr rfl))) _).drew
        clear HA hf2 hc2 hcell htc
        go_wp2
        go_roundw
        case rel => exact ⟨k + 1, _, by omega, by go_num, HT2, HS3, HF3, HM3, HT3, HU3⟩
        case measure => simp [intOf]; omega
    · obtain rfl : k = n := by omega
      go_wp2
      go_end0
      exact ⟨rfl, ⟨u, HT.out, HSr.out⟩, HFr.out, HMr.out, HU.out⟩

theorem addTimes_calls (Bo qm gf g1 M C off ls cs n d : Nat) (A1 B : Option Addr) (s q : List F8) (c : F8) (w : World) (hf : Fld w gf) (hM : MulSt w qm gf) (hS : Own w Bo 5 (.slice (some ⟨g1, 0, none⟩) M C) (bv (bs s))) (hsl : s.length = M) (hl : q.length = n) (hA : 0 < n → A1 = some ⟨g1, off, none⟩)
    (hoff : off + n ≤ M) (hls : n ≤ ls) (hn : n ≤ 1000000000)
    (hread : ∀ (W : World) (t : List F8), But w.heap.size (addS qm gf g1) w W → Own W Bo 5 (.slice (some ⟨g1, 0, none⟩) M C) (bv (bs t)) → t.length = M → (∀ i, ¬ (off ≤ i ∧ i < off + n) → coef t i = coef s i) → Bytes W B (bs q)) :
    Calls Tryz.prog 123 #[.pointer (some ⟨qm, 0, none⟩), .slice A1 ls cs, .slice B n d, .int .u8 c.n] w (AddRes Bo qm gf g1 M C off n s q c w) := by
  by_cases hc0 : c = 0
  · have hx0 : ((c.n : Int) == 0) = true := by rw [hc0]; rfl
    have HF := Lib.hid hf
    have HM := Lib.hid hM
    have HS := Lib.hid hS
    have HC := Lib.hid hc0
    clear hf hM hS hc0 hread hA hsl hl
    go_enter Tryz.func123, Tryz.ntmps123
    go_wp2
    refine bodyPost_ret (results_none rfl _ _ _) rfl ?_
    exact ⟨rfl, ⟨s, by rw [HC.out]; exact SoFar.zero s q off n, HS.out⟩, HF.out, HM.out, But.refl _ _ _⟩
  · obtain ⟨met, tab, hb, hmet, htab⟩ := hM.ex
    rcases Nat.lt_or_ge (met c.n) 256 with hm | hm
    · exact addTimes_few Bo qm gf g1 M C off ls cs n d A1 B s q c w hf hM hS hsl hl hA hoff hls hn hread met tab hb hmet htab hc0 hm
    · exact addTimes_many Bo qm gf g1 M C off ls cs n d A1 B s q c w hf hM hS hsl hl hA hoff hls hn hread met tab hb hc0 hm
end Go.Proofs.YtbghmbfmidbgaaaGreat.Mat

/- What the program's Mul does. -/
namespace Go.Proofs.YtbghmbfmidbgaaaGreat.Mat
open Go.RowKit Go.Shelf F8 Poly GF
attribute [local go_sem] Oper.semAt_some

def zmc (i : Nat) : Value := if i = 0 then .pointer none else if i < 257 then .int .i64 0 else .pointer none
def zmcells : Array Value := Array.ofFn (n := 513) fun i => zmc i
theorem zero_multiplier (w : World) : (zeroValue 164).run Tryz.prog w = .ok (.agg zmcells) w := by kernel_rfl
theorem zmcells_set (gf : Nat) : zmcells.setIfInBounds 0 (.pointer (some ⟨gf, 0, none⟩)) = mcells gf (fun _ => 0) (fun _ => none) := by
  apply Array.ext
  · simp [zmcells, mcells]
  · intro i h1 h2
    have hi : i < 513 := by simpa [mcells] using h2
    rw [Array.getElem_setIfInBounds (by simpa [zmcells] using hi)]
    simp only [zmcells, mcells, Array.getElem_ofFn]
    unfold zmc mc
    by_cases h : i = 0
    · subst h; rfl
    · rw [if_neg (fun e => h e.symm), if_neg h, if_neg h]; rfl
theorem store_mul (gf : Nat) (w : World) : (storeCells ⟨w.heap.size, 0, none⟩ (zmcells.toList.set 0 (.pointer (some ⟨gf, 0, none⟩)))).run Tryz.prog (w.alloc (.cells zmcells 164)) = .ok () (w.alloc (.cells (mcells gf (fun _ => 0) (fun _ => none)) 164)) := by
  have e : zmcells.toList.set 0 (.pointer (some ⟨gf, 0, none⟩)) = (mcells gf (fun _ => 0) (fun _ => none)).toList := by
    rw [← zmcells_set, Array.toList_setIfInBounds]
  rw [e]
  have hz : (mcells gf (fun _ => 0) (fun _ => none)).size = 513 := by simp [mcells]
  have hi : (Tryz.prog.info? 164).map (·.size) = some 513 := by kernel_rfl
  refine run_storeCells_new w 164 zmcells _ (by rw [hz]; exact hi) (by rw [hz]; simp [zmcells]) ?_
  rw [Array.all_eq_true]
  intro i hi2
  have hi3 : i < 513 := by rw [hz] at hi2; exact hi2
  simp only [mcells, Array.getElem_ofFn]
  unfold mc
  split
  · rfl
  · split <;> rfl
theorem mulst_new (w : World) (gf : Nat) : MulSt (w.alloc (.cells (mcells gf (fun _ => 0) (fun _ => none)) 164)) w.heap.size gf :=
  ⟨_, _, Block.new _ _ _, fun _ => by omega, fun _ => .inl rfl⟩

theorem wpAnyH_one {P : Program} {ops : Array Oper} {Q : Exit → Act → World → Prop} {md : Region.Mode} {S : World → Prop} {fuel i : Nat} {listed : Array Bool} {o : Oper} {a : Act} {w : World} (hr : Region.ready md ops listed = [i]) (ho : ops[i]? = some o) (hw : Region.wanted o (yielded ops a.tmps) = true)
    (h : o.wp P a w (fun a2 w2 => S w2 ∧ wpAnyH P md ops Q S fuel (listed.setIfInBounds i true) a2 w2) Q) : wpAnyH P md ops Q S (fuel + 1) listed a w :=
  wpAnyH_all hr (by simp) (fun j hj => (by simpa using hj : j = i) ▸ wpOp_call ho hw h)
/-- The product, the rows ahead of i done, and of that j terms. -/
def mulT (s q : List F8) (n m i j a b : Nat) : F8 := if a < i then mulF n (ent s n) (ent q m) a b else if a = i then sum j (fun l => ent s n a l * ent q m l b) else 0
theorem mulT_step {r n m i j : Nat} {s q t t' : List F8} (h : IsM r m t (mulT s q n m i j)) (h2 : SoFar t t' (rowL q m j) (i * m) m (ent s n i j)) : IsM r m t' (mulT s q n m i (j + 1)) := by
  refine ⟨by rw [h2.1, h.len], fun a b ha hb => ?_⟩
  have e : ent t' m a b = ent t m a b + if i * m ≤ a * m + b ∧ a * m + b < i * m + m then ent s n i j * coef (rowL q m j) (a * m + b - i * m) else 0 := h2.2 _
  rw [e, h.ent a b ha hb]
  unfold mulT
  by_cases e1 : a = i
  · subst e1
    have h0 : a * m ≤ a * m + b ∧ a * m + b < a * m + m := ⟨Nat.le_add_right _ _, Nat.add_lt_add_left hb _⟩
    simp only [Nat.lt_irrefl, if_false, if_true, h0, and_self, Nat.add_sub_cancel_left, coef_rowL hb]
    rfl
  · rw [if_neg (fun h => e1 ((idx_row hb).1 h)), add_zero]
    by_cases e2 : a < i
    · rw [if_pos e2, if_pos e2]
    · rw [if_neg e2, if_neg e1, if_neg e2, if_neg e1]
theorem mulT_row {r n m i : Nat} {s q t : List F8} (h : IsM r m t (mulT s q n m i n)) : IsM r m t (mulT s q n m (i + 1) 0) :=
  h.congr fun a b ha hb => by
    unfold mulT
    by_cases e1 : a < i
    · rw [if_pos e1, if_pos (by omega)]
    · rw [if_neg e1]
      by_cases e2 : a = i
      · rw [if_pos e2, if_pos (by omega)]; rfl
      · rw [if_neg e2, if_neg (by omega)]
        split <;> rfl

end Go.Proofs.YtbghmbfmidbgaaaGreat.Mat
