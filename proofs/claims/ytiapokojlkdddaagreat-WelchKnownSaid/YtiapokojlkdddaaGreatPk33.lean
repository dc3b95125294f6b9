/- Of the program and its document, joined: MatMul3. -/
import Derived.Test.YtiapokojlkdddaaGreatPk31
/- What the program's addTimes does, by a table; and in any case. -/
namespace Go.Proofs.YtiapokojlkdddaaGreat.Mat
open Go.RowKit Go.Shelf F8 Poly GF
attribute [local go_sem] Oper.semAt_some

set_option maxRecDepth 100000 in
set_option maxHeartbeats 4000000 in
theorem addTimes_many (Bo qm gf g1 M C off ls cs n d : Nat) (A1 B : Option Addr) (s q : List F8) (c : F8) (w : World) (hf : Fld w gf) (hM : MulSt w qm gf) (hS : Own w Bo 5 (.slice (some ⟨g1, 0, none⟩) M C) (bv (bs s))) (hsl : s.length = M) (hl : q.length = n) (hA : 0 < n → A1 = some ⟨g1, off, none⟩)
    (hoff : off + n ≤ M) (hls : n ≤ ls) (hn : n ≤ 1000000000)
    (hread : ∀ (W : World) (t : List F8), But w.heap.size (addS qm gf g1) w W → Own W Bo 5 (.slice (some ⟨g1, 0, none⟩) M C) (bv (bs t)) → t.length = M → (∀ i, ¬ (off ≤ i ∧ i < off + n) → coef t i = coef s i) → Bytes W B (bs q))
    (met : Nat → Nat) (tab : Nat → Option Addr) (hb : Block w qm 215 (mcells gf met tab)) (hc0 : c ≠ 0) (hm : 256 ≤ met c.n) :
    Calls Tryz.prog 161 #[.pointer (some ⟨qm, 0, none⟩), .slice A1 ls cs, .slice B n d, .int .u8 c.n] w (AddRes Bo qm gf g1 M C off n s q c w) := by
  have hx0 : ((c.n : Int) == 0) = false := n_beq0 hc0
  have hnq := hM.ne_fld hf
  have hng := hM.ne_own hS
  have hgf := Fld.ne_own hf (by decide) hS
  have hbk := Own.blk hS
  have hcn := c.h
  have c1 : w.cell? ⟨qm, 1 + c.n, none⟩ = some (.int .i64 (met c.n : Nat)) := by
    rw [hb.cell, mcells_get _ _ _ _ (by omega)]; unfold mc; rw [if_neg (by omega), if_pos (by omega), show 1 + c.n - 1 = c.n by omega]
  obtain ⟨m, hmm⟩ : ∃ m, met c.n = m := ⟨_, rfl⟩
  rw [hmm] at c1 hm
  have hmd : decide ((m : Int) < 256) = false := by simp; omega
  have HL := Lib.hid hl
  have HSL := Lib.hid hsl
  have HRd := Lib.hid hread
  have HA := Lib.hid hA
  have HF := Lib.hid hf
  have HM := Lib.hid hM
  have HS := Lib.hid hS
  clear hl hsl hread hA hf hS hM hb hmm
  go_enter Tryz.func161, Tryz.ntmps161
  go_wp2_with fail
  refine (table_calls qm gf c.n hcn w HM.out HF.out).mono ?_
  rintro e w1 ⟨t, rfl, hT, hM1, hF1, hU1⟩
  have hgt : t ≠ g1 := fun e => by
    subst e
    exact own_ne (But.own hU1 HS.out (fun b hb => by simp [Value.ownBlock] at hb; subst hb; rintro (rfl | rfl); exact hng rfl; exact hgf rfl)) hT (by decide) rfl
  have htf : gf ≠ t := Fld.ne_block hF1 hT (by decide)
  have HS1 : Hid (Own w1 Bo 5 (.slice (some ⟨g1, 0, none⟩) M C) (bv (bs s))) := Lib.hid (But.own hU1 HS.out (fun b hb => by simp [Value.ownBlock] at hb; subst hb; rintro (rfl | rfl); exact hng rfl; exact hgf rfl))
  have HU1 : Hid (But w.heap.size (addS qm gf g1) w w1) := Lib.hid (hU1.mono (Nat.le_refl _) (fun k _ h => h.imp id .inl))
  have HT1 := Lib.hid hT
  have HM1 := Lib.hid hM1
  have HF1 := Lib.hid hF1
  clear hT hM1 hF1 hU1 HM HF HS c1
  go_wp2
  go_loopw [62] (fun i wr => ∃ (k : Nat) (u : List F8), k ≤ n ∧ i = .int .i64 k ∧ Hid (SoFar s u q off k c) ∧ Hid (Own wr Bo 5 (.slice (some ⟨g1, 0, none⟩) M C) (bv (bs u))) ∧ Hid (Fld wr gf) ∧ Hid (MulSt wr qm gf) ∧ Hid (Block wr t 110 (tcells c.n 256)) ∧ Hid (But w.heap.size (addS qm gf g1) w wr)) (fun i _ => n - (intOf i).toNat)
  case atStart => exact ⟨0, s, by omega, rfl, Lib.hid (SoFar.start s q off c), HS1, HF1, HM1, HT1, HU1⟩
  case round =>
    clear HS1 HF1 HM1 HU1 HT1
    obtain ⟨k, u, hk, rfl, HT, HSr, HFr, HMr, HTr, HU⟩ := hrel
    by_cases hkk : k < n
    · have htM : u.length = M := by rw [HT.out.1, HSL.out]
      have HTM := Lib.hid htM
      have hbq := HRd.out wr u HU.out HSr.out htM (fun i hi => HT.out.out hk i hi)
      obtain ⟨b, o, rfl⟩ := where_ hbq (by have := HL.out; omega)
      have hcell := cellAt hbq k (by have := HL.out; omega)
      obtain ⟨x, hx⟩ : ∃ x, coef q k = x := ⟨_, rfl⟩
      obtain ⟨y, hy⟩ : ∃ y, coef u (off + k) = y := ⟨_, rfl⟩
      have hc2 := own_cell HSr.out htM (k := off + k) (by omega)
      have hf2 := own_frozen HSr.out htM (off + k)
      have hgl := (Own.blk HSr.out).2
      have hxh := x.h
      have htc : wr.cell? ⟨t, x.n, none⟩ = some (.int .u8 ((x * c).n : Int)) := by
        rw [HTr.out.cell, tcells_get _ _ _ hxh]; unfold tc; rw [if_pos hxh]; rfl
      have HT2 : Hid (SoFar s (u.set (off + k) (y + x * c)) q off (k + 1) c) := Lib.hid (by rw [← hx, ← hy]; exact HT.out.step (by have := HSL.out; omega))
      rw [hx] at hcell
      rw [hy] at hc2
      have hkl : k < ls := by omega
      obtain rfl : A1 = some ⟨g1, off, none⟩ := HA.out (by omega)
      have hgz := HU.out.size
      clear hx hy hbq htM
      go_wp2_with fail
      go_region_with (go_at_call 44; refine (add_still y (x * c) _).mono ?_; rintro e w3 ⟨rfl, rfl⟩)
      all_goals
        have HS3 : Hid (Own (wr.setCell ⟨g1, off + k, none⟩ (.int .u8 ((y + x * c).n : Int))).drew Bo 5 (.slice (some ⟨g1, 0, none⟩) M C) (bv (bs (u.set (off + k) (y + x * c))))) := Lib.hid (own_set HSr.out HTM.out).drew
        have HF3 : Hid (Fld (wr.setCell ⟨g1, off + k, none⟩ (.int .u8 ((y + x * c).n : Int))).drew gf) := Lib.hid (HFr.out.imp (fun h => (h.far hgf _).drew) (fun h => (h.far hgf _).drew))
        have HM3 : Hid (MulSt (wr.setCell ⟨g1, off + k, none⟩ (.int .u8 ((y + x * c).n : Int))).drew qm gf) := Lib.hid ((HMr.out.store HSr.out (off + k) _).turn (Turn.drewN (Turn.refl 0 _) 1))
        have HT3 : Hid (Block (wr.setCell ⟨g1, off + k, none⟩ (.int .u8 ((y + x * c).n : Int))).drew t 110 (tcells c.n 256)) := Lib.hid (HTr.out.far hgt _).drew
        have HU3 : Hid (But w.heap.size (addS qm gf g1) w (wr.setCell ⟨g1, off + k, none⟩ (.int .u8 ((y + x * c).n : Int))).drew) := Lib.hid (HU.out.setCell (p := ⟨g1, off + k, none⟩) (.inl (.inr (.inr rfl))) _).drew
        clear HA hf2 hc2 hcell htc
        go_wp2
        go_roundw
        case rel => exact ⟨k + 1, _, by omega, by go_num, HT2, HS3, HF3, HM3, HT3, HU3⟩
        case measure => simp [intOf]; omega
    · obtain rfl : k = n := by omega
      go_wp2
      go_end0
      exact ⟨rfl, ⟨u, HT.out, HSr.out⟩, HFr.out, HMr.out, HU.out⟩

theorem addTimes_calls (Bo qm gf g1 M C off ls cs n d : Nat) (A1 B : Option Addr) (s q : List F8) (c : F8) (w : World) (hf : Fld w gf) (hM : MulSt w qm gf) (hS : Own w Bo 5 (.slice (some ⟨g1, 0, none⟩) M C) (bv (bs s))) (hsl : s.length = M) (hl : q.length = n) (hA : 0 < n → A1 = some ⟨g1, off, none⟩)
    (hoff : off + n ≤ M) (hls : n ≤ ls) (hn : n ≤ 1000000000)
    (hread : ∀ (W : World) (t : List F8), But w.heap.size (addS qm gf g1) w W → Own W Bo 5 (.slice (some ⟨g1, 0, none⟩) M C) (bv (bs t)) → t.length = M → (∀ i, ¬ (off ≤ i ∧ i < off + n) → coef t i = coef s i) → Bytes W B (bs q)) :
    Calls Tryz.prog 161 #[.pointer (some ⟨qm, 0, none⟩), .slice A1 ls cs, .slice B n d, .int .u8 c.n] w (AddRes Bo qm gf g1 M C off n s q c w) := by
  by_cases hc0 : c = 0
  · have hx0 : ((c.n : Int) == 0) = true := by rw [hc0]; rfl
    have HF := Lib.hid hf
    have HM := Lib.hid hM
    have HS := Lib.hid hS
    have HC := Lib.hid hc0
    clear hf hM hS hc0 hread hA hsl hl
    go_enter Tryz.func161, Tryz.ntmps161
    go_wp2
    refine bodyPost_ret (results_none rfl _ _ _) rfl ?_
    exact ⟨rfl, ⟨s, by rw [HC.out]; exact SoFar.zero s q off n, HS.out⟩, HF.out, HM.out, But.refl _ _ _⟩
  · obtain ⟨met, tab, hb, hmet, htab⟩ := hM.ex
    rcases Nat.lt_or_ge (met c.n) 256 with hm | hm
    · exact addTimes_few Bo qm gf g1 M C off ls cs n d A1 B s q c w hf hM hS hsl hl hA hoff hls hn hread met tab hb hmet htab hc0 hm
    · exact addTimes_many Bo qm gf g1 M C off ls cs n d A1 B s q c w hf hM hS hsl hl hA hoff hls hn hread met tab hb hc0 hm
end Go.Proofs.YtiapokojlkdddaaGreat.Mat
