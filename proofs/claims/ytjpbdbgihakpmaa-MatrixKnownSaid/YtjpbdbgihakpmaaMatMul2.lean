/- What the program's addTimes does: a row times a factor, added to another row. -/
import Derived.Test.YtjpbdbgihakpmaaMatMul1
namespace Go.Proofs.Ytjpbdbgihakpmaa.Mat
open Go.RowKit Go.Shelf F8 Poly GF
attribute [local go_sem] Oper.semAt_some

/-- Of q times c the first k have been added to s, from off on. -/
def SoFar (s t q : List F8) (off k : Nat) (c : F8) : Prop := t.length = s.length ∧ ∀ i, coef t i = coef s i + if off ≤ i ∧ i < off + k then c * coef q (i - off) else 0
theorem SoFar.start (s q : List F8) (off : Nat) (c : F8) : SoFar s s q off 0 c := ⟨rfl, fun i => by rw [if_neg (by omega), add_zero]⟩
theorem SoFar.at_ {s t q : List F8} {off k : Nat} {c : F8} (h : SoFar s t q off k c) : coef t (off + k) = coef s (off + k) := by rw [h.2, if_neg (by omega), add_zero]
theorem SoFar.step {s t q : List F8} {off k : Nat} {c : F8} (h : SoFar s t q off k c) (hk : off + k < s.length) : SoFar s (t.set (off + k) (coef t (off + k) + coef q k * c)) q off (k + 1) c := by
  refine ⟨by rw [List.length_set, h.1], fun i => ?_⟩
  rw [coef_set' t (off + k) _ (by rw [h.1]; exact hk) i]
  by_cases e : i = off + k
  · subst e
    rw [if_pos rfl, if_pos (by omega), h.at_, show off + k - off = k by omega, mul_comm]
  · rw [if_neg e, h.2]
    congr 1
    by_cases e2 : off ≤ i ∧ i < off + k
    · rw [if_pos e2, if_pos (by omega)]
    · rw [if_neg e2, if_neg (by omega)]
theorem SoFar.zero (s q : List F8) (off n : Nat) : SoFar s s q off n 0 := ⟨rfl, fun i => by rw [zero_mul]; split <;> rw [add_zero]⟩
theorem SoFar.out {s t q : List F8} {off k n : Nat} {c : F8} (h : SoFar s t q off k c) (hk : k ≤ n) (i : Nat) (hi : ¬ (off ≤ i ∧ i < off + n)) : coef t i = coef s i := by
  rw [h.2, if_neg (by omega), add_zero]
def addS (qm gf g1 : Nat) (k : Nat) : Prop := k = qm ∨ k = gf ∨ k = g1
/-- What addTimes leaves. -/
def AddRes (Bo qm gf g1 M C off n : Nat) (s q : List F8) (c : F8) (w : World) (e : Ending) (w' : World) : Prop :=
  e = .returned (.tuple #[]) ∧ (∃ t, SoFar s t q off n c ∧ Own w' Bo 5 (.slice (some ⟨g1, 0, none⟩) M C) (bv (bs t))) ∧ Fld w' gf ∧ MulSt w' qm gf ∧ But w.heap.size (addS qm gf g1) w w'
theorem n_le (x : F8) : (0 : Int) ≤ (x.n : Int) ∧ (x.n : Int) < 256 := by have := x.h; omega

set_option maxRecDepth 100000 in
set_option maxHeartbeats 4000000 in
theorem addTimes_few (Bo qm gf g1 M C off ls cs n d : Nat) (A1 B : Option Addr) (s q : List F8) (c : F8) (w : World) (hf : Fld w gf) (hM : MulSt w qm gf) (hS : Own w Bo 5 (.slice (some ⟨g1, 0, none⟩) M C) (bv (bs s))) (hsl : s.length = M) (hl : q.length = n) (hA : 0 < n → A1 = some ⟨g1, off, none⟩)
    (hoff : off + n ≤ M) (hls : n ≤ ls) (hn : n ≤ 1000000000)
    (hread : ∀ (W : World) (t : List F8), But w.heap.size (addS qm gf g1) w W → Own W Bo 5 (.slice (some ⟨g1, 0, none⟩) M C) (bv (bs t)) → t.length = M → (∀ i, ¬ (off ≤ i ∧ i < off + n) → coef t i = coef s i) → Bytes W B (bs q))
    (met : Nat → Nat) (tab : Nat → Option Addr) (hb : Block w qm 140 (mcells gf met tab)) (hmet : ∀ f, met f ≤ 1099511627776) (htab : ∀ f, tab f = none ∨ ∃ t, tab f = some ⟨t, 0, none⟩ ∧ Block w t 111 (tcells f 256)) (hc0 : c ≠ 0) (hm : met c.n < 256) :
    Calls Try.prog 94 #[.pointer (some ⟨qm, 0, none⟩), .slice A1 ls cs, .slice B n d, .int .u8 c.n] w (AddRes Bo qm gf g1 M C off n s q c w) := by
  have hx0 : ((c.n : Int) == 0) = false := n_beq0 hc0
  have hnq := hM.ne_fld hf
  have hng := hM.ne_own hS
  have hgf := Fld.ne_own hf (by decide) hS
  have hbk := Own.blk hS
  have hcn := c.h
  have c1 : w.cell? ⟨qm, 1 + c.n, none⟩ = some (.int .i64 (met c.n : Nat)) := by
    rw [hb.cell, mcells_get _ _ _ _ (by omega)]; unfold mc; rw [if_neg (by omega), if_pos (by omega), show 1 + c.n - 1 = c.n by omega]
  have f1 := hb.frozen (1 + c.n)
  obtain ⟨m, hmm⟩ : ∃ m, met c.n = m := ⟨_, rfl⟩
  rw [hmm] at c1 hm
  have hb2 := hb.set_ (1 + c.n) (.int .i64 ((m + n : Nat) : Int))
  rw [mcells_met _ _ _ _ _ hcn, show ((m + n : Nat) : Int) = (m : Int) + (n : Int) by omega] at hb2
  obtain ⟨wm, hwm⟩ : ∃ wm, (w.setCell ⟨qm, 1 + c.n, none⟩ (.int .i64 ((m : Int) + (n : Int)))).drew = wm := ⟨_, rfl⟩
  have HM2 : Hid (MulSt wm qm gf) := Lib.hid (by rw [← hwm]; refine ⟨_, _, hb2.drew, fun f => by unfold upd; split; omega; exact hmet f, fun f => ?_⟩; exact (by
    rcases htab f with h | ⟨t, h, ht⟩
    · exact .inl h
    · exact .inr ⟨t, h, (ht.far (by simpa using block_ne ht hb (by decide)) _).drew⟩))
  have HL := Lib.hid hl
  have HSL := Lib.hid hsl
  have HRd := Lib.hid hread
  have HA := Lib.hid hA
  have HF2 : Hid (Fld wm gf) := Lib.hid (by rw [← hwm]; exact hf.imp (fun h => (h.far (by simpa using Ne.symm hnq) _).drew) (fun h => (h.far (by simpa using Ne.symm hnq) _).drew))
  have HS2 : Hid (Own wm Bo 5 (.slice (some ⟨g1, 0, none⟩) M C) (bv (bs s))) := Lib.hid (by rw [← hwm]; exact (hS.far (by simp [Value.ownBlock]; omega) _).drew)
  have HU2 : Hid (But w.heap.size (addS qm gf g1) w wm) := Lib.hid (by rw [← hwm]; exact ((But.refl _ _ w).setCell (p := ⟨qm, 1 + c.n, none⟩) (.inl (.inl rfl)) _).drew)
  have HW := Lib.hid hwm
  have hmd : decide ((m : Int) < 256) = true := by simp; omega
  clear hl hsl hread hA hf hS hM hb hmet htab hb2 hmm hwm
  go_enter Try.func94, Try.ntmps94
  go_wp2
  go_region
  rw [HW.out]
  go_wp2
  go_loopw [36] (fun i wr => ∃ (k : Nat) (t : List F8), k ≤ n ∧ i = .int .i64 k ∧ Hid (SoFar s t q off k c) ∧ Hid (Own wr Bo 5 (.slice (some ⟨g1, 0, none⟩) M C) (bv (bs t))) ∧ Hid (Fld wr gf) ∧ Hid (MulSt wr qm gf) ∧ Hid (But w.heap.size (addS qm gf g1) w wr)) (fun i _ => n - (intOf i).toNat)
  case atStart => exact ⟨0, s, by omega, rfl, Lib.hid (SoFar.start s q off c), HS2, HF2, HM2, HU2⟩
  case round =>
    clear HS2 HF2 HM2 HU2 HW f1 c1
    obtain ⟨k, t, hk, rfl, HT, HSr, HFr, HMr, HU⟩ := hrel
    by_cases hkk : k < n
    · have htM : t.length = M := by rw [HT.out.1, HSL.out]
      have HTM := Lib.hid htM
      have hbq := HRd.out wr t HU.out HSr.out htM (fun i hi => HT.out.out hk i hi)
      obtain ⟨b, o, rfl⟩ := where_ hbq (by have := HL.out; omega)
      have hcell := cellAt hbq k (by have := HL.out; omega)
      obtain ⟨x, hx⟩ : ∃ x, coef q k = x := ⟨_, rfl⟩
      obtain ⟨y, hy⟩ : ∃ y, coef t (off + k) = y := ⟨_, rfl⟩
      have hc2 := own_cell HSr.out htM (k := off + k) (by omega)
      have hgl := (Own.blk HSr.out).2
      have hpf := HMr.out.field
      have HT2 : Hid (SoFar s (t.set (off + k) (y + x * c)) q off (k + 1) c) := Lib.hid (by rw [← hx, ← hy]; exact HT.out.step (by have := HSL.out; omega))
      rw [hx] at hcell
      rw [hy] at hc2
      have hkl : k < ls := by omega
      obtain rfl : A1 = some ⟨g1, off, none⟩ := HA.out (by omega)
      have hgz := HU.out.size
      clear hx hy hbq htM
      go_wp2_with fail
      go_region_with (first
        | (go_at_call 32; refine (mul_f gf x c _ (show Fld wr.drew gf from HFr.out)).mono ?_; rintro e w2 ⟨rfl, hF2, hP2⟩; have hc3 := (past_cell hP2 ⟨g1, off + k, none⟩ hgl (by simp; omega)).trans (show wr.drew.cell? ⟨g1, off + k, none⟩ = _ from hc2); have HS2 := Lib.hid (own_keep (w' := w2) (HSr.out.drew) (by decide) (show Fld wr.drew gf from HFr.out) hP2); have hf3 := own_frozen HS2.out HTM.out (off + k); have HM2 := Lib.hid (MulSt.past (show MulSt wr.drew qm gf from HMr.out.turn (Turn.drewN (Turn.refl 0 wr) 1)) (show Fld wr.drew gf from HFr.out) hP2); have HF2 := Lib.hid hF2; have HP2 := Lib.hid hP2; clear hF2 hP2)
        | (go_at_call 40; refine (add_still y (x * c) _).mono ?_; rintro e w3 ⟨rfl, rfl⟩))
      all_goals
        have HS3 : Hid (Own (w3.setCell ⟨g1, off + k, none⟩ (.int .u8 ((y + x * c).n : Int))) Bo 5 (.slice (some ⟨g1, 0, none⟩) M C) (bv (bs (t.set (off + k) (y + x * c))))) := Lib.hid (own_set HS2.out HTM.out)
        have HF3 : Hid (Fld (w3.setCell ⟨g1, off + k, none⟩ (.int .u8 ((y + x * c).n : Int))) gf) := Lib.hid (HF2.out.imp (fun h => h.far hgf _) (fun h => h.far hgf _))
        have HM3 : Hid (MulSt (w3.setCell ⟨g1, off + k, none⟩ (.int .u8 ((y + x * c).n : Int))) qm gf) := Lib.hid (HM2.out.store HS2.out (off + k) _)
        have HU3 : Hid (But w.heap.size (addS qm gf g1) w (w3.setCell ⟨g1, off + k, none⟩ (.int .u8 ((y + x * c).n : Int)))) := Lib.hid ((HU.out.drew.trans (But.of_past (HP2.out.mono hgz) (.inr (.inl rfl)))).setCell (p := ⟨g1, off + k, none⟩) (.inl (.inr (.inr rfl))) _)
        clear HA hc3 hf3 hc2 hcell hpf
        go_wp2
        go_roundw
        case rel => exact ⟨k + 1, _, by omega, by go_num, HT2, HS3, HF3, HM3, HU3⟩
        case measure => simp [intOf]; omega
    · obtain rfl : k = n := by omega
      go_wp2
      go_end0
      exact ⟨rfl, ⟨t, HT.out, HSr.out⟩, HFr.out, HMr.out, HU.out⟩
end Go.Proofs.Ytjpbdbgihakpmaa.Mat
