/- What the program's Roots and Through do. -/
import Derived.Test.YtjpbdbgihakpmaaPolyCode6
import Derived.Test.YtjpbdbgihakpmaaPolyMath2
namespace Go.Proofs.Ytjpbdbgihakpmaa.Poly
open Go.RowKit Go.Shelf F8 GF

theorem roots_take (p : List F8) (k : Nat) (x : F8) (hk : k < p.length) (hx : coef p k = x) : trim (pmul (trim (roots (p.take k))) [x, 1]) = trim (roots (p.take (k + 1))) := by
  rw [take_succ' p hk, ← coef_of_lt hk, hx]
  exact trim_congr ((pmul_congr_left _ (trim_eqv _)).trans (roots_snoc _ _).symm)
theorem roots_len (p : List F8) : (trim (roots p)).length = p.length + 1 := len_roots p
theorem far_own {w : World} {g B n c : Nat} {A : Option Addr} {p : List F8} (hf : Fld w g) (h : Own w B 5 (.slice A n c) (bv (bs p))) : Far (some ⟨g, 0, none⟩) A p := by
  intro _ a b ha hb
  cases hb
  subst ha
  have h1 : (Value.slice (some a) n c).ownBlock ≠ some g := by rcases hf with hf | hf <;> exact own_ne h hf (by decide)
  intro e
  exact h1 (show some a.block = some g by rw [show a.block = g from e])
/-- Roots' answer. -/
def RootsRes (pf : Option Addr) (w : World) (r : List F8) (e : Ending) (w' : World) : Prop := PolyRes pf w w' e r
set_option maxRecDepth 100000 in
set_option maxHeartbeats 2000000 in
theorem roots_pcalls (A : Option Addr) (p : List F8) (m c : Nat) (w : World) (hl : p.length = m) (hb : Bytes w A (bs p)) (hm : m ≤ 1000) (pf : Option Addr) (hf : FldP w pf) (hfar : Far pf A p) :
    Calls Try.prog 41 #[.pointer pf, .slice A m c] w (RootsRes pf w (trim (roots p))) := by
  have HB := Lib.hid hb
  have HL := Lib.hid hl
  clear hb hl
  go_enter Try.func41, Try.ntmps41
  go_wp2_with fail
  refine (orNew_f pf w _ hf (Below.refl _ _)).mono ?_
  rintro e w1 ⟨g, rfl, hg, hF1, hB1⟩
  have hs1 := hB1.size
  have hglt := hF1.lt
  have hfa := hg.far (Nat.le_refl _) hfar HB.out
  go_wp2
  go_loopw [5, 13] (fun v i wr => ∃ k : Nat, k ≤ m ∧ i = .int .i64 k ∧ Hid (Own wr w.heap.size 5 v (bv (bs (trim (roots (p.take k)))))) ∧ Hid (Fld wr g) ∧ Hid (Past w.heap.size g w wr)) (fun _ i _ => m - (intOf i).toNat)
  case atStart =>
    refine ⟨0, by omega, rfl, Lib.hid ?_, Lib.hid (hF1.alloc _), Lib.hid ((Past.of_below hB1 _).alloc hs1 _)⟩
    have h1 := Own.lit w1 w1.heap.size 5 #[.int .u8 1] 1 (Nat.le_refl _) rfl (by decide)
    have e1 : trim (roots (p.take 0)) = [1] := by rw [List.take_zero]; show trim [1] = [1]; exact trim_snoc [] 1 one_ne_zero
    rw [e1]
    exact Own.more h1 hs1
  case round =>
    obtain ⟨k, hk, rfl, HO, HF, HP⟩ := hrel
    by_cases hkk : k < m
    · have HBr := bytes_far HB.out (fun hp a ha => (hfa hp a ha).1) HP.out
      obtain ⟨b, o, rfl⟩ := where_ HB.out (by have := HL.out; omega)
      have hcell := cellAt HBr k (by have := HL.out; omega)
      obtain ⟨x, hx⟩ : ∃ x, coef p k = x := ⟨_, rfl⟩
      rw [hx] at hcell
      have HT := Lib.hid (roots_take p k x (by have := HL.out; omega) hx)
      obtain ⟨r, hr⟩ : ∃ r, trim (roots (p.take k)) = r := ⟨_, rfl⟩
      rw [hr] at HT HO
      have hrl : r.length = k + 1 := by rw [← hr, roots_len, List.length_take, HL.out]; omega
      have HRL := Lib.hid hrl
      obtain ⟨A2, c2, rfl, hc2⟩ := Own.shape HO.out
      rw [HRL.out] at HO hc2
      have hsz := HP.out.size
      have hF2 : Fld (wr.alloc (.cells #[.int .u8 x.n, .int .u8 1] 5)) g := HF.out.alloc _
      have hO2 : Own (wr.alloc (.cells #[.int .u8 x.n, .int .u8 1] 5)) w.heap.size 5 (.slice A2 (k + 1) c2) (bv (bs r)) := HO.out.alloc _
      have hX : Bytes (wr.alloc (.cells #[.int .u8 x.n, .int .u8 1] 5)) (some ⟨wr.heap.size, 0, none⟩) (bs [x, 1]) := ⟨Row.new _ _ _ _, bs_lt _⟩
      have HBA : Hid (Bytes (wr.alloc (.cells #[.int .u8 x.n, .int .u8 1] 5)) A2 (bs r)) := Lib.hid (by rw [← hrl] at hO2; exact Own.bytes hO2)
      have hFA := far_own hF2 hO2
      have hFX : Far (some ⟨g, 0, none⟩) (some ⟨wr.heap.size, 0, none⟩) [x, 1] := by
        intro _ a b ha hb
        cases ha; cases hb
        have := HF.out.lt
        simp; omega
      clear hx hr hrl HBr hglt hfa
      rw [HRL.out]
      go_wp2_with fail
      refine (mul_pcalls A2 (some ⟨wr.heap.size, 0, none⟩) r [x, 1] (k + 1) 2 c2 2 _ HRL.out rfl HBA.out hX hc2 (Nat.le_refl _) (by omega) (by omega) (some ⟨g, 0, none⟩) (FldP.of hF2) hFA hFX).mono ?_
      rintro e w3 ⟨A3, c3, rfl, hc3, hO3, hF3, hP3⟩
      rw [HT.out] at hO3
      have HO3 := Lib.hid (hO3.more (B' := w.heap.size) (by simp; omega))
      have HF3 := Lib.hid hF3.fld
      have HP3 : Hid (Past w.heap.size g w w3) := Lib.hid ((HP.out.alloc hsz _).trans (hP3.mono (by simp; omega)))
      rw [HT.out]
      clear hO3 hF3 hP3 hc3 hF2 hO2 hX hFA hFX hcell
      go_wp2
      go_roundw
      case rel => exact ⟨k + 1, by omega, by go_num, HO3, HF3, HP3⟩
      case measure => simp [intOf]; omega
    · obtain rfl : k = m := by omega
      have HT : Hid (p.take k = p) := Lib.hid (List.take_of_length_le (by rw [HL.out]; omega))
      rw [HT.out] at HO
      clear HT hkk hk
      go_wp2
      go_ret
      obtain ⟨A2, c2, rfl, hc2⟩ := Own.shape HO.out
      exact ⟨A2, c2, rfl, hc2, HO.out, hg.fldP HF.out, hg.past (Nat.le_refl _) HP.out⟩
end Go.Proofs.Ytjpbdbgihakpmaa.Poly
