/- Of the program, joined: PolyCode7, RdCode2, RdCode3, ElKit, RdDecode, RdKit. -/
import Derived.Test.YtjoghbmedfmioabGreatPt07
import Derived.Test.YtjoghbmedfmioabGreatPt01
import Derived.Test.YtjoghbmedfmioabGreatPt05
import Derived.Deep.RegionWith
import Derived.Deep.RegionHeld
import Derived.Test.YtjoghbmedfmioabGreatPt06
namespace Go.Proofs.YtjoghbmedfmioabGreat.Poly
open Go.RowKit Go.Shelf F8 GF
theorem roots_take (p : List F8) (k : Nat) (x : F8) (hk : k < p.length) (hx : coef p k = x) : trim (pmul (trim (roots (p.take k))) [x, 1]) = trim (roots (p.take (k + 1))) := by
 rw [take_succ' p hk, ← coef_of_lt hk, hx]
 exact trim_congr ((pmul_congr_left _ (trim_eqv _)).trans (roots_snoc _ _).symm)
theorem roots_len (p : List F8) : (trim (roots p)).length = p.length + 1 := len_roots p
theorem far_own {w : World} {g B n c : Nat} {A : Option Addr} {p : List F8} (hf : Fld w g) (h : Own w B 5 (.slice A n c) (bv (bs p))) : Far (some ⟨g, 0, none⟩) A p := by
 intro _ a b ha hb
 cases hb
 subst ha
 have h1 : (Value.slice (some a) n c).ownBlock ≠ some g := by rcases hf with hf | hf <;> exact own_ne h hf (by decide)
 intro e
 exact h1 (show some a.block = some g by rw [show a.block = g from e])
def RootsRes (pf : Option Addr) (w : World) (r : List F8) (e : Ending) (w' : World) : Prop := PolyRes pf w w' e r
set_option maxRecDepth 100000 in
set_option maxHeartbeats 2000000 in
theorem roots_pcalls (A : Option Addr) (p : List F8) (m c : Nat) (w : World) (hl : p.length = m) (hb : Bytes w A (bs p)) (hm : m ≤ 1000) (pf : Option Addr) (hf : FldP w pf) (hfar : Far pf A p) :
  Calls Tryz.prog 83 #[.pointer pf, .slice A m c] w (RootsRes pf w (trim (roots p))) := by
 have HB := Lib.hid hb
 have HL := Lib.hid hl
 clear hb hl
 go_enter Tryz.func83, Tryz.ntmps83
 go_wp2_with fail
 refine (orNew_f pf w _ hf (Below.refl _ _)).mono ?_
 rintro e w1 ⟨g, rfl, hg, hF1, hB1⟩
 have hs1 := hB1.size
 have hglt := hF1.lt
 have hfa := hg.far (Nat.le_refl _) hfar HB.out
 go_wp2
 go_loopw [5, 13] (fun v i wr => ∃ k : Nat, k ≤ m ∧ i = .int .i64 k ∧ Hid (Own wr w.heap.size 5 v (bv (bs (trim (roots (p.take k)))))) ∧ Hid (Fld wr g) ∧ Hid (Past w.heap.size g w wr)) (fun _ i _ => m - (intOf i).toNat)
 case atStart =>
  refine ⟨0, by omega, rfl, Lib.hid ?_, Lib.hid (hF1.alloc _), Lib.hid ((Past.of_below hB1 _).alloc hs1 _)⟩
  have h1 := Own.lit w1 w1.heap.size 5 #[.int .u8 1] 1 (Nat.le_refl _) rfl (by decide)
  have e1 : trim (roots (p.take 0)) = [1] := by rw [List.take_zero]; show trim [1] = [1]; exact trim_snoc [] 1 one_ne_zero
  rw [e1]
  exact Own.more h1 hs1
 case round =>
  obtain ⟨k, hk, rfl, HO, HF, HP⟩ := hrel
  by_cases hkk : k < m
  ·have HBr := bytes_far HB.out (fun hp a ha => (hfa hp a ha).1) HP.out
   obtain ⟨b, o, rfl⟩ := where_ HB.out (by have := HL.out; omega)
   have hcell := cellAt HBr k (by have := HL.out; omega)
   obtain ⟨x, hx⟩ : ∃ x, coef p k = x := ⟨_, rfl⟩
   rw [hx] at hcell
   have HT := Lib.hid (roots_take p k x (by have := HL.out; omega) hx)
   obtain ⟨r, hr⟩ : ∃ r, trim (roots (p.take k)) = r := ⟨_, rfl⟩
   rw [hr] at HT HO
   have hrl : r.length = k + 1 := by rw [← hr, roots_len, List.length_take, HL.out]; omega
   have HRL := Lib.hid hrl
   obtain ⟨A2, c2, rfl, hc2⟩ := Own.shape HO.out
   rw [HRL.out] at HO hc2
   have hsz := HP.out.size
   have hF2 : Fld (wr.alloc (.cells #[.int .u8 x.n, .int .u8 1] 5)) g := HF.out.alloc _
   have hO2 : Own (wr.alloc (.cells #[.int .u8 x.n, .int .u8 1] 5)) w.heap.size 5 (.slice A2 (k + 1) c2) (bv (bs r)) := HO.out.alloc _
   have hX : Bytes (wr.alloc (.cells #[.int .u8 x.n, .int .u8 1] 5)) (some ⟨wr.heap.size, 0, none⟩) (bs [x, 1]) := ⟨Row.new _ _ _ _, bs_lt _⟩
   have HBA : Hid (Bytes (wr.alloc (.cells #[.int .u8 x.n, .int .u8 1] 5)) A2 (bs r)) := Lib.hid (by rw [← hrl] at hO2; exact Own.bytes hO2)
   have hFA := far_own hF2 hO2
   have hFX : Far (some ⟨g, 0, none⟩) (some ⟨wr.heap.size, 0, none⟩) [x, 1] := by
    intro _ a b ha hb
    cases ha; cases hb
    have := HF.out.lt
    simp; omega
   clear hx hr hrl HBr hglt hfa
   rw [HRL.out]
   go_wp2_with fail
   refine (mul_pcalls A2 (some ⟨wr.heap.size, 0, none⟩) r [x, 1] (k + 1) 2 c2 2 _ HRL.out rfl HBA.out hX hc2 (Nat.le_refl _) (by omega) (by omega) (some ⟨g, 0, none⟩) (FldP.of hF2) hFA hFX).mono ?_
   rintro e w3 ⟨A3, c3, rfl, hc3, hO3, hF3, hP3⟩
   rw [HT.out] at hO3
   have HO3 := Lib.hid (hO3.more (B' := w.heap.size) (by simp; omega))
   have HF3 := Lib.hid hF3.fld
   have HP3 : Hid (Past w.heap.size g w w3) := Lib.hid ((HP.out.alloc hsz _).trans (hP3.mono (by simp; omega)))
   rw [HT.out]
   clear hO3 hF3 hP3 hc3 hF2 hO2 hX hFA hFX hcell
   go_wp2
   go_roundw
   case rel => exact ⟨k + 1, by omega, by go_num, HO3, HF3, HP3⟩
   case measure => simp [intOf]; omega
  ·obtain rfl : k = m := by omega
   have HT : Hid (p.take k = p) := Lib.hid (List.take_of_length_le (by rw [HL.out]; omega))
   rw [HT.out] at HO
   clear HT hkk hk
   go_wp2
   go_ret
   obtain ⟨A2, c2, rfl, hc2⟩ := Own.shape HO.out
   exact ⟨A2, c2, rfl, hc2, HO.out, hg.fldP HF.out, hg.past (Nat.le_refl _) HP.out⟩
end Go.Proofs.YtjoghbmedfmioabGreat.Poly

namespace Go.Proofs.YtjoghbmedfmioabGreat.Rd
open Go.RowKit Go.Shelf F8 Poly GF
attribute [local go_sem] Oper.semAt_some
theorem make_room (w : World) (n : Nat) (hn : n ≤ 1000000000) :
  ∃ w', (Instr.makeSlice 35 (.int .i64 0) (.int .i64 (n : Int))).run Tryz.prog w = .ok (.slice (some ⟨w.heap.size, 0, none⟩) 0 n) w' ∧ Own w' w.heap.size 5 (.slice (some ⟨w.heap.size, 0, none⟩) 0 n) (bv (bs [])) ∧ Below w.heap.size w w' := by
 obtain ⟨i0, hi, hi1, hi2, hi3⟩ := info_parts info_u8
 obtain ⟨w1, h1, h2, h3⟩ := run_make_own (P := Tryz.prog) w w.heap.size 35 5 i0 _ 1 Tryz.underlying35 hi hi1 hi2 .i64 .i64 n (by rw [hi3]; omega) (by simp only [maxLen]; omega) (Nat.le_refl _)
 exact ⟨w1, h1, h2, (Below.refl w.heap.size w).grown h3 (Nat.le_refl _) (fun _ h => by cases h)⟩
set_option maxRecDepth 100000 in
set_option maxHeartbeats 2000000 in
theorem at_calls (A : Option Addr) (p : List F8) (n c : Nat) (B : Option Addr) (pl : List Int) (m d : Nat) (w : World) (hn : p.length = n) (hb : Bytes w A (bs p)) (hn2 : n ≤ 1000000) (hl : pl.length = m) (hr : Row w B (zs pl)) (hm : m ≤ 1000000) (hok : OkP n pl) :
  Calls Tryz.prog 57 #[.slice A n c, .slice B m d] w (ROwn w (ptsAt p pl) m) := by
 have HB := Lib.hid hb
 have HR := Lib.hid hr
 have HM := Lib.hid hl
 have HN := Lib.hid hn
 have HK := Lib.hid hok
 obtain ⟨w1, hmk, hO1, hB1⟩ := make_room w m (by omega)
 have HO1 := Lib.hid hO1
 clear hb hl hr hok hn hO1
 go_enter Tryz.func57, Tryz.ntmps57
 go_wp2
 go_loopw [5, 13] (fun out i wr => ∃ k : Nat, k ≤ m ∧ i = .int .i64 k ∧ Hid (Own wr w.heap.size 5 out (bv (bs (ptsAt p (pl.take k))))) ∧ Below w.heap.size w wr) (fun _ i _ => m - (intOf i).toNat)
 case atStart => exact ⟨0, by omega, rfl, HO1, hB1⟩
 case round =>
  obtain ⟨k, hk, rfl, HO, HW⟩ := hrel
  have hsz := HW.size
  by_cases hlt : k < m
  ·have hkp : k < pl.length := by rw [HM.out]; exact hlt
   obtain ⟨b, off, rfl, hcell⟩ := zs_at (HR.out.below HW) (k := k) hkp
   have HT := Lib.hid (ptsAt_snoc (p := p) hkp)
   have hin := HK.out.1 pl[k] (List.getElem_mem hkp)
   have HL : Hid ((bv (bs (ptsAt p (pl.take k)))).length = k) := Lib.hid (by rw [bvs_length, ptsAt_length, List.length_take]; omega)
   obtain ⟨z, hz⟩ : ∃ z, pl[k] = z := ⟨_, rfl⟩
   rw [hz] at hcell hin HT
   obtain ⟨x, rfl⟩ : ∃ x : Nat, z = (x : Int) := ⟨z.toNat, by omega⟩
   obtain ⟨y, hy⟩ : ∃ y, coef p x = y := ⟨_, rfl⟩
   have hxn : (x : Int) < (n : Int) := hin.2
   have hxp : x < p.length := by rw [HN.out]; omega
   obtain ⟨b2, o2, rfl⟩ := where_ HB.out (by omega)
   have hc2 := cellAt (HB.out.below HW) x hxp
   rw [Int.toNat_natCast] at HT
   rw [hy] at hc2 HT
   clear hz hy hin hxp
   go_wp2_with (at_builtin; refine wpList_app _ rfl _ _ _ rfl w.heap.size 5 _ 1 Tryz.underlying35 info_u8 rfl (by omega) _ _ rfl (HO.out.alloc _) (some ⟨wr.heap.size, 0, none⟩) 1 1 (bv [y.n]) rfl rfl (Row.new _ _ _ _) (bv_one _) (by rw [HL.out]; omega) (by simp; omega) ?_; rintro v2 w2 hown hg3 -)
   rw [← HT.out] at hown
   have HO2 := Lib.hid hown
   have hB2 := (HW.alloc hsz _).trans ((HO.out.alloc _).grew (by simp; omega) hg3)
   clear hown hg3
   go_roundw
   case rel => exact ⟨k + 1, by omega, by go_num, HO2, hB2⟩
   case measure => simp [intOf]; omega
  ·obtain rfl : k = m := by omega
   have ht : pl.take k = pl := List.take_of_length_le (by rw [HM.out]; exact Nat.le_refl _)
   rw [ht] at HO
   obtain ⟨A1, c1, rfl, hc1⟩ := Own.shape HO.out
   have HPL : Hid ((ptsAt p pl).length = k) := Lib.hid (by rw [ptsAt_length, HM.out])
   rw [HPL.out] at HO hc1 ⊢
   go_wp2
   go_ret
   exact ⟨A1, c1, rfl, hc1, HO.out, HW⟩
def part (p q : List F8) (k : Nat) : List F8 := word p (q.take k) ++ List.replicate (q.length - k) 0
theorem part_length {p q : List F8} {k : Nat} (h : k ≤ q.length) : (part p q k).length = q.length := by
 rw [part, List.length_append, word_length, List.length_take, List.length_replicate]; omega
theorem part_set {p q : List F8} {k : Nat} (h : k < q.length) : (part p q k).set k (eval p (coef q k)) = part p q (k + 1) := by
 have hl : (word p (q.take k)).length = k := by rw [word_length, List.length_take]; omega
 unfold part
 rw [List.set_append_right _ _ (by omega), hl, Nat.sub_self, show q.length - k = q.length - (k + 1) + 1 by omega, List.replicate_succ, List.set_cons_zero, word, word, take_succ' q h, List.map_append, List.map_cons, List.map_nil, coef_of_lt h, List.append_assoc]
 rfl
set_option maxRecDepth 100000 in
set_option maxHeartbeats 4000000 in
theorem values_calls (S : Poly.Spec) (g : Nat) (A : Option Addr) (p : List F8) (m c : Nat) (B : Option Addr) (q : List F8) (n d : Nat) (w : World) (hm : p.length = m) (hb : Bytes w A (bs p)) (hc : m ≤ c) (hl : m ≤ 1000) (hn : q.length = n) (hb2 : Bytes w B (bs q)) (hn2 : n ≤ 1000000)
  (hf : FldP w (some ⟨g, 0, none⟩)) (hfa : Far (some ⟨g, 0, none⟩) A p) (hfb : Far (some ⟨g, 0, none⟩) B q) :
  Calls Tryz.prog 60 #[.agg #[.pointer (some ⟨g, 0, none⟩)], .slice A m c, .slice B n d] w fun e w' => PolyRes (some ⟨g, 0, none⟩) w w' e (word p q) := by
 have hglt := hf.fld.lt
 obtain ⟨w0, hw0⟩ : ∃ w0, w.alloc (.cells #[.pointer (some ⟨g, 0, none⟩)] 99) = w0 := ⟨_, rfl⟩
 have hz0 : w0.heap.size = w.heap.size + 1 := by rw [← hw0]; simp
 have hB0 : Below w.heap.size w w0 := by rw [← hw0]; exact (Below.refl _ _).alloc (Nat.le_refl _) _
 have hbl0 : Block w0 w.heap.size 99 #[.pointer (some ⟨g, 0, none⟩)] := by rw [← hw0]; exact Block.new w _ _
 obtain ⟨w1, hmk, hO1, hB1⟩ := make_run w0 n (by omega)
 rw [hz0] at hmk hO1 hB1
 have hBW : Below w.heap.size w w1 := hB0.trans (hB1.mono (by omega))
 have HO1 : Hid (Own w1 w.heap.size 5 (.slice (some ⟨w.heap.size + 1, 0, none⟩) n n) (bv (bs (part p q 0)))) := Lib.hid (by
  have : part p q 0 = List.replicate n 0 := by rw [part, hn]; rfl
  rw [this]; exact hO1.more (by omega))
 have HF1 : Hid (FldP w1 (some ⟨g, 0, none⟩)) := Lib.hid (hf.below hBW)
 have HP1 := Lib.hid (Past.of_below hBW g)
 have HC1 := Lib.hid (hbl0.below hB1 (by omega))
 have HB := Lib.hid hb
 have HB2 := Lib.hid hb2
 have HM := Lib.hid hm
 have HN := Lib.hid hn
 have HFA := Lib.hid hfa
 have HFB := Lib.hid hfb
 have HZ : Hid (w.heap.size < w1.heap.size) := Lib.hid (by have := hB1.size; omega)
 clear hb hb2 hm hn hfa hfb hO1 hB1 hB0 hbl0 hBW hf
 go_enter Tryz.func60, Tryz.ntmps60
 go_wp2
 go_loopw [15] (fun i wr => ∃ k : Nat, k ≤ n ∧ i = .int .i64 k ∧ Hid (Own wr w.heap.size 5 (.slice (some ⟨w.heap.size + 1, 0, none⟩) n n) (bv (bs (part p q k)))) ∧ Hid (FldP wr (some ⟨g, 0, none⟩)) ∧ Hid (Past w.heap.size g w wr) ∧ Hid (Block wr w.heap.size 99 #[.pointer (some ⟨g, 0, none⟩)])) (fun i _ => n - (intOf i).toNat)
 case atStart => exact ⟨0, by omega, rfl, HO1, HF1, HP1, HC1⟩
 case round =>
  clear HO1 HF1 HP1 HC1
  obtain ⟨k, hk, rfl, HO, HF, HP, HC⟩ := hrel
  by_cases hlt : k < n
  ·have hkq : k < q.length := by rw [HN.out]; exact hlt
   have HBr := Lib.hid (bytes_far HB.out (fun hp a ha => HFA.out hp a _ ha rfl) HP.out)
   have HBr2 := Lib.hid (bytes_far HB2.out (fun hp a ha => HFB.out hp a _ ha rfl) HP.out)
   obtain ⟨b2, o2, rfl⟩ := where_ HB2.out (by omega)
   have hcell := cellAt HBr2.out k hkq
   have hcb := HC.out.cell 0
   obtain ⟨y, hy⟩ : ∃ y, eval p (coef q k) = y := ⟨_, rfl⟩
   have HT := Lib.hid (part_set (p := p) hkq)
   rw [hy] at HT
   have HY := Lib.hid hy
   clear hy
   obtain ⟨x, hx⟩ : ∃ x, coef q k = x := ⟨_, rfl⟩
   rw [hx] at hcell HY
   have HPL : Hid ((part p q k).length = n) := Lib.hid (by rw [part_length (by omega), HN.out])
   clear hx
   go_wp2_with fail
   refine (S.atP A p m c _ HM.out HBr.out hc hl _ HF.out HFA.out x).mono ?_
   rintro e w2 ⟨rfl, hf2, hp2⟩
   rw [HY.out]
   have hp2' : Past wr.heap.size g wr w2 := hp2
   have HO2 := Lib.hid (own_keep HO.out HF.out hp2')
   have hsz := HP.out.size
   have hP2 : Past w.heap.size g w w2 := HP.out.trans (hp2'.mono hsz)
   have hC2 : Block w2 w.heap.size 99 #[.pointer (some ⟨g, 0, none⟩)] := HC.out.past hp2' HC.out.lt (by omega)
   have hcs := own_cell HO2.out HPL.out (k := k) hlt
   have hfz := Own.frozenAt HO2.out (by rw [bvs_length, HPL.out]) k
   have HO3 : Hid (Own (w2.setCell ⟨w.heap.size + 1, k, none⟩ (.int .u8 (y.n : Int))) w.heap.size 5 (.slice (some ⟨w.heap.size + 1, 0, none⟩) n n) (bv (bs (part p q (k + 1))))) := Lib.hid (by rw [← HT.out]; exact own_set HO2.out HPL.out)
   have HF3 : Hid (FldP (w2.setCell ⟨w.heap.size + 1, k, none⟩ (.int .u8 (y.n : Int))) (some ⟨g, 0, none⟩)) := Lib.hid (FldP.of (hf2.fld.imp (fun h => h.far (by simp; omega) _) (fun h => h.far (by simp; omega) _)))
   have HP3 : Hid (Past w.heap.size g w (w2.setCell ⟨w.heap.size + 1, k, none⟩ (.int .u8 (y.n : Int)))) := Lib.hid (hP2.setCell (p := ⟨w.heap.size + 1, k, none⟩) (.inr (by simp)) _)
   have HC3 : Hid (Block (w2.setCell ⟨w.heap.size + 1, k, none⟩ (.int .u8 (y.n : Int))) w.heap.size 99 #[.pointer (some ⟨g, 0, none⟩)]) := Lib.hid (hC2.far (by simp) _)
   clear hp2 hp2' hP2 hC2 hf2 hcell hcb
   go_wp2
   go_roundw
   case rel => exact ⟨k + 1, by omega, by go_num, HO3, HF3, HP3, HC3⟩
   case measure => simp [intOf]; omega
  ·obtain rfl : k = n := by omega
   have ht : part p q k = word p q := by rw [part, List.take_of_length_le (by rw [HN.out]; exact Nat.le_refl _), HN.out, Nat.sub_self]; simp
   have hwl : (word p q).length = k := by rw [word_length, HN.out]
   rw [ht] at HO
   have HWL := Lib.hid hwl
   clear ht hwl
   go_wp2
   go_ret
   refine ⟨some ⟨w.heap.size + 1, 0, none⟩, k, by rw [HWL.out]; rfl, by rw [HWL.out]; exact Nat.le_refl _, by rw [HWL.out]; exact HO.out, HF.out, HP.out⟩
set_option maxRecDepth 100000 in
set_option maxHeartbeats 4000000 in
theorem through_calls (S : Poly.Spec) (g : Nat) (A : Option Addr) (p : List F8) (m c : Nat) (B : Option Addr) (q : List F8) (d : Nat) (w : World) (hm : p.length = m) (hb : Bytes w A (bs p)) (hc : m ≤ c) (hl : m ≤ 1000) (hn : q.length = m) (hb2 : Bytes w B (bs q)) (hd : m ≤ d) (hnd : p.Nodup)
  (hf : FldP w (some ⟨g, 0, none⟩)) (hfa : Far (some ⟨g, 0, none⟩) A p) (hfb : Far (some ⟨g, 0, none⟩) B q) :
  Calls Tryz.prog 58 #[.agg #[.pointer (some ⟨g, 0, none⟩)], .slice A m c, .slice B m d] w fun e w' => ∃ r, Thru p q r ∧ PolyRes (some ⟨g, 0, none⟩) w w' e (full r m) := by
 have hglt := hf.fld.lt
 obtain ⟨w0, hw0⟩ : ∃ w0, w.alloc (.cells #[.pointer (some ⟨g, 0, none⟩)] 99) = w0 := ⟨_, rfl⟩
 have hz0 : w0.heap.size = w.heap.size + 1 := by rw [← hw0]; simp
 have hB0 : Below w.heap.size w w0 := by rw [← hw0]; exact (Below.refl _ _).alloc (Nat.le_refl _) _
 have hbl0 : Block w0 w.heap.size 99 #[.pointer (some ⟨g, 0, none⟩)] := by rw [← hw0]; exact Block.new w _ _
 have hcb := hbl0.cell 0
 have HT := Lib.hid (S.throughP A B p q m m c d w0 hm hn (hb.below hB0) (hb2.below hB0) hc hd hl hl (some ⟨g, 0, none⟩) (hf.below hB0) hfa hfb rfl hnd)
 have HM := Lib.hid hm
 have HB0 := Lib.hid hB0
 clear hb hb2 hm hn hfa hfb hf hbl0 hB0 hnd
 go_enter Tryz.func58, Tryz.ntmps58
 go_wp2_with fail
 refine HT.out.mono ?_
 rintro e w1 ⟨r, ht, A1, c1, rfl, hc1, hO1, hF1, hP1⟩
 have hrm : r.length ≤ m := by have := thru_length ht; rwa [HM.out] at this
 have HThr := Lib.hid ht
 have hP1' : Past w0.heap.size g w0 w1 := hP1
 obtain ⟨l, hlr⟩ : ∃ l, r.length = l := ⟨_, rfl⟩
 rw [hlr] at hrm hc1 hO1 ⊢
 have hk : (m : Int) - (l : Int) = ((m - l : Nat) : Int) := by omega
 have HPW := Lib.hid ((Past.of_below HB0.out g).trans (hP1'.mono (by omega)))
 have hOv : (bv (bs r)).length = l := by rw [bvs_length, hlr]
 have hO1' : Own w1 w0.heap.size 5 (.slice A1 l c1) (bv (bs r)) := hO1
 obtain ⟨v2, w2, hrun, hO2, hg2⟩ := run_app_zeros w1 35 w0.heap.size _ (bv (bs r)) hO1' (m - l) (by omega) (by rw [hOv]; omega) hP1'.size
 have hB2 := hO1'.grew hP1'.size hg2
 have hfull : bv (bs r) ++ bv (List.replicate (m - l) 0) = bv (bs (full r m)) := by
  rw [full, List.take_of_length_le (by omega), bs_append, bv_append, hlr]
  congr 2
  unfold bs; rw [List.map_replicate]; rfl
 rw [hfull] at hO2
 have hF2 : FldP w2 (some ⟨g, 0, none⟩) := FldP.of (hF1.fld.kept_grown hg2 (by omega : g < w0.heap.size) (fun k hk => (hO1'.lt k hk).1))
 have HF2 := Lib.hid hF2
 obtain ⟨A2, c2, rfl, hc2⟩ := Own.shape hO2
 have HO2 := Lib.hid hO2
 have HP2 := Lib.hid (HPW.out.trans (Past.of_below (hB2.mono (by omega)) g))
 have HLf : Hid ((full r m).length = m) := Lib.hid (full_length r m)
 rw [HLf.out] at HO2 hc2 hrun
 clear ht hP1 hP1' hO1 hO1' hO2 hg2 hB2 hfull hF1 hF2 HPW hlr hOv
 go_wp2_with (at_builtin; refine Lib.wpList_append_run _ rfl _ _ _ _ rfl _ _ rfl rfl _ _ hrun ?_)
 go_ret
 exact ⟨r, HThr.out, A2, c2, by rw [HLf.out]; rfl, by rw [HLf.out]; exact hc2, by rw [HLf.out]; exact HO2.out.more (by omega), HF2.out, HP2.out⟩
end Go.Proofs.YtjoghbmedfmioabGreat.Rd

namespace Go.Proofs.YtjoghbmedfmioabGreat.Rd
open Go.RowKit Go.Shelf F8 Poly GF
attribute [local go_sem] Oper.semAt_some
structure Cd (w : World) (b g : Nat) (A : Option Addr) (xs : List F8) (n c k : Nat) : Prop where
 blk : Block w b 102 (codeC g A n c k)
 ne : b ≠ g
 len : xs.length = n
 cap : n ≤ c
 by_ : Bytes w A (bs xs)
 far : Far (some ⟨g, 0, none⟩) A xs
 nd : xs.Nodup
 k1 : 1 ≤ k
 kn : k ≤ n
 n256 : n ≤ 256
 fld : FldP w (some ⟨g, 0, none⟩)
theorem nodup_le : ∀ (n : Nat) (l : List Nat), l.Nodup → (∀ x ∈ l, x < n) → l.length ≤ n
 | 0, l, _, h => by cases l with | nil => exact Nat.le_refl _ | cons a l => exact absurd (h a (by simp)) (by omega)
 | n + 1, l, hn, h => by
  by_cases hm : n ∈ l
  ·have h1 := nodup_le n (l.erase n) (hn.erase n) fun x hx => by
    have := (hn.mem_erase_iff).1 hx
    have := h x this.2
    omega
   rw [List.length_erase_of_mem hm] at h1
   omega
  ·have := nodup_le n l hn fun x hx => by
    have h1 := h x hx
    have : x ≠ n := fun e => hm (e ▸ hx)
    omega
   omega
theorem nodup256 {xs : List F8} (h : xs.Nodup) : xs.length ≤ 256 := by
 have h1 : (xs.map F8.n).Nodup := by
  rw [List.nodup_iff_pairwise_ne, List.pairwise_map]
  exact (List.nodup_iff_pairwise_ne.1 h).imp fun hne e => hne (F8.n_inj.1 e)
 have h3 := nodup_le 256 _ h1 fun x hx => by
  obtain ⟨y, _, rfl⟩ := List.mem_map.1 hx
  exact y.h
 simpa using h3
section
variable {w w' : World} {b g : Nat} {A : Option Addr} {xs : List F8} {n c k : Nat}
theorem Cd.past (h : Cd w b g A xs n c k) (h1 : FldP w' (some ⟨g, 0, none⟩)) (h2 : Past w.heap.size g w w') : Cd w' b g A xs n c k :=
 { h with blk := h.blk.past h2 h.blk.lt h.ne, by_ := bytes_far h.by_ (fun hp a ha => h.far hp a _ ha rfl) h2, fld := h1 }
theorem Cd.below (h : Cd w b g A xs n c k) (hb : Below w.heap.size w w') : Cd w' b g A xs n c k :=
 h.past (h.fld.below hb) (Past.of_below hb _)
theorem Cd.drew (h : Cd w b g A xs n c k) : Cd w.drew b g A xs n c k := h.below (Below.drewN' (Below.refl _ _) 1)
end
def NewRes (w : World) (g : Nat) (xs : List F8) (n : Nat) (k : Int) (e : Ending) (w' : World) : Prop :=
 (newR xs k = 0 ∧ ∃ (b : Nat) (A : Option Addr) (c q : Nat), (q : Int) = k ∧ e = .returned (.tuple #[.pointer (some ⟨b, 0, none⟩), .int .i64 0]) ∧ w.heap.size ≤ b ∧ (∀ a, A = some a → w.heap.size ≤ a.block) ∧ Cd w' b g A xs n c q ∧ Below w.heap.size w w') ∨
 (newR xs k = 2 ∧ e = .returned (.tuple #[.pointer none, .int .i64 2]) ∧ Below w.heap.size w w')
set_option maxRecDepth 100000 in
set_option maxHeartbeats 2000000 in
theorem new_calls (g : Nat) (A : Option Addr) (p : List F8) (n c : Nat) (k : Int) (w : World) (hn : p.length = n) (hb : Bytes w A (bs p)) (hc : n ≤ c) (hn2 : n ≤ 1000000) (hf : FldP w (some ⟨g, 0, none⟩)) :
  Calls Tryz.prog 28 #[.pointer (some ⟨g, 0, none⟩), .slice A n c, .int .i64 k] w (NewRes w g p n k) := by
 by_cases h1 : k < 1
 ·have HX : Hid (newR p k = 2) := Lib.hid (if_neg (by omega))
  clear hb hf
  go_enter Tryz.func28, Tryz.ntmps28
  go_wp2
  go_ret2
  exact .inr ⟨HX.out, rfl, Below.refl _ _⟩
 by_cases h2 : (n : Int) < k
 ·have HX : Hid (newR p k = 2) := Lib.hid (if_neg (by omega))
  clear hb hf
  go_enter Tryz.func28, Tryz.ntmps28
  go_wp2
  go_ret2
  exact .inr ⟨HX.out, rfl, Below.refl _ _⟩
 by_cases hnd : p.Nodup
 ·have HT : Hid ((!decide p.Nodup) = false) := Lib.hid (by rw [decide_eq_true hnd]; rfl)
  have HX : Hid (newR p k = 0) := Lib.hid (if_pos ⟨hnd, by omega, by omega⟩)
  have HND := Lib.hid hnd
  have HB := Lib.hid hb
  have HN := Lib.hid hn
  have HF := Lib.hid hf
  have hglt := hf.fld.lt
  clear hb hf hnd hn
  go_enter Tryz.func28, Tryz.ntmps28
  go_wp2_with (go_at_call 52; refine (repeat_calls A p n c _ HN.out HB.out hn2).mono ?_; rintro e w1 ⟨rfl, hB1⟩; rw [HT.out])
  have hs1 := hB1.size
  refine (Poly.clone_calls A p n c _ HN.out (HB.out.below hB1) hc hn2).mono ?_
  rintro e w2 ⟨A2, c2, rfl, hc2, hO2, hB2⟩
  rw [HN.out] at hc2 hO2 ⊢
  go_wp2
  go_ret2
  obtain ⟨q, rfl⟩ : ∃ q : Nat, k = (q : Int) := ⟨k.toNat, by omega⟩
  have hs2 := hB2.size
  have hBW := hB1.trans (hB2.mono hs1)
  have hBW2 := hBW.alloc (by omega) (.cells #[.pointer (some ⟨g, 0, none⟩), .slice A2 n c2, .int .i64 (q : Int)] 102)
  have hblk : ∀ a, A2 = some a → w.heap.size ≤ a.block := fun a ha => Nat.le_trans hs1 (own_block hO2 a ha)
  refine .inl ⟨HX.out, w2.heap.size, A2, c2, q, rfl, rfl, by omega, hblk, ⟨Block.new _ _ _, by omega, HN.out, hc2, (Own.bytes hO2).alloc _, ?_, HND.out, by omega, by omega, by have := nodup256 HND.out; rw [HN.out] at this; exact this, HF.out.below hBW2⟩, hBW2⟩
  intro _ a b ha hb
  cases hb
  have := hblk a ha
  simp; omega
 ·have HT : Hid ((!decide p.Nodup) = true) := Lib.hid (by rw [decide_eq_false hnd]; rfl)
  have HX : Hid (newR p k = 2) := Lib.hid (if_neg (fun h => hnd h.1))
  have HB := Lib.hid hb
  have HN := Lib.hid hn
  clear hb hf hnd hn
  go_enter Tryz.func28, Tryz.ntmps28
  go_wp2_with (go_at_call 52; refine (repeat_calls A p n c _ HN.out HB.out hn2).mono ?_; rintro e w1 ⟨rfl, hB1⟩; rw [HT.out])
  go_ret2
  exact .inr ⟨HX.out, rfl, hB1⟩
set_option maxRecDepth 100000 in
set_option maxHeartbeats 4000000 in
theorem encode_calls (S : Poly.Spec) {w : World} {b g : Nat} {A : Option Addr} {xs : List F8} {n c k : Nat} (h : Cd w b g A xs n c k) (B : Option Addr) (q : List F8) (m d : Nat) (hm : q.length = m) (hb : Bytes w B (bs q)) (hd : m ≤ d) (hl : m ≤ 1000) (hfar : Far (some ⟨g, 0, none⟩) B q) :
  Calls Tryz.prog 43 #[.pointer (some ⟨b, 0, none⟩), .slice B m d] w fun e w' => PolyResE (some ⟨g, 0, none⟩) w w' e (encR xs k q).1 (encR xs k q).2 := by
 have h0 := h.blk.cell 0
 have h1 := h.blk.cell 1
 have h2 := h.blk.cell 2
 simp only [codeC] at h0 h1 h2
 have HV := Lib.hid (values_calls S g B q m d A xs n c w.drew hm hb.drew hd hl h.len h.by_.drew (by have := h.n256; omega) h.drew.fld hfar h.far)
 have HC := Lib.hid h
 by_cases hk : m = k
 ·have e1 : encR xs k q = (word q xs, 0) := if_pos (by omega)
  have k2 : ((m : Int) != (k : Int)) = false := by simp; omega
  rw [e1]
  clear e1 hk hb hfar hm h
  go_enter Tryz.func43, Tryz.ntmps43
  go_wp2_with (go_at_call 55; refine (isNone_calls HC.out.blk HC.out.k1).mono ?_; rintro e w1 ⟨rfl, rfl⟩)
  go_region_with (go_at_call 60; refine HV.out.mono ?_; rintro e w2 ⟨A2, c2, rfl, hc2, hO2, hF2, hP2⟩)
  all_goals
   go_wp2
   go_ret2
   exact ⟨A2, c2, rfl, hc2, hO2, hF2, (Past.refl _ _ _).drew.trans hP2⟩
 ·have e1 : encR xs k q = ([], 2) := if_neg (by omega)
  have k2 : ((m : Int) != (k : Int)) = true := by simp; omega
  rw [e1]
  clear e1 hk hb hfar hm h HV
  go_enter Tryz.func43, Tryz.ntmps43
  go_wp2_with (go_at_call 55; refine (isNone_calls HC.out.blk HC.out.k1).mono ?_; rintro e w1 ⟨rfl, rfl⟩)
  go_ret2
  exact ⟨none, 0, rfl, Nat.le_refl _, Own.nil _ _ _, HC.out.fld, Past.refl _ _ _⟩
end Go.Proofs.YtjoghbmedfmioabGreat.Rd

namespace Go.Proofs.YtjoghbmedfmioabGreat.Ms
open Go.RowKit Go.Shelf F8 Poly GF Rd
structure BF (g : Nat) (w : World) (A : Option Addr) (p : List F8) : Prop where
 by_ : Bytes w A (bs p)
 far : Far (some ⟨g, 0, none⟩) A p
section
variable {g : Nat} {w w' : World} {A : Option Addr} {p : List F8}
theorem BF.past (h : BF g w A p) (hp : Past w.heap.size g w w') : BF g w' A p := ⟨bytes_far h.by_ (fun hq a ha => h.far hq a _ ha rfl) hp, h.far⟩
theorem BF.below (h : BF g w A p) (hb : Below w.heap.size w w') : BF g w' A p := h.past (Past.of_below hb g)
theorem BF.own {B n c : Nat} (hf : FldP w (some ⟨g, 0, none⟩)) (h : Own w B 5 (.slice A n c) (bv (bs p))) : BF g w A p := ⟨Own.bytes h, far_own hf.fld h⟩
end
structure El where
 p : Int
 A : Option Addr
 s : List F8
 c : Nat
def El.cs (e : El) : List Value := [.int .i64 e.p, .slice e.A e.s.length e.c]
def El.v (e : El) : Value := .slice e.A e.s.length e.c
def cells2 (l : List El) : List Value := l.flatMap El.cs
def cells1 (l : List El) : List Value := l.map El.v
theorem cells2_length (l : List El) : (cells2 l).length = l.length * 2 := by
 unfold cells2
 induction l with
 | nil => rfl
 | cons e l ih => rw [List.flatMap_cons, List.length_append, ih]; simp [El.cs]; omega
theorem cells2_append (l r : List El) : cells2 (l ++ r) = cells2 l ++ cells2 r := by unfold cells2; rw [List.flatMap_append]
theorem cells1_append (l r : List El) : cells1 (l ++ r) = cells1 l ++ cells1 r := by unfold cells1; rw [List.map_append]
theorem cells2_get : ∀ {l : List El} {i : Nat} {e : El}, l[i]? = some e → (cells2 l)[i * 2]? = some (.int .i64 e.p) ∧ (cells2 l)[i * 2 + 1]? = some e.v
 | [], i, e, h => by simp at h
 | x :: l, 0, e, h => by
  simp only [List.getElem?_cons_zero, Option.some.injEq] at h
  subst h
  exact ⟨rfl, rfl⟩
 | x :: l, i + 1, e, h => by
  have := cells2_get (l := l) (i := i) (e := e) (by simpa using h)
  show ((x.cs ++ cells2 l)[(i + 1) * 2]? = _) ∧ ((x.cs ++ cells2 l)[(i + 1) * 2 + 1]? = _)
  rw [List.getElem?_append_right (by simp [El.cs]; omega), List.getElem?_append_right (by simp [El.cs]; omega)]
  have e1 : (i + 1) * 2 - x.cs.length = i * 2 := by simp [El.cs]; omega
  have e2 : (i + 1) * 2 + 1 - x.cs.length = i * 2 + 1 := by simp [El.cs]; omega
  rw [e1, e2]; exact this
theorem cells2_one (l : List El) : ∀ u ∈ cells2 l, u.oneCell' = true := by
 intro u hu
 obtain ⟨e, _, he⟩ := List.mem_flatMap.1 hu
 simp [El.cs] at he
 rcases he with rfl | rfl <;> rfl
theorem cells1_one (l : List El) : ∀ u ∈ cells1 l, u.oneCell' = true := by
 intro u hu; obtain ⟨e, _, rfl⟩ := List.mem_map.1 hu; rfl
def Lst (g : Nat) (w : World) (l : List El) : Prop := ∀ e ∈ l, BF g w e.A e.s ∧ e.s.length ≤ e.c
section
variable {g : Nat} {w w' : World} {l r : List El}
theorem Lst.past (h : Lst g w l) (hp : Past w.heap.size g w w') : Lst g w' l := fun e he => ⟨(h e he).1.past hp, (h e he).2⟩
theorem Lst.below (h : Lst g w l) (hb : Below w.heap.size w w') : Lst g w' l := h.past (Past.of_below hb g)
end
theorem fc_form (d s : Int) (k i : Nat) : ∃ kd z, fc d s k i = .int kd z ∧ kd ≠ .i64 := by
 unfold fc
 split
 ·exact ⟨_, _, rfl, by decide⟩
 ·split
  ·exact ⟨_, _, rfl, by decide⟩
  ·split
   ·exact ⟨_, _, rfl, by decide⟩
   ·split <;> exact ⟨_, _, rfl, by decide⟩
theorem fc_kind {d s : Int} {k i : Nat} {u : Value} (hu : (∃ z, u = .int .i64 z) ∨ ∃ e : El, u = e.v) : fc d s k i ≠ u := by
 obtain ⟨kd, z, h, hne⟩ := fc_form d s k i
 rw [h]
 intro e
 rcases hu with ⟨z', rfl⟩ | ⟨x, rfl⟩
 ·injection e with e1 _; exact hne e1
 ·simp [El.v] at e
theorem fld_not {w : World} {g i : Nat} {u : Value} (h : Fld w g) (hu : (∃ z, u = .int .i64 z) ∨ ∃ e : El, u = e.v) : w.cell? ⟨g, i, none⟩ ≠ some u := by
 have key : ∀ {d s : Int} {k : Nat}, Block w g 80 (fcells d s k) → w.cell? ⟨g, i, none⟩ ≠ some u := fun {d s k} hb he => by
  have h1 := hb.cell i
  rw [he] at h1
  by_cases hi : i < 514
  ·rw [fcells_get _ _ _ _ hi] at h1
   injection h1 with h1
   exact fc_kind hu h1.symm
  ·rw [Array.getElem?_eq_none (by simp [fcells]; omega)] at h1
   cases h1
 rcases h with h | h
 ·exact key h
 ·exact key h
theorem row_keep {g : Nat} {w w' : World} {A : Option Addr} {xs : List Value} (h : Row w A xs) (hf : Fld w g) (hk : ∀ u ∈ xs, (∃ z, u = .int .i64 z) ∨ ∃ e : El, u = e.v) (hp : Past w.heap.size g w w') : Row w' A xs := by
 intro k u hu
 obtain ⟨b, off, rfl, hc⟩ := h k u hu
 refine ⟨b, off, rfl, ?_⟩
 have hb : b ≠ g := by
  rintro rfl
  exact fld_not hf (hk u (List.mem_of_getElem? hu)) hc
 have hlt : b < w.heap.size := cell_lt hc
 simp only [World.cell?] at hc ⊢
 rw [hp.block b hlt hb]
 exact hc
theorem cells2_kind (l : List El) : ∀ u ∈ cells2 l, (∃ z, u = .int .i64 z) ∨ ∃ e : El, u = e.v := by
 intro u hu
 obtain ⟨e, _, he⟩ := List.mem_flatMap.1 hu
 simp [El.cs] at he
 rcases he with rfl | rfl
 ·exact .inl ⟨_, rfl⟩
 ·exact .inr ⟨e, rfl⟩
theorem cells1_kind (l : List El) : ∀ u ∈ cells1 l, (∃ z, u = .int .i64 z) ∨ ∃ e : El, u = e.v := by
 intro u hu; obtain ⟨e, _, rfl⟩ := List.mem_map.1 hu; exact .inr ⟨e, rfl⟩
structure Els (g : Nat) (w : World) (A : Option Addr) (l : List El) : Prop where
 row : Row w A (cells2 l)
 lst : Lst g w l
section
variable {g : Nat} {w w' : World} {A : Option Addr} {l : List El}
theorem Els.past (h : Els g w A l) (hf : Fld w g) (hp : Past w.heap.size g w w') : Els g w' A l := ⟨row_keep h.row hf (cells2_kind l) hp, h.lst.past hp⟩
theorem Els.below (h : Els g w A l) (hb : Below w.heap.size w w') : Els g w' A l := ⟨h.row.below hb, h.lst.below hb⟩
theorem Els.at_ (h : Els g w A l) {i : Nat} (hi : i < l.length) : ∃ b off, A = some ⟨b, off, none⟩ ∧ w.cell? ⟨b, off + i * 2, none⟩ = some (.int .i64 (l[i]).p) ∧ w.cell? ⟨b, off + i * 2 + 1, none⟩ = some (.slice (l[i]).A (l[i]).s.length (l[i]).c) := by
 obtain ⟨h1, h2⟩ := cells2_get (List.getElem?_eq_getElem hi)
 obtain ⟨b, off, e, hc⟩ := h.row _ _ h1
 obtain ⟨b', off', e', hc'⟩ := h.row _ _ h2
 rw [e] at e'
 cases e'
 exact ⟨b, off, e, hc, by rw [← Nat.add_assoc] at hc'; exact hc'⟩
end
def OwnK (k : Nat) (w : World) (B : Nat) (e : TypeId) (v : Value) (n : Nat) (xs : List Value) : Prop := w.ownsRow B e k v n xs
section
variable {k B n : Nat} {w w' : World} {e : TypeId} {v : Value} {xs : List Value}
theorem OwnK.nil (k : Nat) (w : World) (B : Nat) (e : TypeId) : OwnK k w B e (.slice none 0 0) 0 [] := ⟨by simp, .inl ⟨rfl, rfl⟩⟩
theorem OwnK.alloc (h : OwnK k w B e v n xs) (o : Obj) : OwnK k (w.alloc o) B e v n xs := World.ownsRow.alloc h o
theorem OwnK.grown {row : Option Nat} (h : OwnK k w B e v n xs) (hg : w.grownBy w' row) (hne : v.ownBlock = none ∨ v.ownBlock ≠ row) : OwnK k w' B e v n xs := World.ownsRow.kept h hg hne
theorem OwnK.below (h : OwnK k w B e v n xs) (hb : Below w.heap.size w w') : OwnK k w' B e v n xs :=
 h.grown (row := none) ⟨hb.os, hb.tape, hb.output, hb.size, fun k hk _ => hb.block k hk⟩ (by cases v.ownBlock <;> simp)
theorem OwnK.more {B' : Nat} (h : OwnK k w B e v n xs) (hB : B' ≤ B) : OwnK k w B' e v n xs := by
 refine ⟨h.1, ?_⟩
 rcases h.2 with h2 | ⟨g, cap, cur, h1, h2, h3⟩
 ·exact .inl h2
 ·exact .inr ⟨g, cap, cur, h1, by omega, h3⟩
theorem OwnK.shape (h : OwnK k w B e v n xs) : ∃ A c, v = .slice A n c ∧ n ≤ c ∧ Row w A xs ∧ ∀ a, A = some a → B ≤ a.block ∧ a.block < w.heap.size := by
 have hh := h
 rcases h.2 with ⟨rfl, hn⟩ | ⟨g, cap, cur, rfl, h2, h3, h4, h5, h6, h7⟩
 ·have : xs = [] := List.eq_nil_of_length_eq_zero (by rw [h.1, hn]; simp)
  subst this; subst hn
  exact ⟨none, 0, rfl, Nat.le_refl _, Row.nil _ _, fun a ha => by cases ha⟩
 ·refine ⟨some ⟨g, 0, none⟩, cap, rfl, h4, fun j u hu => ⟨g, 0, rfl, ?_⟩, fun a ha => by cases ha; exact hh.lt g rfl⟩
  have hk : j < n * k := by have := h.1; have := (List.getElem?_eq_some_iff.1 hu).1; omega
  rw [← h7, List.getElem?_take, if_pos hk, Array.getElem?_toList] at hu
  simp [World.cell?, h3, hu]
theorem OwnK.els {g : Nat} {l : List El} {A : Option Addr} {c : Nat} (h : OwnK 2 w B e (.slice A n c) n (cells2 l)) (hl : Lst g w l) : Els g w A l := by
 obtain ⟨A', c', e1, _, hr, _⟩ := OwnK.shape h
 injection e1 with e2 _ _
 subst e2
 exact ⟨hr, hl⟩
end
section
variable {P : Program} (w : World)
theorem run_appK (k B : Nat) (t ty e : TypeId) (z : Value) (bytes : Nat) (ht : P.underlying t = some (.slice e)) (hinfo : (P.info? e).map (fun i => (i.zero, i.size, i.bytes)) = some (some z, k, bytes)) (hz : z.cells.size = k) (hk : 0 < k)
  (v : Value) (n : Nat) (xs : List Value) (hown : OwnK k w B e v n xs) (ad : Addr) (m c : Nat) (ys : List Value) (hm : ys.length = m * k) (hr : Row w (some ad) ys) (h1 : ∀ u ∈ ys, u.oneCell' = true)
  (hb : 0 < bytes) (hlen : (n + m) * bytes ≤ 140737488355328) (hB : B ≤ w.heap.size) :
  ∃ v' w', (Builtin.append_ #[t, t] ty #[v, .slice (some ad) m c]).run P w = .ok v' w' ∧ OwnK k w' B e v' (n + m) (xs ++ ys) ∧ w.grownBy w' v.ownBlock ∧ (v'.ownBlock = v.ownBlock ∨ v'.ownBlock = some w.heap.size) := by
 obtain ⟨i, hi, hi1, hi2, hi3⟩ := info_parts hinfo
 have h63 : n + m ≤ maxLen := by
  have := Nat.le_mul_of_pos_right (n + m) hb
  simp only [maxLen]; omega
 have hcells : ∀ j u, ys[j]? = some u → w.cell? (ad.add j) = some u := by
  intro j u hu
  obtain ⟨b, off, h, hc⟩ := hr j u hu
  obtain rfl : ad = ⟨b, off, none⟩ := by injection h
  rw [show (⟨b, off, none⟩ : Addr).add j = ⟨b, off + j, none⟩ by unfold Addr.add; split <;> simp_all]
  exact hc
 obtain ⟨v', w', hrun, h2, h3, _, h5⟩ := run_append_own_at (P := P) w B t ty e i z k bytes ht hi hi1 hi2 hi3 hz hk v n xs hown ad m c ys hm hcells h1 h63 hlen hB
 exact ⟨v', w', hrun, h2, h3, h5⟩
theorem wp_appK {o : Oper} {a : Act} {K : Act → World → Prop} {Q : Exit → Act → World → Prop} (k : Nat) (s x : Operand) (t : TypeId)
  (ho : o.op = .call { callee := .builtin .append, args := #[s, x], argTypes := #[t, t] })
  (B : Nat) (e : TypeId) (z : Value) (bytes : Nat) (ht : P.underlying t = some (.slice e)) (hinfo : (P.info? e).map (fun i => (i.zero, i.size, i.bytes)) = some (some z, k, bytes)) (hz : z.cells.size = k) (hk : 0 < k) (hb : 0 < bytes)
  (v : Value) (n : Nat) (xs : List Value) (hs : a.eval s = v) (hown : OwnK k w B e v n xs) (ad : Addr) (m c : Nat) (ys : List Value) (hx : a.eval x = .slice (some ad) m c) (hm : ys.length = m * k) (hr : Row w (some ad) ys) (h1 : ∀ u ∈ ys, u.oneCell' = true)
  (hlen : (n + m) * bytes ≤ 140737488355328) (hB : B ≤ w.heap.size)
  (h : ∀ v' w', OwnK k w' B e v' (n + m) (xs ++ ys) → w.grownBy w' v.ownBlock → (v'.ownBlock = v.ownBlock ∨ v'.ownBlock = some w.heap.size) → K (a.put o.dst v') w') : o.wp P a w K Q := by
 obtain ⟨v', w', hrun, h2, h3, h4⟩ := run_appK (P := P) w k B t o.type e z bytes ht hinfo hz hk v n xs hown ad m c ys hm hr h1 hb hlen hB
 unfold Oper.wp execOp
 simp only [ho, resolve, invoke, builtin, Sem.run_bind, Sem.run_pure, Result.andThen_ok, List.map_toArray, List.map_cons, List.map_nil, hs, hx, hrun]
 exact h v' w' h2 h3 h4
theorem wpList_appK {ops : Array Oper} {rest : List Oper} {o : Oper} {a : Act} {Q : Exit → Act → World → Prop} (hgd : o.guard = none) (k : Nat) (s x : Operand) (t : TypeId)
  (ho : o.op = .call { callee := .builtin .append, args := #[s, x], argTypes := #[t, t] })
  (B : Nat) (e : TypeId) (z : Value) (bytes : Nat) (ht : P.underlying t = some (.slice e)) (hinfo : (P.info? e).map (fun i => (i.zero, i.size, i.bytes)) = some (some z, k, bytes)) (hz : z.cells.size = k) (hk : 0 < k) (hb : 0 < bytes)
  (v : Value) (n : Nat) (xs : List Value) (hs : a.eval s = v) (hown : OwnK k w B e v n xs) (ad : Addr) (m c : Nat) (ys : List Value) (hx : a.eval x = .slice (some ad) m c) (hm : ys.length = m * k) (hr : Row w (some ad) ys) (h1 : ∀ u ∈ ys, u.oneCell' = true)
  (hlen : (n + m) * bytes ≤ 140737488355328) (hB : B ≤ w.heap.size)
  (h : ∀ v' w', OwnK k w' B e v' (n + m) (xs ++ ys) → w.grownBy w' v.ownBlock → (v'.ownBlock = v.ownBlock ∨ v'.ownBlock = some w.heap.size) → wpList P ops Q rest (a.put o.dst v') w') : wpList P ops Q (o :: rest) a w :=
 wpList_plain hgd fun _ hK => wp_appK w k s x t ho B e z bytes ht hinfo hz hk hb v n xs hs hown ad m c ys hx hm hr h1 hlen hB fun v' w' h2 h3 h4 => hK _ _ (h v' w' h2 h3 h4)
end
theorem OwnK.grew {k B n : Nat} {w w' : World} {e : TypeId} {v : Value} {xs : List Value} (h : OwnK k w B e v n xs) (hB : B ≤ w.heap.size) (hg : w.grownBy w' v.ownBlock) : Below B w w' :=
 (Below.refl B w).grown hg hB (fun b hk => by
  obtain ⟨A, c, rfl, _, _, ha⟩ := h.shape
  cases A with
  | none => simp [Value.ownBlock] at hk
  | some a => simp [Value.ownBlock] at hk; rw [← hk]; exact (ha a rfl).1)
def LstO (w : World) (B : Nat) (l : List El) : Prop := ∀ e ∈ l, Own w B 5 e.v (bv (bs e.s))
theorem own_apart {k B1 B2 n : Nat} {w : World} {e1 e2 : TypeId} {v1 v2 : Value} {xs1 xs2 : List Value} (h1 : Own w B1 e1 v1 xs1) (h2 : OwnK k w B2 e2 v2 n xs2) (hne : e1 ≠ e2) : v1.ownBlock = none ∨ v1.ownBlock ≠ v2.ownBlock := by
 rcases h1.2 with ⟨rfl, _⟩ | ⟨g, cap, cur, rfl, _, hg, _⟩
 ·exact .inl rfl
 ·right
  intro e
  rcases h2.2 with ⟨rfl, _⟩ | ⟨g', cap', cur', rfl, _, hg', _⟩
  ·simp [Value.ownBlock] at e
  ·simp [Value.ownBlock] at e
   subst e
   rw [hg] at hg'
   injection hg' with e1
   injection e1 with _ e2 _
   exact hne e2
section
variable {w w' : World} {B g : Nat} {l r : List El}
theorem LstO.nil (w : World) (B : Nat) : LstO w B [] := fun _ h => by simp at h
theorem LstO.append (h : LstO w B l) (h' : LstO w B r) : LstO w B (l ++ r) := fun e he => (List.mem_append.1 he).elim (h e) (h' e)
theorem LstO.one {e : El} (h : Own w B 5 e.v (bv (bs e.s))) : LstO w B [e] := fun x hx => by simp at hx; subst hx; exact h
theorem LstO.below (h : LstO w B l) (hb : Below w.heap.size w w') : LstO w' B l := fun e he => (h e he).below hb
theorem LstO.more {B' : Nat} (h : LstO w B l) (hB : B' ≤ B) : LstO w B' l := fun e he => (h e he).more hB
theorem LstO.grown {k B2 n : Nat} {t : TypeId} {v : Value} {xs : List Value} (h : LstO w B l) (h2 : OwnK k w B2 t v n xs) (ht : 5 ≠ t) (hg : w.grownBy w' v.ownBlock) : LstO w' B l :=
 fun e he => (h e he).grown hg (own_apart (h e he) h2 ht)
theorem LstO.lst (h : LstO w B l) (hf : FldP w (some ⟨g, 0, none⟩)) : Lst g w l := fun e he => by
 have ho := h e he
 obtain ⟨A, c, e1, hc⟩ := Own.shape ho
 injection e1 with e2 _ e3
 exact ⟨BF.own hf (show Own w B 5 (.slice e.A e.s.length e.c) (bv (bs e.s)) from ho), by omega⟩
end
theorem info_bs : (Tryz.prog.info? 35).map (fun i => (i.zero, i.size, i.bytes)) = some (some (.slice none 0 0), 1, 24) := by kernel_rfl
theorem cells1_at {w : World} {A : Option Addr} {l : List El} (h : Row w A (cells1 l)) {i : Nat} (hi : i < l.length) : ∃ b off, A = some ⟨b, off, none⟩ ∧ w.cell? ⟨b, off + i, none⟩ = some (.slice (l[i]).A (l[i]).s.length (l[i]).c) := by
 obtain ⟨b, off, e, hc⟩ := h i (.slice (l[i]).A (l[i]).s.length (l[i]).c) (by simp [cells1, hi, El.v])
 exact ⟨b, off, e, hc⟩
def shE (l : List El) : List (Int × List F8) := l.map fun e => (e.p, e.s)
theorem shE_length (l : List El) : (shE l).length = l.length := by simp [shE]
theorem row2_at {w : World} {A : Option Addr} {l : List El} (h : Row w A (cells2 l)) {i : Nat} (hi : i < l.length) : ∃ b off, A = some ⟨b, off, none⟩ ∧ w.cell? ⟨b, off + i * 2, none⟩ = some (.int .i64 (l[i]).p) ∧ w.cell? ⟨b, off + i * 2 + 1, none⟩ = some (.slice (l[i]).A (l[i]).s.length (l[i]).c) := by
 obtain ⟨h1, h2⟩ := cells2_get (List.getElem?_eq_getElem hi)
 obtain ⟨b, off, e, hc⟩ := h _ _ h1
 obtain ⟨b', off', e', hc'⟩ := h _ _ h2
 rw [e] at e'
 cases e'
 exact ⟨b, off, e, hc, by rw [← Nat.add_assoc] at hc'; exact hc'⟩
theorem own1_of {w : World} {B n : Nat} {e : TypeId} {v : Value} {xs : List Value} (h : OwnK 1 w B e v n xs) : Own w B e v xs ∧ xs.length = n := by
 have h1 := h.1
 rw [Nat.mul_one] at h1
 unfold Own
 rw [h1]
 exact ⟨h, rfl⟩
theorem bf_new {g : Nat} {V : World} (hf : Fld V g) (cs : Array Value) (p : List F8) (h : cs.toList = bv (bs p)) : BF g (V.alloc (.cells cs 5)) (some ⟨V.heap.size, 0, none⟩) p := by
 refine ⟨⟨?_, bs_lt p⟩, fun _ a b ha hb => ?_⟩
 ·have := Row.new V cs 5 (0, 0)
  rw [h] at this
  exact this
 ·cases ha; cases hb
  have := hf.lt
  show V.heap.size ≠ g
  omega
structure Shs (g : Nat) (w : World) (A : Option Addr) (l : List El) : Prop where
 row : Row w A (cells1 l)
 lst : Lst g w l
theorem Shs.past {g : Nat} {w w' : World} {A : Option Addr} {l : List El} (h : Shs g w A l) (hf : Fld w g) (hp : Past w.heap.size g w w') : Shs g w' A l := ⟨row_keep h.row hf (cells1_kind l) hp, h.lst.past hp⟩
theorem Shs.below {g : Nat} {w w' : World} {A : Option Addr} {l : List El} (h : Shs g w A l) (hb : Below w.heap.size w w') : Shs g w' A l := ⟨h.row.below hb, h.lst.below hb⟩
end Go.Proofs.YtjoghbmedfmioabGreat.Ms

namespace Go.Proofs.YtjoghbmedfmioabGreat.Rd
open Go.RowKit Go.Shelf F8 Poly GF
attribute [local go_sem] Oper.semAt_some
theorem Cd.c0 {w : World} {b g : Nat} {A : Option Addr} {xs : List F8} {n c k : Nat} (h : Cd w b g A xs n c k) : w.cell? ⟨b, 0, none⟩ = some (.pointer (some ⟨g, 0, none⟩)) := h.blk.cell 0
theorem Cd.c2 {w : World} {b g : Nat} {A : Option Addr} {xs : List F8} {n c k : Nat} (h : Cd w b g A xs n c k) : w.cell? ⟨b, 2, none⟩ = some (.int .i64 k) := h.blk.cell 2
theorem far_part {g : Nat} {A A2 : Option Addr} {p q : List F8} (h : Far (some ⟨g, 0, none⟩) A p) (hs : ∀ a, A2 = some a → ∃ a0, A = some a0 ∧ a0.block = a.block) (hq : q ≠ [] → p ≠ []) : Far (some ⟨g, 0, none⟩) A2 q := fun hq0 a b ha hb => by
 obtain ⟨a0, h1, h2⟩ := hs a ha
 have := h (hq hq0) a0 b h1 hb
 rw [← h2]; exact this
theorem take_ne {p : List F8} {k : Nat} (h : p.take k ≠ []) : p ≠ [] := fun e => h (by rw [e]; simp)
theorem drop_ne {p : List F8} {k : Nat} (h : p.drop k ≠ []) : p ≠ [] := fun e => h (by rw [e]; simp)
def PDec (g : Nat) (w : World) (xs : List F8) (k : Nat) (pl : List Int) (ys : List F8) (e : Ending) (w' : World) : Prop := ∃ l n, DecIs xs k pl ys l n ∧ PolyResE (some ⟨g, 0, none⟩) w w' e l n
set_option maxRecDepth 100000 in
set_option maxHeartbeats 8000000 in
theorem decode_calls (S : Poly.Spec) {w : World} {b g : Nat} {A : Option Addr} {xs : List F8} {n c k : Nat} (h : Cd w b g A xs n c k) (B : Option Addr) (pl : List Int) (m d : Nat) (hl : pl.length = m) (hr : Row w B (zs pl)) (hm : m ≤ 1000)
  (C : Option Addr) (ys : List F8) (o e : Nat) (ho : ys.length = o) (hb2 : Bytes w C (bs ys)) (hoe : o ≤ e) (ho2 : o ≤ 1000) (hfar : Far (some ⟨g, 0, none⟩) C ys) :
  Calls Tryz.prog 35 #[.pointer (some ⟨b, 0, none⟩), .slice B m d, .slice C o e] w (PDec g w xs k pl ys) := by
 have h0 := h.blk.cell 0
 have h1 := h.blk.cell 1
 have h2 := h.blk.cell 2
 simp only [codeC] at h0 h1 h2
 have HC := Lib.hid h
 have n256 := h.n256
 have hkn := h.kn
 have HR := Lib.hid hr
 have HB2 := Lib.hid hb2
 have HM := Lib.hid hl
 have HO := Lib.hid ho
 have HFar := Lib.hid hfar
 clear hr hb2 hfar h
 by_cases hmo : m = o
 ·have k1 : ((m : Int) != (o : Int)) = false := by simp; omega
  have HMO := Lib.hid hmo
  have hv := have_calls A n c n256 B pl m d w HM.out HR.out (by omega)
  by_cases hok : OkP n pl
  ·rw [decide_eq_true hok] at hv
   have hok3 : pl.length = ys.length ∧ OkP xs.length pl := ⟨by omega, by rw [HC.out.len]; exact hok⟩
   have HOK := Lib.hid hok3
   have HOK2 := Lib.hid hok
   have HPN := Lib.hid (ptsAt_nodup HC.out.nd hok3.2)
   have HPL := Lib.hid (ptsAt_length xs pl)
   have HV := Lib.hid hv
   by_cases hmk : m < k
   ·have HX : Hid (DecIs xs k pl ys [] 70) := Lib.hid (.inr (.inl ⟨hok3, by omega, rfl, rfl⟩))
    clear hok hok3 ho hl hv hmo
    go_enter Tryz.func35, Tryz.ntmps35
    go_wp2_with (first
     | (go_at_call 55; refine (isNone_calls HC.out.blk HC.out.k1).mono ?_; rintro e w1 ⟨rfl, rfl⟩)
     | (go_at_call 56; refine HV.out.mono ?_; rintro e w2 ⟨rfl, hB2⟩; have HC2 := HC.out.below hB2; have h3 := HC2.blk.cell 2; simp only [codeC] at h3))
    go_ret2
    exact ⟨[], 70, HX.out, none, 0, rfl, Nat.le_refl _, Own.nil _ _ _, HC2.fld, Past.of_below hB2 _⟩
   ·have HKM : Hid (k ≤ m) := Lib.hid (by omega)
    clear hok hok3 ho hl hv hmo
    go_enter Tryz.func35, Tryz.ntmps35
    go_wp2_with (first
     | (go_at_call 55; refine (isNone_calls HC.out.blk HC.out.k1).mono ?_; rintro e w1 ⟨rfl, rfl⟩)
     | (go_at_call 56; refine HV.out.mono ?_; rintro e w2 ⟨rfl, hB2⟩; have HC2 := Lib.hid (HC.out.below hB2); have HBW := Lib.hid hB2; have h3 := HC2.out.blk.cell 2; have h4 := HC2.out.blk.cell 1; simp only [codeC] at h3 h4; clear hB2))
    refine (at_calls A xs n c B pl m d _ HC2.out.len HC2.out.by_ (by omega) HM.out (HR.out.below HBW.out) (by omega) HOK2.out).mono ?_
    rintro e w3 ⟨A3, c3, rfl, hc3, hO3, hB3⟩
    obtain ⟨pts, hpts⟩ : ∃ pts, ptsAt xs pl = pts := ⟨_, rfl⟩
    rw [hpts] at HPN HPL hO3
    have HPT := Lib.hid hpts
    have HO3 := Lib.hid hO3
    have HC3 := Lib.hid (HC2.out.below hB3)
    have HBW3 := Lib.hid (HBW.out.trans (hB3.mono HBW.out.size))
    have hpm : pts.length = m := by rw [HPL.out, HM.out]
    have HPM := Lib.hid hpm
    have hby3 : Bytes w3 A3 (bs pts) := Own.bytes HO3.out
    have hfar3 : Far (some ⟨g, 0, none⟩) A3 pts := far_own HC3.out.fld.fld HO3.out
    have hys3 : Bytes w3 C (bs ys) := HB2.out.below HBW3.out
    obtain ⟨P1, hs1, hp1, hk1⟩ := slice_to hby3 c3 k (by omega) (by omega)
    have hko : k ≤ o := by have := HMO.out; have := HKM.out; omega
    obtain ⟨Y1, hs2, hy1, hk2⟩ := slice_to hys3 e k (by have := HO.out; omega) (by have := HO.out; omega)
    rw [hpm] at hs1
    rw [HO.out] at hs2
    have HCd := Lib.hid HC3.out.drew
    have HT := Lib.hid (through_calls S g P1 (pts.take k) k c3 Y1 (ys.take k) e w3.drew (by rw [List.length_take]; omega) hp1.drew (by omega) (by omega) (by rw [List.length_take, HO.out]; omega) hy1.drew (by omega) (HPN.out.sublist (List.take_sublist _ _)) HC3.out.drew.fld (far_part hfar3 hk1 take_ne) (far_part HFar.out hk2 take_ne))
    clear hB3 hpts hO3 hpm hby3 hfar3 hys3 hp1 hy1 hk1 hk2 HBW HC2 HC HV h0 h1 h2 h3 h4
    go_wp2_with fail
    have d0 := HCd.out.c0
    have d2 := HCd.out.c2
    go_region_held (fun wz => wz.cell? ⟨b, 0, none⟩ = some (.pointer (some ⟨g, 0, none⟩)) ∧ wz.cell? ⟨b, 2, none⟩ = some (.int .i64 (k : Int))) (exact ⟨HCd.out.c0, HCd.out.c2⟩)
     ((go_at_call 58; (with_reducible refine HT.out.mono ?_); rintro e w4 ⟨r, ht, A4, c4, rfl, hc4, hO4, hF4, hP4⟩; replace HCd := Lib.hid (HC3.out.drew.past hF4 hP4); have d0 := HCd.out.c0; have d2 := HCd.out.c2))
    all_goals
     have hp4 : Past w3.drew.heap.size g w3.drew w4 := hP4
     have hfl : (full r k).length = k := full_length r k
     have hrk : r.length ≤ k := by have := thru_length ht; rw [List.length_take] at this; omega
     have HWd : Hid (word (full r k) (pts.take k) = ys.take k) := Lib.hid (by rw [word_congr (full_eqv hrk)]; exact thru_word (by rw [List.length_take, List.length_take, HPM.out, HO.out]; omega) ht)
     obtain ⟨msg, hmsg⟩ : ∃ msg, full r k = msg := ⟨_, rfl⟩
     rw [hmsg] at hfl HWd hO4 hc4 ⊢
     have HFL := Lib.hid hfl
     rw [hfl] at hO4 hc4 ⊢
     have HO4 := Lib.hid hO4
     have HC4 := Lib.hid (HC3.out.drew.past hF4 hp4)
     have HPW4 : Hid (Past w.heap.size g w w4) := Lib.hid (((Past.of_below HBW3.out g).drew).trans (hp4.mono HBW3.out.size))
     have hO3' := own_keep HO3.out.drew HC3.out.drew.fld hp4
     have hby4 : Bytes w4 A3 (bs pts) := Own.bytes hO3'
     have hfar4 : Far (some ⟨g, 0, none⟩) A3 pts := far_own HC4.out.fld.fld hO3'
     have hys4 : Bytes w4 C (bs ys) := bytes_far HB2.out (fun hp a ha => HFar.out hp a _ ha rfl) HPW4.out
     have hmb : Bytes w4 A4 (bs msg) := Own.bytes HO4.out
     have hmf : Far (some ⟨g, 0, none⟩) A4 msg := far_own HC4.out.fld.fld HO4.out
     obtain ⟨P2, hs3, hp2, hk3⟩ := slice_from hby4 c3 k (by have := HPM.out; omega) (by have := HPM.out; omega)
     obtain ⟨Y2, hs4, hy2, hk4⟩ := slice_from hys4 e k (by have := HO.out; omega) (by have := HO.out; omega)
     rw [HPM.out] at hs3
     rw [HO.out] at hs4
     have HY2 := Lib.hid hy2
     have HYF : Hid (Far (some ⟨g, 0, none⟩) Y2 (ys.drop k)) := Lib.hid (far_part HFar.out hk4 drop_ne)
     replace HCd := Lib.hid HC4.out.drew
     have HVv := Lib.hid (values_calls S g A4 msg k c4 P2 (pts.drop k) (m - k) (c3 - k) w4.drew HFL.out hmb.drew hc4 (by omega) (by rw [List.length_drop, HPM.out]) hp2.drew (by omega) HC4.out.drew.fld hmf (far_part hfar4 hk3 drop_ne))
     have HLw : Hid ((word msg (pts.drop k)).length = m - k) := Lib.hid (by rw [word_length, List.length_drop, HPM.out])
     have HLy : Hid ((ys.drop k).length = o - k) := Lib.hid (by rw [List.length_drop, HO.out])
     clear hmsg hP4 hp4 hrk ht hfl hO4 hO3' hby4 hfar4 hys4 hmb hmf hp2 hk3 hk4 hy2 hs1 hs2 HT hF4 d0 d2
     by_cases hdec : word msg (pts.drop k) = ys.drop k
     ·have HX : Hid (DecIs xs k pl ys msg 0) := Lib.hid (.inr (.inr (.inl ⟨HOK.out, by have := HM.out; have := HKM.out; omega, rfl, HFL.out, by rw [HPT.out]; exact split_ok HWd.out hdec⟩)))
      have HDc := Lib.hid hdec
      clear hdec
      go_wp2_with fail
      have d0 := HCd.out.c0
      have d2 := HCd.out.c2
      go_region_held (fun wz => wz.cell? ⟨b, 0, none⟩ = some (.pointer (some ⟨g, 0, none⟩)) ∧ wz.cell? ⟨b, 2, none⟩ = some (.int .i64 (k : Int))) (exact ⟨HCd.out.c0, HCd.out.c2⟩)
       ((first
        | (go_at_call 60; (with_reducible refine HVv.out.mono ?_); rintro e w5 ⟨A5, c5, rfl, hc5, hO5, hF5, hP5⟩; have hp5 : Past w4.drew.heap.size g w4.drew w5 := hP5; have HPW5 : Hid (Past w.heap.size g w w5) := Lib.hid ((HPW4.out.drew).trans (hp5.mono HPW4.out.size)); have HO6 := Lib.hid (own_keep HO4.out.drew HC4.out.drew.fld hp5); replace HCd := Lib.hid (HC4.out.drew.past hF5 hp5); have d0 := HCd.out.c0; have d2 := HCd.out.c2; rw [HLw.out] at hO5 hc5 ⊢; have HE := Lib.hid (equal_calls A5 Y2 (word msg (pts.drop k)) (ys.drop k) (m - k) (o - k) c5 (e - k) w5 HLw.out HLy.out (Own.bytes hO5) (bytes_far HY2.out.drew (fun hp a ha => HYF.out hp a _ ha rfl) hP5)); clear hO5 hc5 hP5 hF5 hp5)
        | (go_at_call 59; (with_reducible refine HE.out.mono ?_); rintro e w6 ⟨rfl, rfl⟩; rw [decide_eq_true HDc.out])))
      all_goals
       go_wp2
       go_ret2
       exact ⟨msg, 0, HX.out, A4, c4, by rw [HFL.out]; rfl, by rw [HFL.out]; exact hc4, by rw [HFL.out]; exact HO6.out.more HBW3.out.size, HCd.out.fld, HPW5.out⟩
     ·have HX : Hid (DecIs xs k pl ys [] 71) := Lib.hid (.inr (.inr (.inr ⟨HOK.out, by have := HM.out; have := HKM.out; omega, rfl, rfl, by rw [HPT.out]; exact split_no HFL.out (by rw [HPM.out]; exact HKM.out) HPN.out HWd.out hdec⟩)))
      have HDc := Lib.hid hdec
      clear hdec
      go_wp2_with fail
      have d0 := HCd.out.c0
      have d2 := HCd.out.c2
      go_region_held (fun wz => wz.cell? ⟨b, 0, none⟩ = some (.pointer (some ⟨g, 0, none⟩)) ∧ wz.cell? ⟨b, 2, none⟩ = some (.int .i64 (k : Int))) (exact ⟨HCd.out.c0, HCd.out.c2⟩)
       ((first
        | (go_at_call 60; (with_reducible refine HVv.out.mono ?_); rintro e w5 ⟨A5, c5, rfl, hc5, hO5, hF5, hP5⟩; have hp5 : Past w4.drew.heap.size g w4.drew w5 := hP5; have HPW5 : Hid (Past w.heap.size g w w5) := Lib.hid ((HPW4.out.drew).trans (hp5.mono HPW4.out.size)); have HO6 := Lib.hid (own_keep HO4.out.drew HC4.out.drew.fld hp5); replace HCd := Lib.hid (HC4.out.drew.past hF5 hp5); have d0 := HCd.out.c0; have d2 := HCd.out.c2; rw [HLw.out] at hO5 hc5 ⊢; have HE := Lib.hid (equal_calls A5 Y2 (word msg (pts.drop k)) (ys.drop k) (m - k) (o - k) c5 (e - k) w5 HLw.out HLy.out (Own.bytes hO5) (bytes_far HY2.out.drew (fun hp a ha => HYF.out hp a _ ha rfl) hP5)); clear hO5 hc5 hP5 hF5 hp5)
        | (go_at_call 59; (with_reducible refine HE.out.mono ?_); rintro e w6 ⟨rfl, rfl⟩; rw [decide_eq_false HDc.out])))
      all_goals
       go_wp2
       go_ret2
       exact ⟨[], 71, HX.out, none, 0, rfl, Nat.le_refl _, Own.nil _ _ _, HCd.out.fld, HPW5.out⟩
  ·have hdf := hv
   rw [decide_eq_false hok] at hdf
   have HV := Lib.hid hdf
   have HX : Hid (DecIs xs k pl ys [] 2) := Lib.hid (.inl ⟨fun h => hok (by rw [← HC.out.len]; exact h.2), rfl, rfl⟩)
   clear hok ho hl hv hmo hdf
   go_enter Tryz.func35, Tryz.ntmps35
   go_wp2_with (first
    | (go_at_call 55; refine (isNone_calls HC.out.blk HC.out.k1).mono ?_; rintro e w1 ⟨rfl, rfl⟩)
    | (go_at_call 56; refine HV.out.mono ?_; rintro e w2 ⟨rfl, hB2⟩; have HC2 := HC.out.below hB2; have h3 := HC2.blk.cell 2; simp only [codeC] at h3))
   go_ret2
   exact ⟨[], 2, HX.out, none, 0, rfl, Nat.le_refl _, Own.nil _ _ _, HC2.fld, Past.of_below hB2 _⟩
 ·have k1 : ((m : Int) != (o : Int)) = true := by simp; omega
  have HX : Hid (DecIs xs k pl ys [] 2) := Lib.hid (.inl ⟨fun h => hmo (by have := HM.out; have := HO.out; omega), rfl, rfl⟩)
  clear ho hl hmo
  go_enter Tryz.func35, Tryz.ntmps35
  go_wp2_with (go_at_call 55; refine (isNone_calls HC.out.blk HC.out.k1).mono ?_; rintro e w1 ⟨rfl, rfl⟩)
  go_ret2
  exact ⟨[], 2, HX.out, none, 0, rfl, Nat.le_refl _, Own.nil _ _ _, HC.out.fld, Past.refl _ _ _⟩
end Go.Proofs.YtjoghbmedfmioabGreat.Rd

namespace Go.Proofs.YtjoghbmedfmioabGreat.Rd
open Go.RowKit Go.Shelf F8 Poly GF
attribute [local go_sem] Oper.semAt_some
def pts (n : Nat) : List F8 := (List.range n).map fun i => ⟨gp i, gp_lt i⟩
theorem pts_length (n : Nat) : (pts n).length = n := by simp [pts]
theorem pts_succ (n : Nat) : pts (n + 1) = pts n ++ [⟨gp n, gp_lt n⟩] := by simp [pts, List.range_succ]
theorem pts_nodup {n : Nat} (h : n ≤ 255) : (pts n).Nodup := by
 unfold pts
 rw [List.nodup_iff_pairwise_ne, List.pairwise_map]
 refine (List.nodup_iff_pairwise_ne.1 List.nodup_range).imp_of_mem fun {a b} ha hb hne e => hne ?_
 have ha := List.mem_range.1 ha
 have hb := List.mem_range.1 hb
 exact gp_inj (by omega) (by omega) (congrArg F8.n e)
theorem info_i : (Tryz.prog.info? 3).map (fun i => (i.zero, i.size, i.bytes)) = some (some (.int .i64 0), 1, 8) := by kernel_rfl
theorem zs_one (l : List Int) : ∀ u ∈ zs l, u.oneCell' = true := by
 intro u hu; obtain ⟨n, _, rfl⟩ := List.mem_map.1 hu; rfl
theorem zs_append (a b : List Int) : zs (a ++ b) = zs a ++ zs b := by simp [zs]
theorem own_cap2 {w : World} {B : Nat} {e : TypeId} {A : Option Addr} {n c : Nat} {xs : List Value} (h : Own w B e (.slice A n c) xs) (hn : xs.length = n) : n ≤ c := by
 rcases h.2 with ⟨h1, _⟩ | ⟨b, cap, cur, h1, h2, _, h4, _⟩
 ·injection h1 with h1 h2 h3; omega
 ·injection h1 with h1 h2' h3; omega
end Go.Proofs.YtjoghbmedfmioabGreat.Rd
