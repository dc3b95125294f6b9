/- Of the program, joined: PolyCode7, RdCode2, RdCode3, ElKit, ElCode, SySym. -/
import Derived.Test.YtofihklinkpbiaaGreatPl10
import Derived.Test.YtofihklinkpbiaaGreatPl05
import Derived.Test.YtofihklinkpbiaaGreatPl08
import Derived.Deep.RegionWith
import Derived.StillTailTactics
import Derived.Deep.RegionHeld
namespace Go.Proofs.YtofihklinkpbiaaGreat.Poly
open Go.RowKit Go.Shelf F8 GF
theorem roots_take (p : List F8) (k : Nat) (x : F8) (hk : k < p.length) (hx : coef p k = x) : trim (pmul (trim (roots (p.take k))) [x, 1]) = trim (roots (p.take (k + 1))) := by
 rw [take_succ' p hk, ← coef_of_lt hk, hx]
 exact trim_congr ((pmul_congr_left _ (trim_eqv _)).trans (roots_snoc _ _).symm)
theorem roots_len (p : List F8) : (trim (roots p)).length = p.length + 1 := len_roots p
theorem far_own {w : World} {g B n c : Nat} {A : Option Addr} {p : List F8} (hf : Fld w g) (h : Own w B 5 (.slice A n c) (bv (bs p))) : Far (some ⟨g, 0, none⟩) A p := by
 intro _ a b ha hb
 cases hb
 subst ha
 have h1 : (Value.slice (some a) n c).ownBlock ≠ some g := by rcases hf with hf | hf <;> exact own_ne h hf (by decide)
 intro e
 exact h1 (show some a.block = some g by rw [show a.block = g from e])
def RootsRes (pf : Option Addr) (w : World) (r : List F8) (e : Ending) (w' : World) : Prop := PolyRes pf w w' e r
set_option maxRecDepth 100000 in
set_option maxHeartbeats 2000000 in
theorem roots_pcalls (A : Option Addr) (p : List F8) (m c : Nat) (w : World) (hl : p.length = m) (hb : Bytes w A (bs p)) (hm : m ≤ 1000) (pf : Option Addr) (hf : FldP w pf) (hfar : Far pf A p) :
  Calls Tryz.prog 47 #[.pointer pf, .slice A m c] w (RootsRes pf w (trim (roots p))) := by
 have HB := Lib.hid hb
 have HL := Lib.hid hl
 clear hb hl
 go_enter Tryz.func47, Tryz.ntmps47
 go_wp2_with fail
 refine (orNew_f pf w _ hf (Below.refl _ _)).mono ?_
 rintro e w1 ⟨g, rfl, hg, hF1, hB1⟩
 have hs1 := hB1.size
 have hglt := hF1.lt
 have hfa := hg.far (Nat.le_refl _) hfar HB.out
 go_wp2
 go_loopw [5, 13] (fun v i wr => ∃ k : Nat, k ≤ m ∧ i = .int .i64 k ∧ Hid (Own wr w.heap.size 5 v (bv (bs (trim (roots (p.take k)))))) ∧ Hid (Fld wr g) ∧ Hid (Past w.heap.size g w wr)) (fun _ i _ => m - (intOf i).toNat)
 case atStart =>
  refine ⟨0, by omega, rfl, Lib.hid ?_, Lib.hid (hF1.alloc _), Lib.hid ((Past.of_below hB1 _).alloc hs1 _)⟩
  have h1 := Own.lit w1 w1.heap.size 5 #[.int .u8 1] 1 (Nat.le_refl _) rfl (by decide)
  have e1 : trim (roots (p.take 0)) = [1] := by rw [List.take_zero]; show trim [1] = [1]; exact trim_snoc [] 1 one_ne_zero
  rw [e1]
  exact Own.more h1 hs1
 case round =>
  obtain ⟨k, hk, rfl, HO, HF, HP⟩ := hrel
  by_cases hkk : k < m
  ·have HBr := bytes_far HB.out (fun hp a ha => (hfa hp a ha).1) HP.out
   obtain ⟨b, o, rfl⟩ := where_ HB.out (by have := HL.out; omega)
   have hcell := cellAt HBr k (by have := HL.out; omega)
   obtain ⟨x, hx⟩ : ∃ x, coef p k = x := ⟨_, rfl⟩
   rw [hx] at hcell
   have HT := Lib.hid (roots_take p k x (by have := HL.out; omega) hx)
   obtain ⟨r, hr⟩ : ∃ r, trim (roots (p.take k)) = r := ⟨_, rfl⟩
   rw [hr] at HT HO
   have hrl : r.length = k + 1 := by rw [← hr, roots_len, List.length_take, HL.out]; omega
   have HRL := Lib.hid hrl
   obtain ⟨A2, c2, rfl, hc2⟩ := Own.shape HO.out
   rw [HRL.out] at HO hc2
   have hsz := HP.out.size
   have hF2 : Fld (wr.alloc (.cells #[.int .u8 x.n, .int .u8 1] 5)) g := HF.out.alloc _
   have hO2 : Own (wr.alloc (.cells #[.int .u8 x.n, .int .u8 1] 5)) w.heap.size 5 (.slice A2 (k + 1) c2) (bv (bs r)) := HO.out.alloc _
   have hX : Bytes (wr.alloc (.cells #[.int .u8 x.n, .int .u8 1] 5)) (some ⟨wr.heap.size, 0, none⟩) (bs [x, 1]) := ⟨Row.new _ _ _ _, bs_lt _⟩
   have HBA : Hid (Bytes (wr.alloc (.cells #[.int .u8 x.n, .int .u8 1] 5)) A2 (bs r)) := Lib.hid (by rw [← hrl] at hO2; exact Own.bytes hO2)
   have hFA := far_own hF2 hO2
   have hFX : Far (some ⟨g, 0, none⟩) (some ⟨wr.heap.size, 0, none⟩) [x, 1] := by
    intro _ a b ha hb
    cases ha; cases hb
    have := HF.out.lt
    simp; omega
   clear hx hr hrl HBr hglt hfa
   rw [HRL.out]
   go_wp2_with fail
   refine (mul_pcalls A2 (some ⟨wr.heap.size, 0, none⟩) r [x, 1] (k + 1) 2 c2 2 _ HRL.out rfl HBA.out hX hc2 (Nat.le_refl _) (by omega) (by omega) (some ⟨g, 0, none⟩) (FldP.of hF2) hFA hFX).mono ?_
   rintro e w3 ⟨A3, c3, rfl, hc3, hO3, hF3, hP3⟩
   rw [HT.out] at hO3
   have HO3 := Lib.hid (hO3.more (B' := w.heap.size) (by simp; omega))
   have HF3 := Lib.hid hF3.fld
   have HP3 : Hid (Past w.heap.size g w w3) := Lib.hid ((HP.out.alloc hsz _).trans (hP3.mono (by simp; omega)))
   rw [HT.out]
   clear hO3 hF3 hP3 hc3 hF2 hO2 hX hFA hFX hcell
   go_wp2
   go_roundw
   case rel => exact ⟨k + 1, by omega, by go_num, HO3, HF3, HP3⟩
   case measure => simp [intOf]; omega
  ·obtain rfl : k = m := by omega
   have HT : Hid (p.take k = p) := Lib.hid (List.take_of_length_le (by rw [HL.out]; omega))
   rw [HT.out] at HO
   clear HT hkk hk
   go_wp2
   go_ret
   obtain ⟨A2, c2, rfl, hc2⟩ := Own.shape HO.out
   exact ⟨A2, c2, rfl, hc2, HO.out, hg.fldP HF.out, hg.past (Nat.le_refl _) HP.out⟩
end Go.Proofs.YtofihklinkpbiaaGreat.Poly

namespace Go.Proofs.YtofihklinkpbiaaGreat.Rd
open Go.RowKit Go.Shelf F8 Poly GF
attribute [local go_sem] Oper.semAt_some
theorem make_room (w : World) (n : Nat) (hn : n ≤ 1000000000) :
  ∃ w', (Instr.makeSlice 22 (.int .i64 0) (.int .i64 (n : Int))).run Tryz.prog w = .ok (.slice (some ⟨w.heap.size, 0, none⟩) 0 n) w' ∧ Own w' w.heap.size 5 (.slice (some ⟨w.heap.size, 0, none⟩) 0 n) (bv (bs [])) ∧ Below w.heap.size w w' := by
 obtain ⟨i0, hi, hi1, hi2, hi3⟩ := info_parts info_u8
 obtain ⟨w1, h1, h2, h3⟩ := run_make_own (P := Tryz.prog) w w.heap.size 22 5 i0 _ 1 Tryz.underlying22 hi hi1 hi2 .i64 .i64 n (by rw [hi3]; omega) (by simp only [maxLen]; omega) (Nat.le_refl _)
 exact ⟨w1, h1, h2, (Below.refl w.heap.size w).grown h3 (Nat.le_refl _) (fun _ h => by cases h)⟩
set_option maxRecDepth 100000 in
set_option maxHeartbeats 2000000 in
theorem at_calls (A : Option Addr) (p : List F8) (n c : Nat) (B : Option Addr) (pl : List Int) (m d : Nat) (w : World) (hn : p.length = n) (hb : Bytes w A (bs p)) (hn2 : n ≤ 1000000) (hl : pl.length = m) (hr : Row w B (zs pl)) (hm : m ≤ 1000000) (hok : OkP n pl) :
  Calls Tryz.prog 196 #[.slice A n c, .slice B m d] w (ROwn w (ptsAt p pl) m) := by
 have HB := Lib.hid hb
 have HR := Lib.hid hr
 have HM := Lib.hid hl
 have HN := Lib.hid hn
 have HK := Lib.hid hok
 obtain ⟨w1, hmk, hO1, hB1⟩ := make_room w m (by omega)
 have HO1 := Lib.hid hO1
 clear hb hl hr hok hn hO1
 go_enter Tryz.func196, Tryz.ntmps196
 go_wp2
 go_loopw [5, 13] (fun out i wr => ∃ k : Nat, k ≤ m ∧ i = .int .i64 k ∧ Hid (Own wr w.heap.size 5 out (bv (bs (ptsAt p (pl.take k))))) ∧ Below w.heap.size w wr) (fun _ i _ => m - (intOf i).toNat)
 case atStart => exact ⟨0, by omega, rfl, HO1, hB1⟩
 case round =>
  obtain ⟨k, hk, rfl, HO, HW⟩ := hrel
  have hsz := HW.size
  by_cases hlt : k < m
  ·have hkp : k < pl.length := by rw [HM.out]; exact hlt
   obtain ⟨b, off, rfl, hcell⟩ := zs_at (HR.out.below HW) (k := k) hkp
   have HT := Lib.hid (ptsAt_snoc (p := p) hkp)
   have hin := HK.out.1 pl[k] (List.getElem_mem hkp)
   have HL : Hid ((bv (bs (ptsAt p (pl.take k)))).length = k) := Lib.hid (by rw [bvs_length, ptsAt_length, List.length_take]; omega)
   obtain ⟨z, hz⟩ : ∃ z, pl[k] = z := ⟨_, rfl⟩
   rw [hz] at hcell hin HT
   obtain ⟨x, rfl⟩ : ∃ x : Nat, z = (x : Int) := ⟨z.toNat, by omega⟩
   obtain ⟨y, hy⟩ : ∃ y, coef p x = y := ⟨_, rfl⟩
   have hxn : (x : Int) < (n : Int) := hin.2
   have hxp : x < p.length := by rw [HN.out]; omega
   obtain ⟨b2, o2, rfl⟩ := where_ HB.out (by omega)
   have hc2 := cellAt (HB.out.below HW) x hxp
   rw [Int.toNat_natCast] at HT
   rw [hy] at hc2 HT
   clear hz hy hin hxp
   go_wp2_with (at_builtin; refine wpList_app _ rfl _ _ _ rfl w.heap.size 5 _ 1 Tryz.underlying22 info_u8 rfl (by omega) _ _ rfl (HO.out.alloc _) (some ⟨wr.heap.size, 0, none⟩) 1 1 (bv [y.n]) rfl rfl (Row.new _ _ _ _) (bv_one _) (by rw [HL.out]; omega) (by simp; omega) ?_; rintro v2 w2 hown hg3 -)
   rw [← HT.out] at hown
   have HO2 := Lib.hid hown
   have hB2 := (HW.alloc hsz _).trans ((HO.out.alloc _).grew (by simp; omega) hg3)
   clear hown hg3
   go_roundw
   case rel => exact ⟨k + 1, by omega, by go_num, HO2, hB2⟩
   case measure => simp [intOf]; omega
  ·obtain rfl : k = m := by omega
   have ht : pl.take k = pl := List.take_of_length_le (by rw [HM.out]; exact Nat.le_refl _)
   rw [ht] at HO
   obtain ⟨A1, c1, rfl, hc1⟩ := Own.shape HO.out
   have HPL : Hid ((ptsAt p pl).length = k) := Lib.hid (by rw [ptsAt_length, HM.out])
   rw [HPL.out] at HO hc1 ⊢
   go_wp2
   go_ret
   exact ⟨A1, c1, rfl, hc1, HO.out, HW⟩
def part (p q : List F8) (k : Nat) : List F8 := word p (q.take k) ++ List.replicate (q.length - k) 0
theorem part_length {p q : List F8} {k : Nat} (h : k ≤ q.length) : (part p q k).length = q.length := by
 rw [part, List.length_append, word_length, List.length_take, List.length_replicate]; omega
theorem part_set {p q : List F8} {k : Nat} (h : k < q.length) : (part p q k).set k (eval p (coef q k)) = part p q (k + 1) := by
 have hl : (word p (q.take k)).length = k := by rw [word_length, List.length_take]; omega
 unfold part
 rw [List.set_append_right _ _ (by omega), hl, Nat.sub_self, show q.length - k = q.length - (k + 1) + 1 by omega, List.replicate_succ, List.set_cons_zero, word, word, take_succ' q h, List.map_append, List.map_cons, List.map_nil, coef_of_lt h, List.append_assoc]
 rfl
set_option maxRecDepth 100000 in
set_option maxHeartbeats 4000000 in
theorem values_calls (S : Poly.Spec) (g : Nat) (A : Option Addr) (p : List F8) (m c : Nat) (B : Option Addr) (q : List F8) (n d : Nat) (w : World) (hm : p.length = m) (hb : Bytes w A (bs p)) (hc : m ≤ c) (hl : m ≤ 1000) (hn : q.length = n) (hb2 : Bytes w B (bs q)) (hn2 : n ≤ 1000000)
  (hf : FldP w (some ⟨g, 0, none⟩)) (hfa : Far (some ⟨g, 0, none⟩) A p) (hfb : Far (some ⟨g, 0, none⟩) B q) :
  Calls Tryz.prog 127 #[.agg #[.pointer (some ⟨g, 0, none⟩)], .slice A m c, .slice B n d] w fun e w' => PolyRes (some ⟨g, 0, none⟩) w w' e (word p q) := by
 have hglt := hf.fld.lt
 obtain ⟨w0, hw0⟩ : ∃ w0, w.alloc (.cells #[.pointer (some ⟨g, 0, none⟩)] 151) = w0 := ⟨_, rfl⟩
 have hz0 : w0.heap.size = w.heap.size + 1 := by rw [← hw0]; simp
 have hB0 : Below w.heap.size w w0 := by rw [← hw0]; exact (Below.refl _ _).alloc (Nat.le_refl _) _
 have hbl0 : Block w0 w.heap.size 151 #[.pointer (some ⟨g, 0, none⟩)] := by rw [← hw0]; exact Block.new w _ _
 obtain ⟨w1, hmk, hO1, hB1⟩ := make_run w0 n (by omega)
 rw [hz0] at hmk hO1 hB1
 have hBW : Below w.heap.size w w1 := hB0.trans (hB1.mono (by omega))
 have HO1 : Hid (Own w1 w.heap.size 5 (.slice (some ⟨w.heap.size + 1, 0, none⟩) n n) (bv (bs (part p q 0)))) := Lib.hid (by
  have : part p q 0 = List.replicate n 0 := by rw [part, hn]; rfl
  rw [this]; exact hO1.more (by omega))
 have HF1 : Hid (FldP w1 (some ⟨g, 0, none⟩)) := Lib.hid (hf.below hBW)
 have HP1 := Lib.hid (Past.of_below hBW g)
 have HC1 := Lib.hid (hbl0.below hB1 (by omega))
 have HB := Lib.hid hb
 have HB2 := Lib.hid hb2
 have HM := Lib.hid hm
 have HN := Lib.hid hn
 have HFA := Lib.hid hfa
 have HFB := Lib.hid hfb
 have HZ : Hid (w.heap.size < w1.heap.size) := Lib.hid (by have := hB1.size; omega)
 clear hb hb2 hm hn hfa hfb hO1 hB1 hB0 hbl0 hBW hf
 go_enter Tryz.func127, Tryz.ntmps127
 go_wp2
 go_loopw [15] (fun i wr => ∃ k : Nat, k ≤ n ∧ i = .int .i64 k ∧ Hid (Own wr w.heap.size 5 (.slice (some ⟨w.heap.size + 1, 0, none⟩) n n) (bv (bs (part p q k)))) ∧ Hid (FldP wr (some ⟨g, 0, none⟩)) ∧ Hid (Past w.heap.size g w wr) ∧ Hid (Block wr w.heap.size 151 #[.pointer (some ⟨g, 0, none⟩)])) (fun i _ => n - (intOf i).toNat)
 case atStart => exact ⟨0, by omega, rfl, HO1, HF1, HP1, HC1⟩
 case round =>
  clear HO1 HF1 HP1 HC1
  obtain ⟨k, hk, rfl, HO, HF, HP, HC⟩ := hrel
  by_cases hlt : k < n
  ·have hkq : k < q.length := by rw [HN.out]; exact hlt
   have HBr := Lib.hid (bytes_far HB.out (fun hp a ha => HFA.out hp a _ ha rfl) HP.out)
   have HBr2 := Lib.hid (bytes_far HB2.out (fun hp a ha => HFB.out hp a _ ha rfl) HP.out)
   obtain ⟨b2, o2, rfl⟩ := where_ HB2.out (by omega)
   have hcell := cellAt HBr2.out k hkq
   have hcb := HC.out.cell 0
   obtain ⟨y, hy⟩ : ∃ y, eval p (coef q k) = y := ⟨_, rfl⟩
   have HT := Lib.hid (part_set (p := p) hkq)
   rw [hy] at HT
   have HY := Lib.hid hy
   clear hy
   obtain ⟨x, hx⟩ : ∃ x, coef q k = x := ⟨_, rfl⟩
   rw [hx] at hcell HY
   have HPL : Hid ((part p q k).length = n) := Lib.hid (by rw [part_length (by omega), HN.out])
   clear hx
   go_wp2_with fail
   refine (S.atP A p m c _ HM.out HBr.out hc hl _ HF.out HFA.out x).mono ?_
   rintro e w2 ⟨rfl, hf2, hp2⟩
   rw [HY.out]
   have hp2' : Past wr.heap.size g wr w2 := hp2
   have HO2 := Lib.hid (own_keep HO.out HF.out hp2')
   have hsz := HP.out.size
   have hP2 : Past w.heap.size g w w2 := HP.out.trans (hp2'.mono hsz)
   have hC2 : Block w2 w.heap.size 151 #[.pointer (some ⟨g, 0, none⟩)] := HC.out.past hp2' HC.out.lt (by omega)
   have hcs := own_cell HO2.out HPL.out (k := k) hlt
   have hfz := Own.frozenAt HO2.out (by rw [bvs_length, HPL.out]) k
   have HO3 : Hid (Own (w2.setCell ⟨w.heap.size + 1, k, none⟩ (.int .u8 (y.n : Int))) w.heap.size 5 (.slice (some ⟨w.heap.size + 1, 0, none⟩) n n) (bv (bs (part p q (k + 1))))) := Lib.hid (by rw [← HT.out]; exact own_set HO2.out HPL.out)
   have HF3 : Hid (FldP (w2.setCell ⟨w.heap.size + 1, k, none⟩ (.int .u8 (y.n : Int))) (some ⟨g, 0, none⟩)) := Lib.hid (FldP.of (hf2.fld.imp (fun h => h.far (by simp; omega) _) (fun h => h.far (by simp; omega) _)))
   have HP3 : Hid (Past w.heap.size g w (w2.setCell ⟨w.heap.size + 1, k, none⟩ (.int .u8 (y.n : Int)))) := Lib.hid (hP2.setCell (p := ⟨w.heap.size + 1, k, none⟩) (.inr (by simp)) _)
   have HC3 : Hid (Block (w2.setCell ⟨w.heap.size + 1, k, none⟩ (.int .u8 (y.n : Int))) w.heap.size 151 #[.pointer (some ⟨g, 0, none⟩)]) := Lib.hid (hC2.far (by simp) _)
   clear hp2 hp2' hP2 hC2 hf2 hcell hcb
   go_wp2
   go_roundw
   case rel => exact ⟨k + 1, by omega, by go_num, HO3, HF3, HP3, HC3⟩
   case measure => simp [intOf]; omega
  ·obtain rfl : k = n := by omega
   have ht : part p q k = word p q := by rw [part, List.take_of_length_le (by rw [HN.out]; exact Nat.le_refl _), HN.out, Nat.sub_self]; simp
   have hwl : (word p q).length = k := by rw [word_length, HN.out]
   rw [ht] at HO
   have HWL := Lib.hid hwl
   clear ht hwl
   go_wp2
   go_ret
   refine ⟨some ⟨w.heap.size + 1, 0, none⟩, k, by rw [HWL.out]; rfl, by rw [HWL.out]; exact Nat.le_refl _, by rw [HWL.out]; exact HO.out, HF.out, HP.out⟩
set_option maxRecDepth 100000 in
set_option maxHeartbeats 4000000 in
theorem through_calls (S : Poly.Spec) (g : Nat) (A : Option Addr) (p : List F8) (m c : Nat) (B : Option Addr) (q : List F8) (d : Nat) (w : World) (hm : p.length = m) (hb : Bytes w A (bs p)) (hc : m ≤ c) (hl : m ≤ 1000) (hn : q.length = m) (hb2 : Bytes w B (bs q)) (hd : m ≤ d) (hnd : p.Nodup)
  (hf : FldP w (some ⟨g, 0, none⟩)) (hfa : Far (some ⟨g, 0, none⟩) A p) (hfb : Far (some ⟨g, 0, none⟩) B q) :
  Calls Tryz.prog 197 #[.agg #[.pointer (some ⟨g, 0, none⟩)], .slice A m c, .slice B m d] w fun e w' => ∃ r, Thru p q r ∧ PolyRes (some ⟨g, 0, none⟩) w w' e (full r m) := by
 have hglt := hf.fld.lt
 obtain ⟨w0, hw0⟩ : ∃ w0, w.alloc (.cells #[.pointer (some ⟨g, 0, none⟩)] 151) = w0 := ⟨_, rfl⟩
 have hz0 : w0.heap.size = w.heap.size + 1 := by rw [← hw0]; simp
 have hB0 : Below w.heap.size w w0 := by rw [← hw0]; exact (Below.refl _ _).alloc (Nat.le_refl _) _
 have hbl0 : Block w0 w.heap.size 151 #[.pointer (some ⟨g, 0, none⟩)] := by rw [← hw0]; exact Block.new w _ _
 have hcb := hbl0.cell 0
 have HT := Lib.hid (S.throughP A B p q m m c d w0 hm hn (hb.below hB0) (hb2.below hB0) hc hd hl hl (some ⟨g, 0, none⟩) (hf.below hB0) hfa hfb rfl hnd)
 have HM := Lib.hid hm
 have HB0 := Lib.hid hB0
 clear hb hb2 hm hn hfa hfb hf hbl0 hB0 hnd
 go_enter Tryz.func197, Tryz.ntmps197
 go_wp2_with fail
 refine HT.out.mono ?_
 rintro e w1 ⟨r, ht, A1, c1, rfl, hc1, hO1, hF1, hP1⟩
 have hrm : r.length ≤ m := by have := thru_length ht; rwa [HM.out] at this
 have HThr := Lib.hid ht
 have hP1' : Past w0.heap.size g w0 w1 := hP1
 obtain ⟨l, hlr⟩ : ∃ l, r.length = l := ⟨_, rfl⟩
 rw [hlr] at hrm hc1 hO1 ⊢
 have hk : (m : Int) - (l : Int) = ((m - l : Nat) : Int) := by omega
 have HPW := Lib.hid ((Past.of_below HB0.out g).trans (hP1'.mono (by omega)))
 have hOv : (bv (bs r)).length = l := by rw [bvs_length, hlr]
 have hO1' : Own w1 w0.heap.size 5 (.slice A1 l c1) (bv (bs r)) := hO1
 obtain ⟨v2, w2, hrun, hO2, hg2⟩ := run_app_zeros w1 22 w0.heap.size _ (bv (bs r)) hO1' (m - l) (by omega) (by rw [hOv]; omega) hP1'.size
 have hB2 := hO1'.grew hP1'.size hg2
 have hfull : bv (bs r) ++ bv (List.replicate (m - l) 0) = bv (bs (full r m)) := by
  rw [full, List.take_of_length_le (by omega), bs_append, bv_append, hlr]
  congr 2
  unfold bs; rw [List.map_replicate]; rfl
 rw [hfull] at hO2
 have hF2 : FldP w2 (some ⟨g, 0, none⟩) := FldP.of (hF1.fld.kept_grown hg2 (by omega : g < w0.heap.size) (fun k hk => (hO1'.lt k hk).1))
 have HF2 := Lib.hid hF2
 obtain ⟨A2, c2, rfl, hc2⟩ := Own.shape hO2
 have HO2 := Lib.hid hO2
 have HP2 := Lib.hid (HPW.out.trans (Past.of_below (hB2.mono (by omega)) g))
 have HLf : Hid ((full r m).length = m) := Lib.hid (full_length r m)
 rw [HLf.out] at HO2 hc2 hrun
 clear ht hP1 hP1' hO1 hO1' hO2 hg2 hB2 hfull hF1 hF2 HPW hlr hOv
 go_wp2_with (at_builtin; refine Lib.wpList_append_run _ rfl _ _ _ _ rfl _ _ rfl rfl _ _ hrun ?_)
 go_ret
 exact ⟨r, HThr.out, A2, c2, by rw [HLf.out]; rfl, by rw [HLf.out]; exact hc2, by rw [HLf.out]; exact HO2.out.more (by omega), HF2.out, HP2.out⟩
end Go.Proofs.YtofihklinkpbiaaGreat.Rd

namespace Go.Proofs.YtofihklinkpbiaaGreat.Rd
open Go.RowKit Go.Shelf F8 Poly GF
attribute [local go_sem] Oper.semAt_some
structure Cd (w : World) (b g : Nat) (A : Option Addr) (xs : List F8) (n c k : Nat) : Prop where
 blk : Block w b 153 (codeC g A n c k)
 ne : b ≠ g
 len : xs.length = n
 cap : n ≤ c
 by_ : Bytes w A (bs xs)
 far : Far (some ⟨g, 0, none⟩) A xs
 nd : xs.Nodup
 k1 : 1 ≤ k
 kn : k ≤ n
 n256 : n ≤ 256
 fld : FldP w (some ⟨g, 0, none⟩)
theorem nodup_le : ∀ (n : Nat) (l : List Nat), l.Nodup → (∀ x ∈ l, x < n) → l.length ≤ n
 | 0, l, _, h => by cases l with | nil => exact Nat.le_refl _ | cons a l => exact absurd (h a (by simp)) (by omega)
 | n + 1, l, hn, h => by
  by_cases hm : n ∈ l
  ·have h1 := nodup_le n (l.erase n) (hn.erase n) fun x hx => by
    have := (hn.mem_erase_iff).1 hx
    have := h x this.2
    omega
   rw [List.length_erase_of_mem hm] at h1
   omega
  ·have := nodup_le n l hn fun x hx => by
    have h1 := h x hx
    have : x ≠ n := fun e => hm (e ▸ hx)
    omega
   omega
theorem nodup256 {xs : List F8} (h : xs.Nodup) : xs.length ≤ 256 := by
 have h1 : (xs.map F8.n).Nodup := by
  rw [List.nodup_iff_pairwise_ne, List.pairwise_map]
  exact (List.nodup_iff_pairwise_ne.1 h).imp fun hne e => hne (F8.n_inj.1 e)
 have h3 := nodup_le 256 _ h1 fun x hx => by
  obtain ⟨y, _, rfl⟩ := List.mem_map.1 hx
  exact y.h
 simpa using h3
section
variable {w w' : World} {b g : Nat} {A : Option Addr} {xs : List F8} {n c k : Nat}
theorem Cd.past (h : Cd w b g A xs n c k) (h1 : FldP w' (some ⟨g, 0, none⟩)) (h2 : Past w.heap.size g w w') : Cd w' b g A xs n c k :=
 { h with blk := h.blk.past h2 h.blk.lt h.ne, by_ := bytes_far h.by_ (fun hp a ha => h.far hp a _ ha rfl) h2, fld := h1 }
theorem Cd.below (h : Cd w b g A xs n c k) (hb : Below w.heap.size w w') : Cd w' b g A xs n c k :=
 h.past (h.fld.below hb) (Past.of_below hb _)
theorem Cd.drew (h : Cd w b g A xs n c k) : Cd w.drew b g A xs n c k := h.below (Below.drewN' (Below.refl _ _) 1)
end
def NewRes (w : World) (g : Nat) (xs : List F8) (n : Nat) (k : Int) (e : Ending) (w' : World) : Prop :=
 (newR xs k = 0 ∧ ∃ (b : Nat) (A : Option Addr) (c q : Nat), (q : Int) = k ∧ e = .returned (.tuple #[.pointer (some ⟨b, 0, none⟩), .int .i64 0]) ∧ w.heap.size ≤ b ∧ (∀ a, A = some a → w.heap.size ≤ a.block) ∧ Cd w' b g A xs n c q ∧ Below w.heap.size w w') ∨
 (newR xs k = 2 ∧ e = .returned (.tuple #[.pointer none, .int .i64 2]) ∧ Below w.heap.size w w')
set_option maxRecDepth 100000 in
set_option maxHeartbeats 2000000 in
theorem new_calls (g : Nat) (A : Option Addr) (p : List F8) (n c : Nat) (k : Int) (w : World) (hn : p.length = n) (hb : Bytes w A (bs p)) (hc : n ≤ c) (hn2 : n ≤ 1000000) (hf : FldP w (some ⟨g, 0, none⟩)) :
  Calls Tryz.prog 48 #[.pointer (some ⟨g, 0, none⟩), .slice A n c, .int .i64 k] w (NewRes w g p n k) := by
 by_cases h1 : k < 1
 ·have HX : Hid (newR p k = 2) := Lib.hid (if_neg (by omega))
  clear hb hf
  go_enter Tryz.func48, Tryz.ntmps48
  go_wp2
  go_ret2
  exact .inr ⟨HX.out, rfl, Below.refl _ _⟩
 by_cases h2 : (n : Int) < k
 ·have HX : Hid (newR p k = 2) := Lib.hid (if_neg (by omega))
  clear hb hf
  go_enter Tryz.func48, Tryz.ntmps48
  go_wp2
  go_ret2
  exact .inr ⟨HX.out, rfl, Below.refl _ _⟩
 by_cases hnd : p.Nodup
 ·have HT : Hid ((!decide p.Nodup) = false) := Lib.hid (by rw [decide_eq_true hnd]; rfl)
  have HX : Hid (newR p k = 0) := Lib.hid (if_pos ⟨hnd, by omega, by omega⟩)
  have HND := Lib.hid hnd
  have HB := Lib.hid hb
  have HN := Lib.hid hn
  have HF := Lib.hid hf
  have hglt := hf.fld.lt
  clear hb hf hnd hn
  go_enter Tryz.func48, Tryz.ntmps48
  go_wp2_with (go_at_call 98; refine (repeat_calls A p n c _ HN.out HB.out hn2).mono ?_; rintro e w1 ⟨rfl, hB1⟩; rw [HT.out])
  have hs1 := hB1.size
  refine (Poly.clone_calls A p n c _ HN.out (HB.out.below hB1) hc hn2).mono ?_
  rintro e w2 ⟨A2, c2, rfl, hc2, hO2, hB2⟩
  rw [HN.out] at hc2 hO2 ⊢
  go_wp2
  go_ret2
  obtain ⟨q, rfl⟩ : ∃ q : Nat, k = (q : Int) := ⟨k.toNat, by omega⟩
  have hs2 := hB2.size
  have hBW := hB1.trans (hB2.mono hs1)
  have hBW2 := hBW.alloc (by omega) (.cells #[.pointer (some ⟨g, 0, none⟩), .slice A2 n c2, .int .i64 (q : Int)] 153)
  have hblk : ∀ a, A2 = some a → w.heap.size ≤ a.block := fun a ha => Nat.le_trans hs1 (own_block hO2 a ha)
  refine .inl ⟨HX.out, w2.heap.size, A2, c2, q, rfl, rfl, by omega, hblk, ⟨Block.new _ _ _, by omega, HN.out, hc2, (Own.bytes hO2).alloc _, ?_, HND.out, by omega, by omega, by have := nodup256 HND.out; rw [HN.out] at this; exact this, HF.out.below hBW2⟩, hBW2⟩
  intro _ a b ha hb
  cases hb
  have := hblk a ha
  simp; omega
 ·have HT : Hid ((!decide p.Nodup) = true) := Lib.hid (by rw [decide_eq_false hnd]; rfl)
  have HX : Hid (newR p k = 2) := Lib.hid (if_neg (fun h => hnd h.1))
  have HB := Lib.hid hb
  have HN := Lib.hid hn
  clear hb hf hnd hn
  go_enter Tryz.func48, Tryz.ntmps48
  go_wp2_with (go_at_call 98; refine (repeat_calls A p n c _ HN.out HB.out hn2).mono ?_; rintro e w1 ⟨rfl, hB1⟩; rw [HT.out])
  go_ret2
  exact .inr ⟨HX.out, rfl, hB1⟩
section
variable {w : World} {b g : Nat} {A : Option Addr} {xs : List F8} {n c k : Nat} (h : Cd w b g A xs n c k)
include h
theorem k_calls : Calls Tryz.prog 68 #[.pointer (some ⟨b, 0, none⟩)] w fun e w' => e = .returned (.int .i64 k) ∧ w = w' := by
 have h2 := h.blk.cell 2
 simp only [codeC] at h2
 go_enter Tryz.func68, Tryz.ntmps68
 go_wp2_with (go_at_call 126; refine (isNone_calls h.blk h.k1).mono ?_; rintro e w1 ⟨rfl, rfl⟩)
 go_ret
 exact ⟨rfl, rfl⟩
theorem field_calls : Calls Tryz.prog 160 #[.pointer (some ⟨b, 0, none⟩)] w fun e w' => e = .returned (.pointer (some ⟨g, 0, none⟩)) ∧ w = w' := by
 have h2 := h.blk.cell 0
 simp only [codeC] at h2
 go_enter Tryz.func160, Tryz.ntmps160
 go_wp2_with (go_at_call 126; refine (isNone_calls h.blk h.k1).mono ?_; rintro e w1 ⟨rfl, rfl⟩)
 go_ret
 exact ⟨rfl, rfl⟩
theorem points_calls : Calls Tryz.prog 117 #[.pointer (some ⟨b, 0, none⟩)] w fun e w' => ROwn w xs n e w' := by
 have h2 := h.blk.cell 1
 simp only [codeC] at h2
 go_enter Tryz.func117, Tryz.ntmps117
 go_wp2_with (first
  | (go_at_call 126; refine (isNone_calls h.blk h.k1).mono ?_; rintro e w1 ⟨rfl, rfl⟩)
  | (go_at_call 99; refine (Poly.clone_calls A xs n c _ h.len h.by_ h.cap (by have := h.n256; omega)).mono ?_; rintro e w2 ⟨A2, c2, rfl, hc2, hO2, hB2⟩; rw [h.len] at hc2 hO2 ⊢))
 go_ret
 exact ⟨A2, c2, rfl, hc2, hO2, hB2⟩
end
theorem k_nil (w : World) : Calls Tryz.prog 68 #[.pointer none] w fun e w' => e = .returned (.int .i64 0) ∧ w = w' := by
 go_enter Tryz.func68, Tryz.ntmps68
 go_wp2_with (go_at_call 126; refine (isNone_nil _).mono ?_; rintro e w1 ⟨rfl, rfl⟩)
 go_ret
 exact ⟨rfl, rfl⟩
set_option maxRecDepth 100000 in
set_option maxHeartbeats 4000000 in
theorem encode_calls (S : Poly.Spec) {w : World} {b g : Nat} {A : Option Addr} {xs : List F8} {n c k : Nat} (h : Cd w b g A xs n c k) (B : Option Addr) (q : List F8) (m d : Nat) (hm : q.length = m) (hb : Bytes w B (bs q)) (hd : m ≤ d) (hl : m ≤ 1000) (hfar : Far (some ⟨g, 0, none⟩) B q) :
  Calls Tryz.prog 69 #[.pointer (some ⟨b, 0, none⟩), .slice B m d] w fun e w' => PolyResE (some ⟨g, 0, none⟩) w w' e (encR xs k q).1 (encR xs k q).2 := by
 have h0 := h.blk.cell 0
 have h1 := h.blk.cell 1
 have h2 := h.blk.cell 2
 simp only [codeC] at h0 h1 h2
 have HV := Lib.hid (values_calls S g B q m d A xs n c w.drew hm hb.drew hd hl h.len h.by_.drew (by have := h.n256; omega) h.drew.fld hfar h.far)
 have HC := Lib.hid h
 by_cases hk : m = k
 ·have e1 : encR xs k q = (word q xs, 0) := if_pos (by omega)
  have k2 : ((m : Int) != (k : Int)) = false := by simp; omega
  rw [e1]
  clear e1 hk hb hfar hm h
  go_enter Tryz.func69, Tryz.ntmps69
  go_wp2_with (go_at_call 126; refine (isNone_calls HC.out.blk HC.out.k1).mono ?_; rintro e w1 ⟨rfl, rfl⟩)
  go_region_with (go_at_call 127; refine HV.out.mono ?_; rintro e w2 ⟨A2, c2, rfl, hc2, hO2, hF2, hP2⟩)
  all_goals
   go_wp2
   go_ret2
   exact ⟨A2, c2, rfl, hc2, hO2, hF2, (Past.refl _ _ _).drew.trans hP2⟩
 ·have e1 : encR xs k q = ([], 2) := if_neg (by omega)
  have k2 : ((m : Int) != (k : Int)) = true := by simp; omega
  rw [e1]
  clear e1 hk hb hfar hm h HV
  go_enter Tryz.func69, Tryz.ntmps69
  go_wp2_with (go_at_call 126; refine (isNone_calls HC.out.blk HC.out.k1).mono ?_; rintro e w1 ⟨rfl, rfl⟩)
  go_ret2
  exact ⟨none, 0, rfl, Nat.le_refl _, Own.nil _ _ _, HC.out.fld, Past.refl _ _ _⟩
end Go.Proofs.YtofihklinkpbiaaGreat.Rd

namespace Go.Proofs.YtofihklinkpbiaaGreat.Ms
open Go.RowKit Go.Shelf F8 Poly GF Rd
structure BF (g : Nat) (w : World) (A : Option Addr) (p : List F8) : Prop where
 by_ : Bytes w A (bs p)
 far : Far (some ⟨g, 0, none⟩) A p
section
variable {g : Nat} {w w' : World} {A : Option Addr} {p : List F8}
theorem BF.past (h : BF g w A p) (hp : Past w.heap.size g w w') : BF g w' A p := ⟨bytes_far h.by_ (fun hq a ha => h.far hq a _ ha rfl) hp, h.far⟩
theorem BF.below (h : BF g w A p) (hb : Below w.heap.size w w') : BF g w' A p := h.past (Past.of_below hb g)
theorem BF.own {B n c : Nat} (hf : FldP w (some ⟨g, 0, none⟩)) (h : Own w B 5 (.slice A n c) (bv (bs p))) : BF g w A p := ⟨Own.bytes h, far_own hf.fld h⟩
end
structure El where
 p : Int
 A : Option Addr
 s : List F8
 c : Nat
def El.cs (e : El) : List Value := [.int .i64 e.p, .slice e.A e.s.length e.c]
def El.v (e : El) : Value := .slice e.A e.s.length e.c
def cells2 (l : List El) : List Value := l.flatMap El.cs
def cells1 (l : List El) : List Value := l.map El.v
theorem cells2_length (l : List El) : (cells2 l).length = l.length * 2 := by
 unfold cells2
 induction l with
 | nil => rfl
 | cons e l ih => rw [List.flatMap_cons, List.length_append, ih]; simp [El.cs]; omega
theorem cells2_append (l r : List El) : cells2 (l ++ r) = cells2 l ++ cells2 r := by unfold cells2; rw [List.flatMap_append]
theorem cells1_append (l r : List El) : cells1 (l ++ r) = cells1 l ++ cells1 r := by unfold cells1; rw [List.map_append]
theorem cells2_get : ∀ {l : List El} {i : Nat} {e : El}, l[i]? = some e → (cells2 l)[i * 2]? = some (.int .i64 e.p) ∧ (cells2 l)[i * 2 + 1]? = some e.v
 | [], i, e, h => by simp at h
 | x :: l, 0, e, h => by
  simp only [List.getElem?_cons_zero, Option.some.injEq] at h
  subst h
  exact ⟨rfl, rfl⟩
 | x :: l, i + 1, e, h => by
  have := cells2_get (l := l) (i := i) (e := e) (by simpa using h)
  show ((x.cs ++ cells2 l)[(i + 1) * 2]? = _) ∧ ((x.cs ++ cells2 l)[(i + 1) * 2 + 1]? = _)
  rw [List.getElem?_append_right (by simp [El.cs]; omega), List.getElem?_append_right (by simp [El.cs]; omega)]
  have e1 : (i + 1) * 2 - x.cs.length = i * 2 := by simp [El.cs]; omega
  have e2 : (i + 1) * 2 + 1 - x.cs.length = i * 2 + 1 := by simp [El.cs]; omega
  rw [e1, e2]; exact this
theorem cells2_one (l : List El) : ∀ u ∈ cells2 l, u.oneCell' = true := by
 intro u hu
 obtain ⟨e, _, he⟩ := List.mem_flatMap.1 hu
 simp [El.cs] at he
 rcases he with rfl | rfl <;> rfl
theorem cells1_one (l : List El) : ∀ u ∈ cells1 l, u.oneCell' = true := by
 intro u hu; obtain ⟨e, _, rfl⟩ := List.mem_map.1 hu; rfl
def Lst (g : Nat) (w : World) (l : List El) : Prop := ∀ e ∈ l, BF g w e.A e.s ∧ e.s.length ≤ e.c
section
variable {g : Nat} {w w' : World} {l r : List El}
theorem Lst.past (h : Lst g w l) (hp : Past w.heap.size g w w') : Lst g w' l := fun e he => ⟨(h e he).1.past hp, (h e he).2⟩
theorem Lst.below (h : Lst g w l) (hb : Below w.heap.size w w') : Lst g w' l := h.past (Past.of_below hb g)
theorem Lst.sub (h : Lst g w l) (hs : ∀ e ∈ r, e ∈ l) : Lst g w r := fun e he => h e (hs e he)
end
theorem fc_form (d s : Int) (k i : Nat) : ∃ kd z, fc d s k i = .int kd z ∧ kd ≠ .i64 := by
 unfold fc
 split
 ·exact ⟨_, _, rfl, by decide⟩
 ·split
  ·exact ⟨_, _, rfl, by decide⟩
  ·split
   ·exact ⟨_, _, rfl, by decide⟩
   ·split <;> exact ⟨_, _, rfl, by decide⟩
theorem fc_kind {d s : Int} {k i : Nat} {u : Value} (hu : (∃ z, u = .int .i64 z) ∨ ∃ e : El, u = e.v) : fc d s k i ≠ u := by
 obtain ⟨kd, z, h, hne⟩ := fc_form d s k i
 rw [h]
 intro e
 rcases hu with ⟨z', rfl⟩ | ⟨x, rfl⟩
 ·injection e with e1 _; exact hne e1
 ·simp [El.v] at e
theorem fld_not {w : World} {g i : Nat} {u : Value} (h : Fld w g) (hu : (∃ z, u = .int .i64 z) ∨ ∃ e : El, u = e.v) : w.cell? ⟨g, i, none⟩ ≠ some u := by
 have key : ∀ {d s : Int} {k : Nat}, Block w g 98 (fcells d s k) → w.cell? ⟨g, i, none⟩ ≠ some u := fun {d s k} hb he => by
  have h1 := hb.cell i
  rw [he] at h1
  by_cases hi : i < 514
  ·rw [fcells_get _ _ _ _ hi] at h1
   injection h1 with h1
   exact fc_kind hu h1.symm
  ·rw [Array.getElem?_eq_none (by simp [fcells]; omega)] at h1
   cases h1
 rcases h with h | h
 ·exact key h
 ·exact key h
theorem row_keep {g : Nat} {w w' : World} {A : Option Addr} {xs : List Value} (h : Row w A xs) (hf : Fld w g) (hk : ∀ u ∈ xs, (∃ z, u = .int .i64 z) ∨ ∃ e : El, u = e.v) (hp : Past w.heap.size g w w') : Row w' A xs := by
 intro k u hu
 obtain ⟨b, off, rfl, hc⟩ := h k u hu
 refine ⟨b, off, rfl, ?_⟩
 have hb : b ≠ g := by
  rintro rfl
  exact fld_not hf (hk u (List.mem_of_getElem? hu)) hc
 have hlt : b < w.heap.size := cell_lt hc
 simp only [World.cell?] at hc ⊢
 rw [hp.block b hlt hb]
 exact hc
theorem cells2_kind (l : List El) : ∀ u ∈ cells2 l, (∃ z, u = .int .i64 z) ∨ ∃ e : El, u = e.v := by
 intro u hu
 obtain ⟨e, _, he⟩ := List.mem_flatMap.1 hu
 simp [El.cs] at he
 rcases he with rfl | rfl
 ·exact .inl ⟨_, rfl⟩
 ·exact .inr ⟨e, rfl⟩
structure Els (g : Nat) (w : World) (A : Option Addr) (l : List El) : Prop where
 row : Row w A (cells2 l)
 lst : Lst g w l
section
variable {g : Nat} {w w' : World} {A : Option Addr} {l : List El}
theorem Els.past (h : Els g w A l) (hf : Fld w g) (hp : Past w.heap.size g w w') : Els g w' A l := ⟨row_keep h.row hf (cells2_kind l) hp, h.lst.past hp⟩
theorem Els.below (h : Els g w A l) (hb : Below w.heap.size w w') : Els g w' A l := ⟨h.row.below hb, h.lst.below hb⟩
theorem Els.at_ (h : Els g w A l) {i : Nat} (hi : i < l.length) : ∃ b off, A = some ⟨b, off, none⟩ ∧ w.cell? ⟨b, off + i * 2, none⟩ = some (.int .i64 (l[i]).p) ∧ w.cell? ⟨b, off + i * 2 + 1, none⟩ = some (.slice (l[i]).A (l[i]).s.length (l[i]).c) := by
 obtain ⟨h1, h2⟩ := cells2_get (List.getElem?_eq_getElem hi)
 obtain ⟨b, off, e, hc⟩ := h.row _ _ h1
 obtain ⟨b', off', e', hc'⟩ := h.row _ _ h2
 rw [e] at e'
 cases e'
 exact ⟨b, off, e, hc, by rw [← Nat.add_assoc] at hc'; exact hc'⟩
end
def OwnK (k : Nat) (w : World) (B : Nat) (e : TypeId) (v : Value) (n : Nat) (xs : List Value) : Prop := w.ownsRow B e k v n xs
section
variable {k B n : Nat} {w w' : World} {e : TypeId} {v : Value} {xs : List Value}
theorem OwnK.nil (k : Nat) (w : World) (B : Nat) (e : TypeId) : OwnK k w B e (.slice none 0 0) 0 [] := ⟨by simp, .inl ⟨rfl, rfl⟩⟩
theorem OwnK.alloc (h : OwnK k w B e v n xs) (o : Obj) : OwnK k (w.alloc o) B e v n xs := World.ownsRow.alloc h o
theorem OwnK.drew (h : OwnK k w B e v n xs) : OwnK k w.drew B e v n xs := h
theorem OwnK.grown {row : Option Nat} (h : OwnK k w B e v n xs) (hg : w.grownBy w' row) (hne : v.ownBlock = none ∨ v.ownBlock ≠ row) : OwnK k w' B e v n xs := World.ownsRow.kept h hg hne
theorem OwnK.below (h : OwnK k w B e v n xs) (hb : Below w.heap.size w w') : OwnK k w' B e v n xs :=
 h.grown (row := none) ⟨hb.os, hb.tape, hb.output, hb.size, fun k hk _ => hb.block k hk⟩ (by cases v.ownBlock <;> simp)
theorem OwnK.more {B' : Nat} (h : OwnK k w B e v n xs) (hB : B' ≤ B) : OwnK k w B' e v n xs := by
 refine ⟨h.1, ?_⟩
 rcases h.2 with h2 | ⟨g, cap, cur, h1, h2, h3⟩
 ·exact .inl h2
 ·exact .inr ⟨g, cap, cur, h1, by omega, h3⟩
theorem OwnK.shape (h : OwnK k w B e v n xs) : ∃ A c, v = .slice A n c ∧ n ≤ c ∧ Row w A xs ∧ ∀ a, A = some a → B ≤ a.block ∧ a.block < w.heap.size := by
 have hh := h
 rcases h.2 with ⟨rfl, hn⟩ | ⟨g, cap, cur, rfl, h2, h3, h4, h5, h6, h7⟩
 ·have : xs = [] := List.eq_nil_of_length_eq_zero (by rw [h.1, hn]; simp)
  subst this; subst hn
  exact ⟨none, 0, rfl, Nat.le_refl _, Row.nil _ _, fun a ha => by cases ha⟩
 ·refine ⟨some ⟨g, 0, none⟩, cap, rfl, h4, fun j u hu => ⟨g, 0, rfl, ?_⟩, fun a ha => by cases ha; exact hh.lt g rfl⟩
  have hk : j < n * k := by have := h.1; have := (List.getElem?_eq_some_iff.1 hu).1; omega
  rw [← h7, List.getElem?_take, if_pos hk, Array.getElem?_toList] at hu
  simp [World.cell?, h3, hu]
theorem OwnK.els {g : Nat} {l : List El} {A : Option Addr} {c : Nat} (h : OwnK 2 w B e (.slice A n c) n (cells2 l)) (hl : Lst g w l) : Els g w A l := by
 obtain ⟨A', c', e1, _, hr, _⟩ := OwnK.shape h
 injection e1 with e2 _ _
 subst e2
 exact ⟨hr, hl⟩
end
section
variable {P : Program} (w : World)
theorem run_appK (k B : Nat) (t ty e : TypeId) (z : Value) (bytes : Nat) (ht : P.underlying t = some (.slice e)) (hinfo : (P.info? e).map (fun i => (i.zero, i.size, i.bytes)) = some (some z, k, bytes)) (hz : z.cells.size = k) (hk : 0 < k)
  (v : Value) (n : Nat) (xs : List Value) (hown : OwnK k w B e v n xs) (ad : Addr) (m c : Nat) (ys : List Value) (hm : ys.length = m * k) (hr : Row w (some ad) ys) (h1 : ∀ u ∈ ys, u.oneCell' = true)
  (hb : 0 < bytes) (hlen : (n + m) * bytes ≤ 140737488355328) (hB : B ≤ w.heap.size) :
  ∃ v' w', (Builtin.append_ #[t, t] ty #[v, .slice (some ad) m c]).run P w = .ok v' w' ∧ OwnK k w' B e v' (n + m) (xs ++ ys) ∧ w.grownBy w' v.ownBlock ∧ (v'.ownBlock = v.ownBlock ∨ v'.ownBlock = some w.heap.size) := by
 obtain ⟨i, hi, hi1, hi2, hi3⟩ := info_parts hinfo
 have h63 : n + m ≤ maxLen := by
  have := Nat.le_mul_of_pos_right (n + m) hb
  simp only [maxLen]; omega
 have hcells : ∀ j u, ys[j]? = some u → w.cell? (ad.add j) = some u := by
  intro j u hu
  obtain ⟨b, off, h, hc⟩ := hr j u hu
  obtain rfl : ad = ⟨b, off, none⟩ := by injection h
  rw [show (⟨b, off, none⟩ : Addr).add j = ⟨b, off + j, none⟩ by unfold Addr.add; split <;> simp_all]
  exact hc
 obtain ⟨v', w', hrun, h2, h3, _, h5⟩ := run_append_own_at (P := P) w B t ty e i z k bytes ht hi hi1 hi2 hi3 hz hk v n xs hown ad m c ys hm hcells h1 h63 hlen hB
 exact ⟨v', w', hrun, h2, h3, h5⟩
theorem wp_appK {o : Oper} {a : Act} {K : Act → World → Prop} {Q : Exit → Act → World → Prop} (k : Nat) (s x : Operand) (t : TypeId)
  (ho : o.op = .call { callee := .builtin .append, args := #[s, x], argTypes := #[t, t] })
  (B : Nat) (e : TypeId) (z : Value) (bytes : Nat) (ht : P.underlying t = some (.slice e)) (hinfo : (P.info? e).map (fun i => (i.zero, i.size, i.bytes)) = some (some z, k, bytes)) (hz : z.cells.size = k) (hk : 0 < k) (hb : 0 < bytes)
  (v : Value) (n : Nat) (xs : List Value) (hs : a.eval s = v) (hown : OwnK k w B e v n xs) (ad : Addr) (m c : Nat) (ys : List Value) (hx : a.eval x = .slice (some ad) m c) (hm : ys.length = m * k) (hr : Row w (some ad) ys) (h1 : ∀ u ∈ ys, u.oneCell' = true)
  (hlen : (n + m) * bytes ≤ 140737488355328) (hB : B ≤ w.heap.size)
  (h : ∀ v' w', OwnK k w' B e v' (n + m) (xs ++ ys) → w.grownBy w' v.ownBlock → (v'.ownBlock = v.ownBlock ∨ v'.ownBlock = some w.heap.size) → K (a.put o.dst v') w') : o.wp P a w K Q := by
 obtain ⟨v', w', hrun, h2, h3, h4⟩ := run_appK (P := P) w k B t o.type e z bytes ht hinfo hz hk v n xs hown ad m c ys hm hr h1 hb hlen hB
 unfold Oper.wp execOp
 simp only [ho, resolve, invoke, builtin, Sem.run_bind, Sem.run_pure, Result.andThen_ok, List.map_toArray, List.map_cons, List.map_nil, hs, hx, hrun]
 exact h v' w' h2 h3 h4
theorem wpList_appK {ops : Array Oper} {rest : List Oper} {o : Oper} {a : Act} {Q : Exit → Act → World → Prop} (hgd : o.guard = none) (k : Nat) (s x : Operand) (t : TypeId)
  (ho : o.op = .call { callee := .builtin .append, args := #[s, x], argTypes := #[t, t] })
  (B : Nat) (e : TypeId) (z : Value) (bytes : Nat) (ht : P.underlying t = some (.slice e)) (hinfo : (P.info? e).map (fun i => (i.zero, i.size, i.bytes)) = some (some z, k, bytes)) (hz : z.cells.size = k) (hk : 0 < k) (hb : 0 < bytes)
  (v : Value) (n : Nat) (xs : List Value) (hs : a.eval s = v) (hown : OwnK k w B e v n xs) (ad : Addr) (m c : Nat) (ys : List Value) (hx : a.eval x = .slice (some ad) m c) (hm : ys.length = m * k) (hr : Row w (some ad) ys) (h1 : ∀ u ∈ ys, u.oneCell' = true)
  (hlen : (n + m) * bytes ≤ 140737488355328) (hB : B ≤ w.heap.size)
  (h : ∀ v' w', OwnK k w' B e v' (n + m) (xs ++ ys) → w.grownBy w' v.ownBlock → (v'.ownBlock = v.ownBlock ∨ v'.ownBlock = some w.heap.size) → wpList P ops Q rest (a.put o.dst v') w') : wpList P ops Q (o :: rest) a w :=
 wpList_plain hgd fun _ hK => wp_appK w k s x t ho B e z bytes ht hinfo hz hk hb v n xs hs hown ad m c ys hx hm hr h1 hlen hB fun v' w' h2 h3 h4 => hK _ _ (h v' w' h2 h3 h4)
end
theorem OwnK.grew {k B n : Nat} {w w' : World} {e : TypeId} {v : Value} {xs : List Value} (h : OwnK k w B e v n xs) (hB : B ≤ w.heap.size) (hg : w.grownBy w' v.ownBlock) : Below B w w' :=
 (Below.refl B w).grown hg hB (fun b hk => by
  obtain ⟨A, c, rfl, _, _, ha⟩ := h.shape
  cases A with
  | none => simp [Value.ownBlock] at hk
  | some a => simp [Value.ownBlock] at hk; rw [← hk]; exact (ha a rfl).1)
def LstO (w : World) (B : Nat) (l : List El) : Prop := ∀ e ∈ l, Own w B 5 e.v (bv (bs e.s))
theorem own_apart {k B1 B2 n : Nat} {w : World} {e1 e2 : TypeId} {v1 v2 : Value} {xs1 xs2 : List Value} (h1 : Own w B1 e1 v1 xs1) (h2 : OwnK k w B2 e2 v2 n xs2) (hne : e1 ≠ e2) : v1.ownBlock = none ∨ v1.ownBlock ≠ v2.ownBlock := by
 rcases h1.2 with ⟨rfl, _⟩ | ⟨g, cap, cur, rfl, _, hg, _⟩
 ·exact .inl rfl
 ·right
  intro e
  rcases h2.2 with ⟨rfl, _⟩ | ⟨g', cap', cur', rfl, _, hg', _⟩
  ·simp [Value.ownBlock] at e
  ·simp [Value.ownBlock] at e
   subst e
   rw [hg] at hg'
   injection hg' with e1
   injection e1 with _ e2 _
   exact hne e2
section
variable {w w' : World} {B g : Nat} {l r : List El}
theorem LstO.nil (w : World) (B : Nat) : LstO w B [] := fun _ h => by simp at h
theorem LstO.append (h : LstO w B l) (h' : LstO w B r) : LstO w B (l ++ r) := fun e he => (List.mem_append.1 he).elim (h e) (h' e)
theorem LstO.one {e : El} (h : Own w B 5 e.v (bv (bs e.s))) : LstO w B [e] := fun x hx => by simp at hx; subst hx; exact h
theorem LstO.below (h : LstO w B l) (hb : Below w.heap.size w w') : LstO w' B l := fun e he => (h e he).below hb
theorem LstO.grown {k B2 n : Nat} {t : TypeId} {v : Value} {xs : List Value} (h : LstO w B l) (h2 : OwnK k w B2 t v n xs) (ht : 5 ≠ t) (hg : w.grownBy w' v.ownBlock) : LstO w' B l :=
 fun e he => (h e he).grown hg (own_apart (h e he) h2 ht)
theorem LstO.lst (h : LstO w B l) (hf : FldP w (some ⟨g, 0, none⟩)) : Lst g w l := fun e he => by
 have ho := h e he
 obtain ⟨A, c, e1, hc⟩ := Own.shape ho
 injection e1 with e2 _ e3
 exact ⟨BF.own hf (show Own w B 5 (.slice e.A e.s.length e.c) (bv (bs e.s)) from ho), by omega⟩
end
theorem info_bs : (Tryz.prog.info? 22).map (fun i => (i.zero, i.size, i.bytes)) = some (some (.slice none 0 0), 1, 24) := by kernel_rfl
theorem cells1_at {w : World} {A : Option Addr} {l : List El} (h : Row w A (cells1 l)) {i : Nat} (hi : i < l.length) : ∃ b off, A = some ⟨b, off, none⟩ ∧ w.cell? ⟨b, off + i, none⟩ = some (.slice (l[i]).A (l[i]).s.length (l[i]).c) := by
 obtain ⟨b, off, e, hc⟩ := h i (.slice (l[i]).A (l[i]).s.length (l[i]).c) (by simp [cells1, hi, El.v])
 exact ⟨b, off, e, hc⟩
def shE (l : List El) : List (Int × List F8) := l.map fun e => (e.p, e.s)
theorem shE_length (l : List El) : (shE l).length = l.length := by simp [shE]
theorem row2_at {w : World} {A : Option Addr} {l : List El} (h : Row w A (cells2 l)) {i : Nat} (hi : i < l.length) : ∃ b off, A = some ⟨b, off, none⟩ ∧ w.cell? ⟨b, off + i * 2, none⟩ = some (.int .i64 (l[i]).p) ∧ w.cell? ⟨b, off + i * 2 + 1, none⟩ = some (.slice (l[i]).A (l[i]).s.length (l[i]).c) := by
 obtain ⟨h1, h2⟩ := cells2_get (List.getElem?_eq_getElem hi)
 obtain ⟨b, off, e, hc⟩ := h _ _ h1
 obtain ⟨b', off', e', hc'⟩ := h _ _ h2
 rw [e] at e'
 cases e'
 exact ⟨b, off, e, hc, by rw [← Nat.add_assoc] at hc'; exact hc'⟩
theorem own1_of {w : World} {B n : Nat} {e : TypeId} {v : Value} {xs : List Value} (h : OwnK 1 w B e v n xs) : Own w B e v xs ∧ xs.length = n := by
 have h1 := h.1
 rw [Nat.mul_one] at h1
 unfold Own
 rw [h1]
 exact ⟨h, rfl⟩
theorem bf_new {g : Nat} {V : World} (hf : Fld V g) (cs : Array Value) (p : List F8) (h : cs.toList = bv (bs p)) : BF g (V.alloc (.cells cs 5)) (some ⟨V.heap.size, 0, none⟩) p := by
 refine ⟨⟨?_, bs_lt p⟩, fun _ a b ha hb => ?_⟩
 ·have := Row.new V cs 5 (0, 0)
  rw [h] at this
  exact this
 ·cases ha; cases hb
  have := hf.lt
  show V.heap.size ≠ g
  omega
structure Shs (g : Nat) (w : World) (A : Option Addr) (l : List El) : Prop where
 row : Row w A (cells1 l)
 lst : Lst g w l
theorem Shs.below {g : Nat} {w w' : World} {A : Option Addr} {l : List El} (h : Shs g w A l) (hb : Below w.heap.size w w') : Shs g w' A l := ⟨h.row.below hb, h.lst.below hb⟩
end Go.Proofs.YtofihklinkpbiaaGreat.Ms

namespace Go.Proofs.YtofihklinkpbiaaGreat.Ms
open Go.RowKit Go.Shelf F8 Poly GF Rd
attribute [local go_sem] Oper.semAt_some
set_option maxRecDepth 100000 in
set_option maxHeartbeats 1000000 in
theorem index_calls (A : Option Addr) (l : List Int) (m c : Nat) (x : Int) (w : World) (hl : l.length = m) (hm : m ≤ 1000000) (hr : Row w A (zs l)) :
  Calls Tryz.prog 148 #[.slice A m c, .int .i64 x] w fun e w' => ∃ z : Int, e = .returned (.int .i64 z) ∧ ((z = -1 ∧ x ∉ l) ∨ (0 ≤ z ∧ x ∈ l)) ∧ w = w' := by
 have HR := Lib.hid hr
 have HM := Lib.hid hl
 clear hr hl
 go_enter Tryz.func148, Tryz.ntmps148
 go_wp2
 go_loopw [8] (fun i wr => ∃ t : Nat, t ≤ m ∧ i = .int .i64 t ∧ Hid (x ∉ l.take t) ∧ w = wr) (fun i _ => m - (intOf i).toNat)
 case atStart => exact ⟨0, by omega, rfl, Lib.hid (by simp), rfl⟩
 case round =>
  obtain ⟨t, ht, rfl, HN, rfl⟩ := hrel
  by_cases htm : t < m
  ·have hti : t < l.length := by rw [HM.out]; exact htm
   obtain ⟨b, off, rfl, hcell⟩ := zs_at HR.out hti
   have HE : Hid (l.take (t + 1) = l.take t ++ [l[t]]) := Lib.hid (take_succ' l hti)
   have HI : Hid (l[t] ∈ l) := Lib.hid (List.getElem_mem hti)
   obtain ⟨y, hy⟩ : ∃ y, l[t] = y := ⟨_, rfl⟩
   rw [hy] at hcell HE HI
   by_cases hxy : x = y
   ·have hb : ((x : Int) == y) = true := by simp [hxy]
    have HX : Hid (x ∈ l) := Lib.hid (by rw [hxy]; exact HI.out)
    clear hy hxy
    go_wp2
    go_ret
    exact ⟨t, rfl, .inr ⟨by omega, HX.out⟩, rfl⟩
   ·have hb : ((x : Int) == y) = false := by simp [hxy]
    have HN2 : Hid (x ∉ l.take (t + 1)) := Lib.hid (by rw [HE.out]; simp; exact ⟨HN.out, hxy⟩)
    clear hy hxy
    go_wp2
    go_roundw
    case rel => exact ⟨t + 1, by omega, by go_num, HN2, by first | rfl | trivial⟩
    case measure => simp [intOf]; omega
  ·obtain rfl : t = m := by omega
   have hn := HN.out
   rw [List.take_of_length_le (by rw [HM.out]; exact Nat.le_refl _)] at hn
   have HX := Lib.hid hn
   clear hn HN
   go_wp2
   go_ret
   exact ⟨-1, rfl, .inl ⟨rfl, HX.out⟩, rfl⟩
theorem contains_calls (A : Option Addr) (l : List Int) (m c : Nat) (x : Int) (w : World) (hl : l.length = m) (hm : m ≤ 1000000) (hr : Row w A (zs l)) :
  Calls Tryz.prog 107 #[.slice A m c, .int .i64 x] w fun e w' => e = .returned (.bool (decide (x ∈ l))) ∧ w = w' := by
 have HI := Lib.hid (index_calls A l m c x w hl hm hr)
 clear hr hl
 go_enter Tryz.func107, Tryz.ntmps107
 go_wp2_with fail
 refine HI.out.mono ?_
 rintro e w1 ⟨z, rfl, hz, rfl⟩
 rcases hz with ⟨rfl, hx⟩ | ⟨hz, hx⟩
 ·have HX : Hid (decide (x ∈ l) = false) := Lib.hid (decide_eq_false hx)
  clear hx
  go_wp2
  go_ret
  exact ⟨by rw [HX.out]; rfl, rfl⟩
 ·have HX : Hid (decide (x ∈ l) = true) := Lib.hid (decide_eq_true hx)
  have hd : decide (z ≥ 0) = true := by simpa using hz
  clear hx
  go_wp2
  go_ret
  exact ⟨by rw [HX.out]; rfl, rfl⟩
end Go.Proofs.YtofihklinkpbiaaGreat.Ms

namespace Go.Proofs.YtofihklinkpbiaaGreat.Sy
open Go.RowKit Go.Shelf F8 Poly GF Rd Ms
attribute [local go_sem] Oper.semAt_some
theorem isNode_calls (z : Int) (n : Nat) (w : World) : Calls Tryz.prog 57 #[.int .i64 z, .int .i64 n] w fun e w' => e = .returned (.bool (decide (0 ≤ z ∧ z < (n : Int)))) ∧ w = w' := by
 by_cases h0 : 0 ≤ z
 ·have h2 : decide (0 ≤ z) = true := decide_eq_true h0
  by_cases h1 : z < (n : Int)
  ·have h3 : decide (z < (n : Int)) = true := decide_eq_true h1
   have HB : Hid (decide (0 ≤ z ∧ z < (n : Int)) = true) := Lib.hid (decide_eq_true ⟨h0, h1⟩)
   go_enter Tryz.func57, Tryz.ntmps57
   go_wp2
   go_ret
   first | exact ⟨ret_bool HB.out.symm, rfl⟩ | exact ⟨rfl, rfl⟩
  ·have h3 : decide (z < (n : Int)) = false := decide_eq_false h1
   have HB : Hid (decide (0 ≤ z ∧ z < (n : Int)) = false) := Lib.hid (decide_eq_false (fun e => h1 e.2))
   go_enter Tryz.func57, Tryz.ntmps57
   go_wp2
   go_ret
   first | exact ⟨ret_bool HB.out.symm, rfl⟩ | exact ⟨rfl, rfl⟩
 ·have h2 : decide (0 ≤ z) = false := decide_eq_false h0
  have HB : Hid (decide (0 ≤ z ∧ z < (n : Int)) = false) := Lib.hid (decide_eq_false (fun e => h0 e.1))
  go_enter Tryz.func57, Tryz.ntmps57
  go_wp2
  go_ret
  first | exact ⟨ret_bool HB.out.symm, rfl⟩ | exact ⟨rfl, rfl⟩
def VOk (n s : Nat) (ps : List Int) (sh : List (Int × Nat)) : Prop := (sh.map Prod.fst).Nodup ∧ ∀ o ∈ sh, (0 ≤ o.1 ∧ o.1 < (n : Int)) ∧ o.1 ∉ ps ∧ o.2 = s
instance (n s : Nat) (ps : List Int) (sh : List (Int × Nat)) : Decidable (VOk n s ps sh) := inferInstanceAs (Decidable (_ ∧ _))
theorem vok_nil (n s : Nat) (ps : List Int) : VOk n s ps [] := ⟨List.nodup_nil, fun _ h => by simp at h⟩
theorem vok_snoc {n s : Nat} {ps : List Int} {sh : List (Int × Nat)} {o : Int × Nat} : VOk n s ps (sh ++ [o]) ↔ VOk n s ps sh ∧ ((0 ≤ o.1 ∧ o.1 < (n : Int)) ∧ o.1 ∉ sh.map Prod.fst ∧ o.1 ∉ ps ∧ o.2 = s) := by
 unfold VOk
 rw [List.map_append, List.nodup_append]
 constructor
 ·rintro ⟨⟨h1, _, h3⟩, h4⟩
  have h5 := h4 o (by simp)
  exact ⟨⟨h1, fun u hu => h4 u (List.mem_append_left _ hu)⟩, h5.1, fun hm => h3 _ hm o.1 (by simp) rfl, h5.2.1, h5.2.2⟩
 ·rintro ⟨⟨h1, h2⟩, h3, h4, h5, h6⟩
  refine ⟨⟨h1, by simp, fun a ha b hb e => ?_⟩, fun u hu => ?_⟩
  ·have : b = o.1 := by simpa using hb
   exact h4 (this ▸ e ▸ ha)
  ·rcases List.mem_append.1 hu with hu | hu
   ·exact h2 u hu
   ·have : u = o := by simpa using hu
    subst this; exact ⟨h3, h5, h6⟩
theorem vok_take {n s : Nat} {ps : List Int} {sh : List (Int × Nat)} (h : VOk n s ps sh) (i : Nat) : VOk n s ps (sh.take i) :=
 ⟨h.1.sublist ((List.take_sublist i sh).map _), fun o ho => h.2 o (List.mem_of_mem_take ho)⟩
def seenV (n : Nat) (ps : List Int) : List Value := (List.range n).map fun j : Nat => .bool (decide ((j : Int) ∈ ps))
theorem seenV_length (n : Nat) (ps : List Int) : (seenV n ps).length = n := by simp [seenV]
theorem seenV_set (n : Nat) (ps : List Int) (q : Nat) : (seenV n ps).set q (.bool true) = seenV n (ps ++ [(q : Int)]) := by
 apply List.ext_getElem
 ·simp [seenV]
 ·intro i h1 h2
  rw [List.getElem_set]
  simp only [seenV, List.getElem_map, List.getElem_range, List.mem_append, List.mem_singleton]
  by_cases e : q = i
  ·subst e; simp
  ·rw [if_neg e]
   congr 1
   have : ¬ ((i : Int) = (q : Int)) := by omega
   simp [this]
def elsN (l : List El) : List (Int × Nat) := l.map fun e => (e.p, e.s.length)
theorem info_bool : (Tryz.prog.info? 4).map (fun i => (i.zero, i.size, i.bytes)) = some (some (.bool false), 1, 1) := by kernel_rfl
theorem make_bools (w : World) (n : Nat) (hn : n ≤ 1000000) :
  ∃ w', (Instr.makeSlice 166 (.int .i64 (n : Int)) (.int .i64 (n : Int))).run Tryz.prog w = .ok (.slice (some ⟨w.heap.size, 0, none⟩) n n) w' ∧ Own w' w.heap.size 4 (.slice (some ⟨w.heap.size, 0, none⟩) n n) (seenV n []) ∧ Below w.heap.size w w' := by
 obtain ⟨i0, hi, hi1, hi2, hi3⟩ := info_parts info_bool
 obtain ⟨w1, hmk, ho, hg⟩ := run_make_full (P := Tryz.prog) w w.heap.size 166 4 i0 _ 1 Tryz.underlying166 hi hi1 hi2 .i64 .i64 n (by rw [hi3]; omega) (by simp only [maxLen]; omega) (Nat.le_refl _)
 have e : (madeCells (Value.bool false).cells (n * 1)).toList = seenV n [] := by
  apply List.ext_getElem
  ·simp [madeCells, Value.cells, seenV]
  ·intro i h1 h2
   simp [madeCells, Value.cells, seenV, Nat.mod_one]
 rw [e] at ho
 refine ⟨w1, hmk, ?_, (Below.refl w.heap.size w).grown hg (Nat.le_refl _) (fun _ h => by cases h)⟩
 unfold Own; rw [seenV_length]; exact ho
set_option maxRecDepth 100000 in
set_option maxHeartbeats 4000000 in
theorem valid_calls (A : Option Addr) (l : List El) (m c n s : Nat) (P : Option Addr) (ps : List Int) (k d : Nat) (w : World) (hl : l.length = m) (hm : m ≤ 1000) (hr : Row w A (cells2 l)) (hn : n ≤ 1000) (hk : ps.length = k) (hk2 : k ≤ 1000) (hp : Row w P (zs ps)) :
  Calls Tryz.prog 54 #[.slice A m c, .int .i64 (n : Nat), .int .i64 (s : Nat), .slice P k d] w fun e w' => e = .returned (.bool (decide (VOk n s ps (elsN l)))) ∧ Below w.heap.size w w' := by
 obtain ⟨w1, hmk, hO1, hB1⟩ := make_bools w n (by omega)
 have HR := Lib.hid hr
 have HM := Lib.hid hl
 have HP := Lib.hid hp
 have HK := Lib.hid hk
 have HO1 := Lib.hid hO1
 have HB1 := Lib.hid hB1
 have hmx1 : max (n : Int) 0 = (n : Int) := by omega
 clear hr hl hp hk hO1 hB1
 go_enter Tryz.func54, Tryz.ntmps54
 go_wp2
 go_loopw [17] (fun i wr => ∃ t : Nat, t ≤ m ∧ i = .int .i64 t ∧ Hid (VOk n s ps ((elsN l).take t)) ∧ Hid (Own wr w.heap.size 4 (.slice (some ⟨w.heap.size, 0, none⟩) n n) (seenV n (((elsN l).take t).map Prod.fst))) ∧ Hid (Below w.heap.size w wr)) (fun i _ => m - (intOf i).toNat)
 case atStart => exact ⟨0, by omega, rfl, Lib.hid (vok_nil _ _ _), HO1, HB1⟩
 case round =>
  clear HO1 HB1
  obtain ⟨t, ht, rfl, HV, HO, HW⟩ := hrel
  by_cases htm : t < m
  ·have hti : t < l.length := by rw [HM.out]; exact htm
   obtain ⟨b, off, rfl, hc0, hc1⟩ := row2_at (HR.out.below HW.out) hti
   have HE : Hid ((elsN l).take (t + 1) = (elsN l).take t ++ [((l[t]).p, (l[t]).s.length)]) := Lib.hid (by unfold elsN; rw [← List.map_take, take_succ' l hti, List.map_append, List.map_take]; rfl)
   obtain ⟨e, he⟩ : ∃ e, l[t] = e := ⟨_, rfl⟩
   rw [he] at hc0 hc1 HE
   obtain ⟨ep, h5⟩ : ∃ a, e.p = a := ⟨_, rfl⟩
   obtain ⟨eA, h6⟩ : ∃ a, e.A = a := ⟨_, rfl⟩
   obtain ⟨en, h7⟩ : ∃ a, e.s.length = a := ⟨_, rfl⟩
   obtain ⟨ec, h8⟩ : ∃ a, e.c = a := ⟨_, rfl⟩
   rw [h5] at hc0 HE
   rw [h7] at HE
   rw [h6, h7, h8] at hc1
   have hsz := HW.out.size
   have hv0 := (Block.new wr 49 #[.int .i64 ep, .slice eA en ec]).cell 0
   have hv1 := (Block.new wr 49 #[.int .i64 ep, .slice eA en ec]).cell 1
   have HWa := Lib.hid (HW.out.alloc hsz (.cells #[.int .i64 ep, .slice eA en ec] 49))
   have HOa := Lib.hid (HO.out.alloc (.cells #[.int .i64 ep, .slice eA en ec] 49))
   have HBad : ∀ X : Prop, (VOk n s ps ((elsN l).take (t + 1)) → X) → ¬ X → decide (VOk n s ps (elsN l)) = false := fun X hX hnX => decide_eq_false fun hv => hnX (hX (vok_take hv _))
   rw [HE.out] at HBad
   clear he h5 h6 h7 h8
   by_cases hnode : 0 ≤ ep ∧ ep < (n : Int)
   ·obtain ⟨q, rfl⟩ : ∃ q : Nat, ep = (q : Int) := ⟨ep.toNat, by omega⟩
    have hqn : q < n := by omega
    have HI : Hid (∀ V : World, Calls Tryz.prog 57 #[.int .i64 (q : Int), .int .i64 n] V fun e w' => e = .returned (.bool true) ∧ V = w') := Lib.hid fun V => by
     have := isNode_calls (q : Int) n V
     rw [decide_eq_true hnode] at this
     exact this
    have hcs := HOa.out.cellAt (seenV_length _ _) q (by rw [seenV_length]; exact hqn)
    have hgs : (seenV n (((elsN l).take t).map Prod.fst))[q]'(by rw [seenV_length]; exact hqn) = .bool (decide ((q : Int) ∈ ((elsN l).take t).map Prod.fst)) := by simp [seenV]
    rw [hgs] at hcs
    clear hgs
    by_cases hseen : (q : Int) ∈ ((elsN l).take t).map Prod.fst
    ·have HX := Lib.hid (HBad _ (fun h => (vok_snoc.1 h).2.2.1) (fun h => h hseen))
     rw [decide_eq_true hseen] at hcs
     clear HBad hseen hnode
     go_wp2_with (first | (go_at_call 57; refine (HI.out _).mono ?_; rintro e w1 ⟨rfl, rfl⟩))
     go_ret
     exact ⟨ret_bool HX.out.symm, HWa.out⟩
    ·rw [decide_eq_false hseen] at hcs
     have hcc := contains_calls P ps k d (q : Int) (wr.alloc (.cells #[.int .i64 (q : Int), .slice eA en ec] 49)) HK.out (by omega) (HP.out.below HWa.out)
     by_cases hout : (q : Int) ∈ ps
     ·have HX := Lib.hid (HBad _ (fun h => (vok_snoc.1 h).2.2.2.1) (fun h => h hout))
      rw [decide_eq_true hout] at hcc
      have HC := Lib.hid hcc
      clear HBad hseen hnode hout hcc
      go_wp2_with (first | (go_at_call 57; refine (HI.out _).mono ?_; rintro e w1 ⟨rfl, rfl⟩) | (go_at_call 107; refine HC.out.mono ?_; rintro e w1 ⟨rfl, rfl⟩))
      go_ret
      exact ⟨ret_bool HX.out.symm, HWa.out⟩
     ·rw [decide_eq_false hout] at hcc
      have HC := Lib.hid hcc
      clear hcc
      by_cases hlen : en = s
      ·have HV2 := Lib.hid (vok_snoc.2 ⟨HV.out, hnode, hseen, hout, hlen⟩ : VOk n s ps ((elsN l).take t ++ [((q : Int), en)]))
       have hd : ((en : Int) != (s : Int)) = false := by simp; omega
       have HO2 := Lib.hid (HOa.out.set_ (seenV_length _ _) q (.bool true))
       have hfz := HOa.out.frozenAt (seenV_length _ _) q
       have HW2 := Lib.hid (HWa.out.setCell (p := ⟨w.heap.size, q, none⟩) (Nat.le_refl _) (.bool true))
       have HS : Hid ((seenV n (((elsN l).take t).map Prod.fst)).set q (.bool true) = seenV n (((elsN l).take (t + 1)).map Prod.fst)) := Lib.hid (by rw [seenV_set, HE.out, List.map_append]; rfl)
       rw [HS.out] at HO2
       rw [← HE.out] at HV2
       clear HBad hseen hnode hout hlen HWa HOa HE HV HO HW
       go_wp2_with (first | (go_at_call 57; refine (HI.out _).mono ?_; rintro e w1 ⟨rfl, rfl⟩) | (go_at_call 107; refine HC.out.mono ?_; rintro e w1 ⟨rfl, rfl⟩))
       go_roundw
       case rel => exact ⟨t + 1, by omega, by go_num, HV2, HO2, HW2⟩
       case measure => simp [intOf]; omega
      ·have HX := Lib.hid (HBad _ (fun h => (vok_snoc.1 h).2.2.2.2) hlen)
       have hd : ((en : Int) != (s : Int)) = true := by simp; omega
       clear HBad hseen hnode hout
       go_wp2_with (first | (go_at_call 57; refine (HI.out _).mono ?_; rintro e w1 ⟨rfl, rfl⟩) | (go_at_call 107; refine HC.out.mono ?_; rintro e w1 ⟨rfl, rfl⟩))
       go_ret
       exact ⟨ret_bool HX.out.symm, HWa.out⟩
   ·have HI : Hid (∀ V : World, Calls Tryz.prog 57 #[.int .i64 ep, .int .i64 n] V fun e w' => e = .returned (.bool false) ∧ V = w') := Lib.hid fun V => by
     have := isNode_calls ep n V
     rw [decide_eq_false hnode] at this
     exact this
    have HX := Lib.hid (HBad _ (fun h => (vok_snoc.1 h).2.1) hnode)
    clear HBad hnode
    go_wp2_with (first | (go_at_call 57; refine (HI.out _).mono ?_; rintro e w1 ⟨rfl, rfl⟩))
    go_ret
    exact ⟨ret_bool HX.out.symm, HWa.out⟩
  ·obtain rfl : t = m := by omega
   have hv := HV.out
   rw [List.take_of_length_le (by unfold elsN; rw [List.length_map, HM.out]; exact Nat.le_refl _)] at hv
   have HX := Lib.hid (decide_eq_true hv : decide (VOk n s ps (elsN l)) = true)
   clear hv
   go_wp2
   go_ret
   exact ⟨ret_bool HX.out.symm, HW.out⟩
end Go.Proofs.YtofihklinkpbiaaGreat.Sy
