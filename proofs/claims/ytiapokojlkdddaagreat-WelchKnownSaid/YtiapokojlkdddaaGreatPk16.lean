/- Of the program and its document, joined: PolyCode7, RdCode2, RdCode3. -/
import Derived.Test.YtiapokojlkdddaaGreatPk15
import Derived.Test.YtiapokojlkdddaaGreatPk09
import Derived.Test.YtiapokojlkdddaaGreatPk11
import Derived.Deep.RegionWith
/- What the program's Roots and Through do. -/
namespace Go.Proofs.YtiapokojlkdddaaGreat.Poly
open Go.RowKit Go.Shelf F8 GF

theorem roots_take (p : List F8) (k : Nat) (x : F8) (hk : k < p.length) (hx : coef p k = x) : trim (pmul (trim (roots (p.take k))) [x, 1]) = trim (roots (p.take (k + 1))) := by
  rw [take_succ' p hk, ← coef_of_lt hk, hx]
  exact trim_congr ((pmul_congr_left _ (trim_eqv _)).trans (roots_snoc _ _).symm)
theorem roots_len (p : List F8) : (trim (roots p)).length = p.length + 1 := len_roots p
theorem far_own {w : World} {g B n c : Nat} {A : Option Addr} {p : List F8} (hf : Fld w g) (h : Own w B 5 (.slice A n c) (bv (bs p))) : Far (some ⟨g, 0, none⟩) A p := by
  intro _ a b ha hb
  cases hb
  subst ha
  have h1 : (Value.slice (some a) n c).ownBlock ≠ some g := by rcases hf with hf | hf <;> exact own_ne h hf (by decide)
  intro e
  exact h1 (show some a.block = some g by rw [show a.block = g from e])
/-- Roots' answer. -/
def RootsRes (pf : Option Addr) (w : World) (r : List F8) (e : Ending) (w' : World) : Prop := PolyRes pf w w' e r
set_option maxRecDepth 100000 in
set_option maxHeartbeats 2000000 in
theorem roots_pcalls (A : Option Addr) (p : List F8) (m c : Nat) (w : World) (hl : p.length = m) (hb : Bytes w A (bs p)) (hm : m ≤ 1000) (pf : Option Addr) (hf : FldP w pf) (hfar : Far pf A p) :
    Calls Tryz.prog 63 #[.pointer pf, .slice A m c] w (RootsRes pf w (trim (roots p))) := by
  have HB := Lib.hid hb
  have HL := Lib.hid hl
  clear hb hl
  go_enter Tryz.func63, Tryz.ntmps63
  go_wp2_with fail
  refine (orNew_f pf w _ hf (Below.refl _ _)).mono ?_
  rintro e w1 ⟨g, rfl, hg, hF1, hB1⟩
  have hs1 := hB1.size
  have hglt := hF1.lt
  have hfa := hg.far (Nat.le_refl _) hfar HB.out
  go_wp2
  go_loopw [5, 13] (fun v i wr => ∃ k : Nat, k ≤ m ∧ i = .int .i64 k ∧ Hid (Own wr w.heap.size 5 v (bv (bs (trim (roots (p.take k)))))) ∧ Hid (Fld wr g) ∧ Hid (Past w.heap.size g w wr)) (fun _ i _ => m - (intOf i).toNat)
  case atStart =>
    refine ⟨0, by omega, rfl, Lib.hid ?_, Lib.hid (hF1.alloc _), Lib.hid ((Past.of_below hB1 _).alloc hs1 _)⟩
    have h1 := Own.lit w1 w1.heap.size 5 #[.int .u8 1] 1 (Nat.le_refl _) rfl (by decide)
    have e1 : trim (roots (p.take 0)) = [1] := by rw [List.take_zero]; show trim [1] = [1]; exact trim_snoc [] 1 one_ne_zero
    rw [e1]
    exact Own.more h1 hs1
  case round =>
    obtain ⟨k, hk, rfl, HO, HF, HP⟩ := hrel
    by_cases hkk : k < m
    · have HBr := bytes_far HB.out (fun hp a ha => (hfa hp a ha).1) HP.out
      obtain ⟨b, o, rfl⟩ := where_ HB.out (by have := HL.out; omega)
      have hcell := cellAt HBr k (by have := HL.out; omega)
      obtain ⟨x, hx⟩ : ∃ x, coef p k = x := ⟨_, rfl⟩
      rw [hx] at hcell
      have HT := Lib.hid (roots_take p k x (by have := HL.out; omega) hx)
      obtain ⟨r, hr⟩ : ∃ r, trim (roots (p.take k)) = r := ⟨_, rfl⟩
      rw [hr] at HT HO
      have hrl : r.length = k + 1 := by rw [← hr, roots_len, List.length_take, HL.out]; omega
      have HRL := Lib.hid hrl
      obtain ⟨A2, c2, rfl, hc2⟩ := Own.shape HO.out
      rw [HRL.out] at HO hc2
      have hsz := HP.out.size
      have hF2 : Fld (wr.alloc (.cells #[.int .u8 x.n, .int .u8 1] 5)) g := HF.out.alloc _
      have hO2 : Own (wr.alloc (.cells #[.int .u8 x.n, .int .u8 1] 5)) w.heap.size 5 (.slice A2 (k + 1) c2) (bv (bs r)) := HO.out.alloc _
      have hX : Bytes (wr.alloc (.cells #[.int .u8 x.n, .int .u8 1] 5)) (some ⟨wr.heap.size, 0, none⟩) (bs [x, 1]) := ⟨Row.new _ _ _ _, bs_lt _⟩
      have HBA : Hid (Bytes (wr.alloc (.cells #[.int .u8 x.n, .int .u8 1] 5)) A2 (bs r)) := Lib.hid (by rw [← hrl] at hO2; exact Own.bytes hO2)
      have hFA := far_own hF2 hO2
      have hFX : Far (some ⟨g, 0, none⟩) (some ⟨wr.heap.size, 0, none⟩) [x, 1] := by
        intro _ a b ha hb
        cases ha; cases hb
        have := HF.out.lt
        simp; omega
      clear hx hr hrl HBr hglt hfa
      rw [HRL.out]
      go_wp2_with fail
      refine (mul_pcalls A2 (some ⟨wr.heap.size, 0, none⟩) r [x, 1] (k + 1) 2 c2 2 _ HRL.out rfl HBA.out hX hc2 (Nat.le_refl _) (by omega) (by omega) (some ⟨g, 0, none⟩) (FldP.of hF2) hFA hFX).mono ?_
      rintro e w3 ⟨A3, c3, rfl, hc3, hO3, hF3, hP3⟩
      rw [HT.out] at hO3
      have HO3 := Lib.hid (hO3.more (B' := w.heap.size) (by simp; omega))
      have HF3 := Lib.hid hF3.fld
      have HP3 : Hid (Past w.heap.size g w w3) := Lib.hid ((HP.out.alloc hsz _).trans (hP3.mono (by simp; omega)))
      rw [HT.out]
      clear hO3 hF3 hP3 hc3 hF2 hO2 hX hFA hFX hcell
      go_wp2
      go_roundw
      case rel => exact ⟨k + 1, by omega, by go_num, HO3, HF3, HP3⟩
      case measure => simp [intOf]; omega
    · obtain rfl : k = m := by omega
      have HT : Hid (p.take k = p) := Lib.hid (List.take_of_length_le (by rw [HL.out]; omega))
      rw [HT.out] at HO
      clear HT hkk hk
      go_wp2
      go_ret
      obtain ⟨A2, c2, rfl, hc2⟩ := Own.shape HO.out
      exact ⟨A2, c2, rfl, hc2, HO.out, hg.fldP HF.out, hg.past (Nat.le_refl _) HP.out⟩
end Go.Proofs.YtiapokojlkdddaaGreat.Poly

/- What the program's at, values, through, New, K, Points, Field do. -/
namespace Go.Proofs.YtiapokojlkdddaaGreat.Rd
open Go.RowKit Go.Shelf F8 Poly GF
attribute [local go_sem] Oper.semAt_some

/-- 'make([]byte, 0, n)'. -/
theorem make_room (w : World) (n : Nat) (hn : n ≤ 1000000000) :
    ∃ w', (Instr.makeSlice 22 (.int .i64 0) (.int .i64 (n : Int))).run Tryz.prog w = .ok (.slice (some ⟨w.heap.size, 0, none⟩) 0 n) w' ∧ Own w' w.heap.size 5 (.slice (some ⟨w.heap.size, 0, none⟩) 0 n) (bv (bs [])) ∧ Below w.heap.size w w' := by
  obtain ⟨i0, hi, hi1, hi2, hi3⟩ := info_parts info_u8
  obtain ⟨w1, h1, h2, h3⟩ := run_make_own (P := Tryz.prog) w w.heap.size 22 5 i0 _ 1 Tryz.underlying22 hi hi1 hi2 .i64 .i64 n (by rw [hi3]; omega) (by simp only [maxLen]; omega) (Nat.le_refl _)
  exact ⟨w1, h1, h2, (Below.refl w.heap.size w).grown h3 (Nat.le_refl _) (fun _ h => by cases h)⟩
set_option maxRecDepth 100000 in
set_option maxHeartbeats 2000000 in
theorem at_calls (A : Option Addr) (p : List F8) (n c : Nat) (B : Option Addr) (pl : List Int) (m d : Nat) (w : World) (hn : p.length = n) (hb : Bytes w A (bs p)) (hn2 : n ≤ 1000000) (hl : pl.length = m) (hr : Row w B (zs pl)) (hm : m ≤ 1000000) (hok : OkP n pl) :
    Calls Tryz.prog 99 #[.slice A n c, .slice B m d] w (ROwn w (ptsAt p pl) m) := by
  have HB := Lib.hid hb
  have HR := Lib.hid hr
  have HM := Lib.hid hl
  have HN := Lib.hid hn
  have HK := Lib.hid hok
  obtain ⟨w1, hmk, hO1, hB1⟩ := make_room w m (by omega)
  have HO1 := Lib.hid hO1
  clear hb hl hr hok hn hO1
  go_enter Tryz.func99, Tryz.ntmps99
  go_wp2
  go_loopw [5, 13] (fun out i wr => ∃ k : Nat, k ≤ m ∧ i = .int .i64 k ∧ Hid (Own wr w.heap.size 5 out (bv (bs (ptsAt p (pl.take k))))) ∧ Below w.heap.size w wr) (fun _ i _ => m - (intOf i).toNat)
  case atStart => exact ⟨0, by omega, rfl, HO1, hB1⟩
  case round =>
    obtain ⟨k, hk, rfl, HO, HW⟩ := hrel
    have hsz := HW.size
    by_cases hlt : k < m
    · have hkp : k < pl.length := by rw [HM.out]; exact hlt
      obtain ⟨b, off, rfl, hcell⟩ := zs_at (HR.out.below HW) (k := k) hkp
      have HT := Lib.hid (ptsAt_snoc (p := p) hkp)
      have hin := HK.out.1 pl[k] (List.getElem_mem hkp)
      have HL : Hid ((bv (bs (ptsAt p (pl.take k)))).length = k) := Lib.hid (by rw [bvs_length, ptsAt_length, List.length_take]; omega)
      obtain ⟨z, hz⟩ : ∃ z, pl[k] = z := ⟨_, rfl⟩
      rw [hz] at hcell hin HT
      obtain ⟨x, rfl⟩ : ∃ x : Nat, z = (x : Int) := ⟨z.toNat, by omega⟩
      obtain ⟨y, hy⟩ : ∃ y, coef p x = y := ⟨_, rfl⟩
      have hxn : (x : Int) < (n : Int) := hin.2
      have hxp : x < p.length := by rw [HN.out]; omega
      obtain ⟨b2, o2, rfl⟩ := where_ HB.out (by omega)
      have hc2 := cellAt (HB.out.below HW) x hxp
      rw [Int.toNat_natCast] at HT
      rw [hy] at hc2 HT
      clear hz hy hin hxp
      go_wp2_with (at_builtin; refine wpList_app _ rfl _ _ _ rfl w.heap.size 5 _ 1 Tryz.underlying22 info_u8 rfl (by omega) _ _ rfl (HO.out.alloc _) (some ⟨wr.heap.size, 0, none⟩) 1 1 (bv [y.n]) rfl rfl (Row.new _ _ _ _) (bv_one _) (by rw [HL.out]; omega) (by simp; omega) ?_; rintro v2 w2 hown hg3 -)
      rw [← HT.out] at hown
      have HO2 := Lib.hid hown
      have hB2 := (HW.alloc hsz _).trans ((HO.out.alloc _).grew (by simp; omega) hg3)
      clear hown hg3
      go_roundw
      case rel => exact ⟨k + 1, by omega, by go_num, HO2, hB2⟩
      case measure => simp [intOf]; omega
    · obtain rfl : k = m := by omega
      have ht : pl.take k = pl := List.take_of_length_le (by rw [HM.out]; exact Nat.le_refl _)
      rw [ht] at HO
      obtain ⟨A1, c1, rfl, hc1⟩ := Own.shape HO.out
      have HPL : Hid ((ptsAt p pl).length = k) := Lib.hid (by rw [ptsAt_length, HM.out])
      rw [HPL.out] at HO hc1 ⊢
      go_wp2
      go_ret
      exact ⟨A1, c1, rfl, hc1, HO.out, HW⟩
/-- The first k symbols, noughts behind. -/
def part (p q : List F8) (k : Nat) : List F8 := word p (q.take k) ++ List.replicate (q.length - k) 0
theorem part_length {p q : List F8} {k : Nat} (h : k ≤ q.length) : (part p q k).length = q.length := by
  rw [part, List.length_append, word_length, List.length_take, List.length_replicate]; omega
theorem part_set {p q : List F8} {k : Nat} (h : k < q.length) : (part p q k).set k (eval p (coef q k)) = part p q (k + 1) := by
  have hl : (word p (q.take k)).length = k := by rw [word_length, List.length_take]; omega
  unfold part
  rw [List.set_append_right _ _ (by omega), hl, Nat.sub_self, show q.length - k = q.length - (k + 1) + 1 by omega, List.replicate_succ, List.set_cons_zero, word, word, take_succ' q h, List.map_append, List.map_cons, List.map_nil, coef_of_lt h, List.append_assoc]
  rfl
set_option maxRecDepth 100000 in
set_option maxHeartbeats 4000000 in
theorem values_calls (S : Poly.Spec) (g : Nat) (A : Option Addr) (p : List F8) (m c : Nat) (B : Option Addr) (q : List F8) (n d : Nat) (w : World) (hm : p.length = m) (hb : Bytes w A (bs p)) (hc : m ≤ c) (hl : m ≤ 1000) (hn : q.length = n) (hb2 : Bytes w B (bs q)) (hn2 : n ≤ 1000000)
    (hf : FldP w (some ⟨g, 0, none⟩)) (hfa : Far (some ⟨g, 0, none⟩) A p) (hfb : Far (some ⟨g, 0, none⟩) B q) :
    Calls Tryz.prog 96 #[.agg #[.pointer (some ⟨g, 0, none⟩)], .slice A m c, .slice B n d] w fun e w' => PolyRes (some ⟨g, 0, none⟩) w w' e (word p q) := by
  have hglt := hf.fld.lt
  obtain ⟨w0, hw0⟩ : ∃ w0, w.alloc (.cells #[.pointer (some ⟨g, 0, none⟩)] 144) = w0 := ⟨_, rfl⟩
  have hz0 : w0.heap.size = w.heap.size + 1 := by rw [← hw0]; simp
  have hB0 : Below w.heap.size w w0 := by rw [← hw0]; exact (Below.refl _ _).alloc (Nat.le_refl _) _
  have hbl0 : Block w0 w.heap.size 144 #[.pointer (some ⟨g, 0, none⟩)] := by rw [← hw0]; exact Block.new w _ _
  obtain ⟨w1, hmk, hO1, hB1⟩ := make_run w0 n (by omega)
  rw [hz0] at hmk hO1 hB1
  have hBW : Below w.heap.size w w1 := hB0.trans (hB1.mono (by omega))
  have HO1 : Hid (Own w1 w.heap.size 5 (.slice (some ⟨w.heap.size + 1, 0, none⟩) n n) (bv (bs (part p q 0)))) := Lib.hid (by
    have : part p q 0 = List.replicate n 0 := by rw [part, hn]; rfl
    rw [this]; exact hO1.more (by omega))
  have HF1 : Hid (FldP w1 (some ⟨g, 0, none⟩)) := Lib.hid (hf.below hBW)
  have HP1 := Lib.hid (Past.of_below hBW g)
  have HC1 := Lib.hid (hbl0.below hB1 (by omega))
  have HB := Lib.hid hb
  have HB2 := Lib.hid hb2
  have HM := Lib.hid hm
  have HN := Lib.hid hn
  have HFA := Lib.hid hfa
  have HFB := Lib.hid hfb
  have HZ : Hid (w.heap.size < w1.heap.size) := Lib.hid (by have := hB1.size; omega)
  clear hb hb2 hm hn hfa hfb hO1 hB1 hB0 hbl0 hBW hf
  go_enter Tryz.func96, Tryz.ntmps96
  go_wp2
  go_loopw [15] (fun i wr => ∃ k : Nat, k ≤ n ∧ i = .int .i64 k ∧ Hid (Own wr w.heap.size 5 (.slice (some ⟨w.heap.size + 1, 0, none⟩) n n) (bv (bs (part p q k)))) ∧ Hid (FldP wr (some ⟨g, 0, none⟩)) ∧ Hid (Past w.heap.size g w wr) ∧ Hid (Block wr w.heap.size 144 #[.pointer (some ⟨g, 0, none⟩)])) (fun i _ => n - (intOf i).toNat)
  case atStart => exact ⟨0, by omega, rfl, HO1, HF1, HP1, HC1⟩
  case round =>
    clear HO1 HF1 HP1 HC1
    obtain ⟨k, hk, rfl, HO, HF, HP, HC⟩ := hrel
    by_cases hlt : k < n
    · have hkq : k < q.length := by rw [HN.out]; exact hlt
      have HBr := Lib.hid (bytes_far HB.out (fun hp a ha => HFA.out hp a _ ha rfl) HP.out)
      have HBr2 := Lib.hid (bytes_far HB2.out (fun hp a ha => HFB.out hp a _ ha rfl) HP.out)
      obtain ⟨b2, o2, rfl⟩ := where_ HB2.out (by omega)
      have hcell := cellAt HBr2.out k hkq
      have hcb := HC.out.cell 0
      obtain ⟨y, hy⟩ : ∃ y, eval p (coef q k) = y := ⟨_, rfl⟩
      have HT := Lib.hid (part_set (p := p) hkq)
      rw [hy] at HT
      have HY := Lib.hid hy
      clear hy
      obtain ⟨x, hx⟩ : ∃ x, coef q k = x := ⟨_, rfl⟩
      rw [hx] at hcell HY
      have HPL : Hid ((part p q k).length = n) := Lib.hid (by rw [part_length (by omega), HN.out])
      clear hx
      go_wp2_with fail
      refine (S.atP A p m c _ HM.out HBr.out hc hl _ HF.out HFA.out x).mono ?_
      rintro e w2 ⟨rfl, hf2, hp2⟩
      rw [HY.out]
      have hp2' : Past wr.heap.size g wr w2 := hp2
      have HO2 := Lib.hid (own_keep HO.out HF.out hp2')
      have hsz := HP.out.size
      have hP2 : Past w.heap.size g w w2 := HP.out.trans (hp2'.mono hsz)
      have hC2 : Block w2 w.heap.size 144 #[.pointer (some ⟨g, 0, none⟩)] := HC.out.past hp2' HC.out.lt (by omega)
      have hcs := own_cell HO2.out HPL.out (k := k) hlt
      have hfz := Own.frozenAt HO2.out (by rw [bvs_length, HPL.out]) k
      have HO3 : Hid (Own (w2.setCell ⟨w.heap.size + 1, k, none⟩ (.int .u8 (y.n : Int))) w.heap.size 5 (.slice (some ⟨w.heap.size + 1, 0, none⟩) n n) (bv (bs (part p q (k + 1))))) := Lib.hid (by rw [← HT.out]; exact own_set HO2.out HPL.out)
      have HF3 : Hid (FldP (w2.setCell ⟨w.heap.size + 1, k, none⟩ (.int .u8 (y.n : Int))) (some ⟨g, 0, none⟩)) := Lib.hid (FldP.of (hf2.fld.imp (fun h => h.far (by simp; omega) _) (fun h => h.far (by simp; omega) _)))
      have HP3 : Hid (Past w.heap.size g w (w2.setCell ⟨w.heap.size + 1, k, none⟩ (.int .u8 (y.n : Int)))) := Lib.hid (hP2.setCell (p := ⟨w.heap.size + 1, k, none⟩) (.inr (by simp)) _)
      have HC3 : Hid (Block (w2.setCell ⟨w.heap.size + 1, k, none⟩ (.int .u8 (y.n : Int))) w.heap.size 144 #[.pointer (some ⟨g, 0, none⟩)]) := Lib.hid (hC2.far (by simp) _)
      clear hp2 hp2' hP2 hC2 hf2 hcell hcb
      go_wp2
      go_roundw
      case rel => exact ⟨k + 1, by omega, by go_num, HO3, HF3, HP3, HC3⟩
      case measure => simp [intOf]; omega
    · obtain rfl : k = n := by omega
      have ht : part p q k = word p q := by rw [part, List.take_of_length_le (by rw [HN.out]; exact Nat.le_refl _), HN.out, Nat.sub_self]; simp
      have hwl : (word p q).length = k := by rw [word_length, HN.out]
      rw [ht] at HO
      have HWL := Lib.hid hwl
      clear ht hwl
      go_wp2
      go_ret
      refine ⟨some ⟨w.heap.size + 1, 0, none⟩, k, by rw [HWL.out]; rfl, by rw [HWL.out]; exact Nat.le_refl _, by rw [HWL.out]; exact HO.out, HF.out, HP.out⟩
set_option maxRecDepth 100000 in
set_option maxHeartbeats 4000000 in
theorem through_calls (S : Poly.Spec) (g : Nat) (A : Option Addr) (p : List F8) (m c : Nat) (B : Option Addr) (q : List F8) (d : Nat) (w : World) (hm : p.length = m) (hb : Bytes w A (bs p)) (hc : m ≤ c) (hl : m ≤ 1000) (hn : q.length = m) (hb2 : Bytes w B (bs q)) (hd : m ≤ d) (hnd : p.Nodup)
    (hf : FldP w (some ⟨g, 0, none⟩)) (hfa : Far (some ⟨g, 0, none⟩) A p) (hfb : Far (some ⟨g, 0, none⟩) B q) :
    Calls Tryz.prog 100 #[.agg #[.pointer (some ⟨g, 0, none⟩)], .slice A m c, .slice B m d] w fun e w' => ∃ r, Thru p q r ∧ PolyRes (some ⟨g, 0, none⟩) w w' e (full r m) := by
  have hglt := hf.fld.lt
  obtain ⟨w0, hw0⟩ : ∃ w0, w.alloc (.cells #[.pointer (some ⟨g, 0, none⟩)] 144) = w0 := ⟨_, rfl⟩
  have hz0 : w0.heap.size = w.heap.size + 1 := by rw [← hw0]; simp
  have hB0 : Below w.heap.size w w0 := by rw [← hw0]; exact (Below.refl _ _).alloc (Nat.le_refl _) _
  have hbl0 : Block w0 w.heap.size 144 #[.pointer (some ⟨g, 0, none⟩)] := by rw [← hw0]; exact Block.new w _ _
  have hcb := hbl0.cell 0
  have HT := Lib.hid (S.throughP A B p q m m c d w0 hm hn (hb.below hB0) (hb2.below hB0) hc hd hl hl (some ⟨g, 0, none⟩) (hf.below hB0) hfa hfb rfl hnd)
  have HM := Lib.hid hm
  have HB0 := Lib.hid hB0
  clear hb hb2 hm hn hfa hfb hf hbl0 hB0 hnd
  go_enter Tryz.func100, Tryz.ntmps100
  go_wp2_with fail
  refine HT.out.mono ?_
  rintro e w1 ⟨r, ht, A1, c1, rfl, hc1, hO1, hF1, hP1⟩
  have hrm : r.length ≤ m := by have := thru_length ht; rwa [HM.out] at this
  have HThr := Lib.hid ht
  have hP1' : Past w0.heap.size g w0 w1 := hP1
  obtain ⟨l, hlr⟩ : ∃ l, r.length = l := ⟨_, rfl⟩
  rw [hlr] at hrm hc1 hO1 ⊢
  have hk : (m : Int) - (l : Int) = ((m - l : Nat) : Int) := by omega
  have HPW := Lib.hid ((Past.of_below HB0.out g).trans (hP1'.mono (by omega)))
  have hOv : (bv (bs r)).length = l := by rw [bvs_length, hlr]
  have hO1' : Own w1 w0.heap.size 5 (.slice A1 l c1) (bv (bs r)) := hO1
  obtain ⟨v2, w2, hrun, hO2, hg2⟩ := run_app_zeros w1 22 w0.heap.size _ (bv (bs r)) hO1' (m - l) (by omega) (by rw [hOv]; omega) hP1'.size
  have hB2 := hO1'.grew hP1'.size hg2
  have hfull : bv (bs r) ++ bv (List.replicate (m - l) 0) = bv (bs (full r m)) := by
    rw [full, List.take_of_length_le (by omega), bs_append, bv_append, hlr]
    congr 2
    unfold bs; rw [List.map_replicate]; rfl
  rw [hfull] at hO2
  have hF2 : FldP w2 (some ⟨g, 0, none⟩) := FldP.of (hF1.fld.kept_grown hg2 (by omega : g < w0.heap.size) (fun k hk => (hO1'.lt k hk).1))
  have HF2 := Lib.hid hF2
  obtain ⟨A2, c2, rfl, hc2⟩ := Own.shape hO2
  have HO2 := Lib.hid hO2
  have HP2 := Lib.hid (HPW.out.trans (Past.of_below (hB2.mono (by omega)) g))
  have HLf : Hid ((full r m).length = m) := Lib.hid (full_length r m)
  rw [HLf.out] at HO2 hc2 hrun
  clear ht hP1 hP1' hO1 hO1' hO2 hg2 hB2 hfull hF1 hF2 HPW hlr hOv
  go_wp2_with (at_builtin; refine Lib.wpList_append_run _ rfl _ _ _ _ rfl _ _ rfl rfl _ _ hrun ?_)
  go_ret
  exact ⟨r, HThr.out, A2, c2, by rw [HLf.out]; rfl, by rw [HLf.out]; exact hc2, by rw [HLf.out]; exact HO2.out.more (by omega), HF2.out, HP2.out⟩
end Go.Proofs.YtiapokojlkdddaaGreat.Rd

/- What the program's New, K, Points, Field, Encode, Decode do. -/
namespace Go.Proofs.YtiapokojlkdddaaGreat.Rd
open Go.RowKit Go.Shelf F8 Poly GF
attribute [local go_sem] Oper.semAt_some

/-- A code at b, over the field at g: its points, its K. -/
structure Cd (w : World) (b g : Nat) (A : Option Addr) (xs : List F8) (n c k : Nat) : Prop where
  blk : Block w b 147 (codeC g A n c k)
  ne : b ≠ g
  len : xs.length = n
  cap : n ≤ c
  by_ : Bytes w A (bs xs)
  far : Far (some ⟨g, 0, none⟩) A xs
  nd : xs.Nodup
  k1 : 1 ≤ k
  kn : k ≤ n
  n256 : n ≤ 256
  fld : FldP w (some ⟨g, 0, none⟩)
theorem nodup_le : ∀ (n : Nat) (l : List Nat), l.Nodup → (∀ x ∈ l, x < n) → l.length ≤ n
  | 0, l, _, h => by cases l with | nil => exact Nat.le_refl _ | cons a l => exact absurd (h a (by simp)) (by omega)
  | n + 1, l, hn, h => by
    by_cases hm : n ∈ l
    · have h1 := nodup_le n (l.erase n) (hn.erase n) fun x hx => by
        have := (hn.mem_erase_iff).1 hx
        have := h x this.2
        omega
      rw [List.length_erase_of_mem hm] at h1
      omega
    · have := nodup_le n l hn fun x hx => by
        have h1 := h x hx
        have : x ≠ n := fun e => hm (e ▸ hx)
        omega
      omega
theorem nodup256 {xs : List F8} (h : xs.Nodup) : xs.length ≤ 256 := by
  have h1 : (xs.map F8.n).Nodup := by
    rw [List.nodup_iff_pairwise_ne, List.pairwise_map]
    exact (List.nodup_iff_pairwise_ne.1 h).imp fun hne e => hne (F8.n_inj.1 e)
  have h3 := nodup_le 256 _ h1 fun x hx => by
    obtain ⟨y, _, rfl⟩ := List.mem_map.1 hx
    exact y.h
  simpa using h3
section
variable {w w' : World} {b g : Nat} {A : Option Addr} {xs : List F8} {n c k : Nat}
theorem Cd.past (h : Cd w b g A xs n c k) (h1 : FldP w' (some ⟨g, 0, none⟩)) (h2 : Past w.heap.size g w w') : Cd w' b g A xs n c k :=
  { h with blk := h.blk.past h2 h.blk.lt h.ne, by_ := bytes_far h.by_ (fun hp a ha => h.far hp a _ ha rfl) h2, fld := h1 }
theorem Cd.below (h : Cd w b g A xs n c k) (hb : Below w.heap.size w w') : Cd w' b g A xs n c k :=
  h.past (h.fld.below hb) (Past.of_below hb _)
theorem Cd.drew (h : Cd w b g A xs n c k) : Cd w.drew b g A xs n c k := h.below (Below.drewN' (Below.refl _ _) 1)
end
/-- What New gives. -/
def NewRes (w : World) (g : Nat) (xs : List F8) (n : Nat) (k : Int) (e : Ending) (w' : World) : Prop :=
  (newR xs k = 0 ∧ ∃ (b : Nat) (A : Option Addr) (c q : Nat), (q : Int) = k ∧ e = .returned (.tuple #[.pointer (some ⟨b, 0, none⟩), .int .i64 0]) ∧ w.heap.size ≤ b ∧ (∀ a, A = some a → w.heap.size ≤ a.block) ∧ Cd w' b g A xs n c q ∧ Below w.heap.size w w') ∨
  (newR xs k = 2 ∧ e = .returned (.tuple #[.pointer none, .int .i64 2]) ∧ Below w.heap.size w w')
set_option maxRecDepth 100000 in
set_option maxHeartbeats 2000000 in
theorem new_calls (g : Nat) (A : Option Addr) (p : List F8) (n c : Nat) (k : Int) (w : World) (hn : p.length = n) (hb : Bytes w A (bs p)) (hc : n ≤ c) (hn2 : n ≤ 1000000) (hf : FldP w (some ⟨g, 0, none⟩)) :
    Calls Tryz.prog 56 #[.pointer (some ⟨g, 0, none⟩), .slice A n c, .int .i64 k] w (NewRes w g p n k) := by
  by_cases h1 : k < 1
  · have HX : Hid (newR p k = 2) := Lib.hid (if_neg (by omega))
    clear hb hf
    go_enter Tryz.func56, Tryz.ntmps56
    go_wp2
    go_ret2
    exact .inr ⟨HX.out, rfl, Below.refl _ _⟩
  by_cases h2 : (n : Int) < k
  · have HX : Hid (newR p k = 2) := Lib.hid (if_neg (by omega))
    clear hb hf
    go_enter Tryz.func56, Tryz.ntmps56
    go_wp2
    go_ret2
    exact .inr ⟨HX.out, rfl, Below.refl _ _⟩
  by_cases hnd : p.Nodup
  · have HT : Hid ((!decide p.Nodup) = false) := Lib.hid (by rw [decide_eq_true hnd]; rfl)
    have HX : Hid (newR p k = 0) := Lib.hid (if_pos ⟨hnd, by omega, by omega⟩)
    have HND := Lib.hid hnd
    have HB := Lib.hid hb
    have HN := Lib.hid hn
    have HF := Lib.hid hf
    have hglt := hf.fld.lt
    clear hb hf hnd hn
    go_enter Tryz.func56, Tryz.ntmps56
    go_wp2_with (go_at_call 102; refine (repeat_calls A p n c _ HN.out HB.out hn2).mono ?_; rintro e w1 ⟨rfl, hB1⟩; rw [HT.out])
    have hs1 := hB1.size
    refine (Poly.clone_calls A p n c _ HN.out (HB.out.below hB1) hc hn2).mono ?_
    rintro e w2 ⟨A2, c2, rfl, hc2, hO2, hB2⟩
    rw [HN.out] at hc2 hO2 ⊢
    go_wp2
    go_ret2
    obtain ⟨q, rfl⟩ : ∃ q : Nat, k = (q : Int) := ⟨k.toNat, by omega⟩
    have hs2 := hB2.size
    have hBW := hB1.trans (hB2.mono hs1)
    have hBW2 := hBW.alloc (by omega) (.cells #[.pointer (some ⟨g, 0, none⟩), .slice A2 n c2, .int .i64 (q : Int)] 147)
    have hblk : ∀ a, A2 = some a → w.heap.size ≤ a.block := fun a ha => Nat.le_trans hs1 (own_block hO2 a ha)
    refine .inl ⟨HX.out, w2.heap.size, A2, c2, q, rfl, rfl, by omega, hblk, ⟨Block.new _ _ _, by omega, HN.out, hc2, (Own.bytes hO2).alloc _, ?_, HND.out, by omega, by omega, by have := nodup256 HND.out; rw [HN.out] at this; exact this, HF.out.below hBW2⟩, hBW2⟩
    intro _ a b ha hb
    cases hb
    have := hblk a ha
    simp; omega
  · have HT : Hid ((!decide p.Nodup) = true) := Lib.hid (by rw [decide_eq_false hnd]; rfl)
    have HX : Hid (newR p k = 2) := Lib.hid (if_neg (fun h => hnd h.1))
    have HB := Lib.hid hb
    have HN := Lib.hid hn
    clear hb hf hnd hn
    go_enter Tryz.func56, Tryz.ntmps56
    go_wp2_with (go_at_call 102; refine (repeat_calls A p n c _ HN.out HB.out hn2).mono ?_; rintro e w1 ⟨rfl, hB1⟩; rw [HT.out])
    go_ret2
    exact .inr ⟨HX.out, rfl, hB1⟩
section
variable {w : World} {b g : Nat} {A : Option Addr} {xs : List F8} {n c k : Nat} (h : Cd w b g A xs n c k)
include h
theorem k_calls : Calls Tryz.prog 51 #[.pointer (some ⟨b, 0, none⟩)] w fun e w' => e = .returned (.int .i64 k) ∧ w = w' := by
  have h2 := h.blk.cell 2
  simp only [codeC] at h2
  go_enter Tryz.func51, Tryz.ntmps51
  go_wp2_with (go_at_call 91; refine (isNone_calls h.blk h.k1).mono ?_; rintro e w1 ⟨rfl, rfl⟩)
  go_ret
  exact ⟨rfl, rfl⟩
theorem field_calls : Calls Tryz.prog 94 #[.pointer (some ⟨b, 0, none⟩)] w fun e w' => e = .returned (.pointer (some ⟨g, 0, none⟩)) ∧ w = w' := by
  have h2 := h.blk.cell 0
  simp only [codeC] at h2
  go_enter Tryz.func94, Tryz.ntmps94
  go_wp2_with (go_at_call 91; refine (isNone_calls h.blk h.k1).mono ?_; rintro e w1 ⟨rfl, rfl⟩)
  go_ret
  exact ⟨rfl, rfl⟩
theorem points_calls : Calls Tryz.prog 47 #[.pointer (some ⟨b, 0, none⟩)] w fun e w' => ROwn w xs n e w' := by
  have h2 := h.blk.cell 1
  simp only [codeC] at h2
  go_enter Tryz.func47, Tryz.ntmps47
  go_wp2_with (first
    | (go_at_call 91; refine (isNone_calls h.blk h.k1).mono ?_; rintro e w1 ⟨rfl, rfl⟩)
    | (go_at_call 92; refine (Poly.clone_calls A xs n c _ h.len h.by_ h.cap (by have := h.n256; omega)).mono ?_; rintro e w2 ⟨A2, c2, rfl, hc2, hO2, hB2⟩; rw [h.len] at hc2 hO2 ⊢))
  go_ret
  exact ⟨A2, c2, rfl, hc2, hO2, hB2⟩
end
theorem k_nil (w : World) : Calls Tryz.prog 51 #[.pointer none] w fun e w' => e = .returned (.int .i64 0) ∧ w = w' := by
  go_enter Tryz.func51, Tryz.ntmps51
  go_wp2_with (go_at_call 91; refine (isNone_nil _).mono ?_; rintro e w1 ⟨rfl, rfl⟩)
  go_ret
  exact ⟨rfl, rfl⟩
theorem field_nil (w : World) : Calls Tryz.prog 94 #[.pointer none] w fun e w' => e = .returned (.pointer none) ∧ w = w' := by
  go_enter Tryz.func94, Tryz.ntmps94
  go_wp2_with (go_at_call 91; refine (isNone_nil _).mono ?_; rintro e w1 ⟨rfl, rfl⟩)
  go_ret
  exact ⟨rfl, rfl⟩
theorem points_nil (w : World) : Calls Tryz.prog 47 #[.pointer none] w fun e w' => e = .returned (.slice none 0 0) ∧ w = w' := by
  go_enter Tryz.func47, Tryz.ntmps47
  go_wp2_with (go_at_call 91; refine (isNone_nil _).mono ?_; rintro e w1 ⟨rfl, rfl⟩)
  go_ret
  exact ⟨rfl, rfl⟩
theorem encode_nil (B : Option Addr) (m d : Nat) (w : World) : Calls Tryz.prog 49 #[.pointer none, .slice B m d] w fun e w' => e = .returned (.tuple #[.slice none 0 0, .int .i64 1]) ∧ w = w' := by
  go_enter Tryz.func49, Tryz.ntmps49
  go_wp2_with (go_at_call 91; refine (isNone_nil _).mono ?_; rintro e w1 ⟨rfl, rfl⟩)
  go_ret2
  exact ⟨rfl, rfl⟩
theorem decode_nil (B C : Option Addr) (m d o e : Nat) (w : World) : Calls Tryz.prog 54 #[.pointer none, .slice B m d, .slice C o e] w fun e w' => e = .returned (.tuple #[.slice none 0 0, .int .i64 1]) ∧ w = w' := by
  go_enter Tryz.func54, Tryz.ntmps54
  go_wp2_with (go_at_call 91; refine (isNone_nil _).mono ?_; rintro e w1 ⟨rfl, rfl⟩)
  go_ret2
  exact ⟨rfl, rfl⟩
set_option maxRecDepth 100000 in
set_option maxHeartbeats 4000000 in
theorem encode_calls (S : Poly.Spec) {w : World} {b g : Nat} {A : Option Addr} {xs : List F8} {n c k : Nat} (h : Cd w b g A xs n c k) (B : Option Addr) (q : List F8) (m d : Nat) (hm : q.length = m) (hb : Bytes w B (bs q)) (hd : m ≤ d) (hl : m ≤ 1000) (hfar : Far (some ⟨g, 0, none⟩) B q) :
    Calls Tryz.prog 49 #[.pointer (some ⟨b, 0, none⟩), .slice B m d] w fun e w' => PolyResE (some ⟨g, 0, none⟩) w w' e (encR xs k q).1 (encR xs k q).2 := by
  have h0 := h.blk.cell 0
  have h1 := h.blk.cell 1
  have h2 := h.blk.cell 2
  simp only [codeC] at h0 h1 h2
  have HV := Lib.hid (values_calls S g B q m d A xs n c w.drew hm hb.drew hd hl h.len h.by_.drew (by have := h.n256; omega) h.drew.fld hfar h.far)
  have HC := Lib.hid h
  by_cases hk : m = k
  · have e1 : encR xs k q = (word q xs, 0) := if_pos (by omega)
    have k2 : ((m : Int) != (k : Int)) = false := by simp; omega
    rw [e1]
    clear e1 hk hb hfar hm h
    go_enter Tryz.func49, Tryz.ntmps49
    go_wp2_with (go_at_call 91; refine (isNone_calls HC.out.blk HC.out.k1).mono ?_; rintro e w1 ⟨rfl, rfl⟩)
    go_region_with (go_at_call 96; refine HV.out.mono ?_; rintro e w2 ⟨A2, c2, rfl, hc2, hO2, hF2, hP2⟩)
    all_goals
      go_wp2
      go_ret2
      exact ⟨A2, c2, rfl, hc2, hO2, hF2, (Past.refl _ _ _).drew.trans hP2⟩
  · have e1 : encR xs k q = ([], 2) := if_neg (by omega)
    have k2 : ((m : Int) != (k : Int)) = true := by simp; omega
    rw [e1]
    clear e1 hk hb hfar hm h HV
    go_enter Tryz.func49, Tryz.ntmps49
    go_wp2_with (go_at_call 91; refine (isNone_calls HC.out.blk HC.out.k1).mono ?_; rintro e w1 ⟨rfl, rfl⟩)
    go_ret2
    exact ⟨none, 0, rfl, Nat.le_refl _, Own.nil _ _ _, HC.out.fld, Past.refl _ _ _⟩
end Go.Proofs.YtiapokojlkdddaaGreat.Rd
