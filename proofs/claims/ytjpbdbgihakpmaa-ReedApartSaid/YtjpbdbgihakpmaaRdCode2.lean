/- What the program's at, values, through, New, K, Points, Field do. -/
import Derived.Test.YtjpbdbgihakpmaaRdRef2
import Derived.Test.YtjpbdbgihakpmaaRdApp
import Derived.Test.YtjpbdbgihakpmaaPolyCode7
namespace Go.Proofs.Ytjpbdbgihakpmaa.Rd
open Go.RowKit Go.Shelf F8 Poly GF
attribute [local go_sem] Oper.semAt_some

/-- 'make([]byte, 0, n)'. -/
theorem make_room (w : World) (n : Nat) (hn : n ≤ 1000000000) :
    ∃ w', (Instr.makeSlice 22 (.int .i64 0) (.int .i64 (n : Int))).run Try.prog w = .ok (.slice (some ⟨w.heap.size, 0, none⟩) 0 n) w' ∧ Own w' w.heap.size 5 (.slice (some ⟨w.heap.size, 0, none⟩) 0 n) (bv (bs [])) ∧ Below w.heap.size w w' := by
  obtain ⟨i0, hi, hi1, hi2, hi3⟩ := info_parts info_u8
  obtain ⟨w1, h1, h2, h3⟩ := run_make_own (P := Try.prog) w w.heap.size 22 5 i0 _ 1 Try.underlying22 hi hi1 hi2 .i64 .i64 n (by rw [hi3]; omega) (by simp only [maxLen]; omega) (Nat.le_refl _)
  exact ⟨w1, h1, h2, (Below.refl w.heap.size w).grown h3 (Nat.le_refl _) (fun _ h => by cases h)⟩
set_option maxRecDepth 100000 in
set_option maxHeartbeats 2000000 in
theorem at_calls (A : Option Addr) (p : List F8) (n c : Nat) (B : Option Addr) (pl : List Int) (m d : Nat) (w : World) (hn : p.length = n) (hb : Bytes w A (bs p)) (hn2 : n ≤ 1000000) (hl : pl.length = m) (hr : Row w B (zs pl)) (hm : m ≤ 1000000) (hok : OkP n pl) :
    Calls Try.prog 77 #[.slice A n c, .slice B m d] w (ROwn w (ptsAt p pl) m) := by
  have HB := Lib.hid hb
  have HR := Lib.hid hr
  have HM := Lib.hid hl
  have HN := Lib.hid hn
  have HK := Lib.hid hok
  obtain ⟨w1, hmk, hO1, hB1⟩ := make_room w m (by omega)
  have HO1 := Lib.hid hO1
  clear hb hl hr hok hn hO1
  go_enter Try.func77, Try.ntmps77
  go_wp2
  go_loopw [5, 13] (fun out i wr => ∃ k : Nat, k ≤ m ∧ i = .int .i64 k ∧ Hid (Own wr w.heap.size 5 out (bv (bs (ptsAt p (pl.take k))))) ∧ Below w.heap.size w wr) (fun _ i _ => m - (intOf i).toNat)
  case atStart => exact ⟨0, by omega, rfl, HO1, hB1⟩
  case round =>
    obtain ⟨k, hk, rfl, HO, HW⟩ := hrel
    have hsz := HW.size
    by_cases hlt : k < m
    · have hkp : k < pl.length := by rw [HM.out]; exact hlt
      obtain ⟨b, off, rfl, hcell⟩ := zs_at (HR.out.below HW) (k := k) hkp
      have HT := Lib.hid (ptsAt_snoc (p := p) hkp)
      have hin := HK.out.1 pl[k] (List.getElem_mem hkp)
      have HL : Hid ((bv (bs (ptsAt p (pl.take k)))).length = k) := Lib.hid (by rw [bvs_length, ptsAt_length, List.length_take]; omega)
      obtain ⟨z, hz⟩ : ∃ z, pl[k] = z := ⟨_, rfl⟩
      rw [hz] at hcell hin HT
      obtain ⟨x, rfl⟩ : ∃ x : Nat, z = (x : Int) := ⟨z.toNat, by omega⟩
      obtain ⟨y, hy⟩ : ∃ y, coef p x = y := ⟨_, rfl⟩
      have hxn : (x : Int) < (n : Int) := hin.2
      have hxp : x < p.length := by rw [HN.out]; omega
      obtain ⟨b2, o2, rfl⟩ := where_ HB.out (by omega)
      have hc2 := cellAt (HB.out.below HW) x hxp
      rw [Int.toNat_natCast] at HT
      rw [hy] at hc2 HT
      clear hz hy hin hxp
      go_wp2_with (at_builtin; refine wpList_app _ rfl _ _ _ rfl w.heap.size 5 _ 1 Try.underlying22 info_u8 rfl (by omega) _ _ rfl (HO.out.alloc _) (some ⟨wr.heap.size, 0, none⟩) 1 1 (bv [y.n]) rfl rfl (Row.new _ _ _ _) (bv_one _) (by rw [HL.out]; omega) (by simp; omega) ?_; rintro v2 w2 hown hg3 -)
      rw [← HT.out] at hown
      have HO2 := Lib.hid hown
      have hB2 := (HW.alloc hsz _).trans ((HO.out.alloc _).grew (by simp; omega) hg3)
      clear hown hg3
      go_roundw
      case rel => exact ⟨k + 1, by omega, by go_num, HO2, hB2⟩
      case measure => simp [intOf]; omega
    · obtain rfl : k = m := by omega
      have ht : pl.take k = pl := List.take_of_length_le (by rw [HM.out]; exact Nat.le_refl _)
      rw [ht] at HO
      obtain ⟨A1, c1, rfl, hc1⟩ := Own.shape HO.out
      have HPL : Hid ((ptsAt p pl).length = k) := Lib.hid (by rw [ptsAt_length, HM.out])
      rw [HPL.out] at HO hc1 ⊢
      go_wp2
      go_ret
      exact ⟨A1, c1, rfl, hc1, HO.out, HW⟩
/-- The first k symbols, noughts behind. -/
def part (p q : List F8) (k : Nat) : List F8 := word p (q.take k) ++ List.replicate (q.length - k) 0
theorem part_length {p q : List F8} {k : Nat} (h : k ≤ q.length) : (part p q k).length = q.length := by
  rw [part, List.length_append, word_length, List.length_take, List.length_replicate]; omega
theorem part_set {p q : List F8} {k : Nat} (h : k < q.length) : (part p q k).set k (eval p (coef q k)) = part p q (k + 1) := by
  have hl : (word p (q.take k)).length = k := by rw [word_length, List.length_take]; omega
  unfold part
  rw [List.set_append_right _ _ (by omega), hl, Nat.sub_self, show q.length - k = q.length - (k + 1) + 1 by omega, List.replicate_succ, List.set_cons_zero, word, word, take_succ' q h, List.map_append, List.map_cons, List.map_nil, coef_of_lt h, List.append_assoc]
  rfl
set_option maxRecDepth 100000 in
set_option maxHeartbeats 4000000 in
theorem values_calls (S : Poly.Spec) (g : Nat) (A : Option Addr) (p : List F8) (m c : Nat) (B : Option Addr) (q : List F8) (n d : Nat) (w : World) (hm : p.length = m) (hb : Bytes w A (bs p)) (hc : m ≤ c) (hl : m ≤ 1000) (hn : q.length = n) (hb2 : Bytes w B (bs q)) (hn2 : n ≤ 1000000)
    (hf : FldP w (some ⟨g, 0, none⟩)) (hfa : Far (some ⟨g, 0, none⟩) A p) (hfb : Far (some ⟨g, 0, none⟩) B q) :
    Calls Try.prog 74 #[.agg #[.pointer (some ⟨g, 0, none⟩)], .slice A m c, .slice B n d] w fun e w' => PolyRes (some ⟨g, 0, none⟩) w w' e (word p q) := by
  have hglt := hf.fld.lt
  obtain ⟨w0, hw0⟩ : ∃ w0, w.alloc (.cells #[.pointer (some ⟨g, 0, none⟩)] 94) = w0 := ⟨_, rfl⟩
  have hz0 : w0.heap.size = w.heap.size + 1 := by rw [← hw0]; simp
  have hB0 : Below w.heap.size w w0 := by rw [← hw0]; exact (Below.refl _ _).alloc (Nat.le_refl _) _
  have hbl0 : Block w0 w.heap.size 94 #[.pointer (some ⟨g, 0, none⟩)] := by rw [← hw0]; exact Block.new w _ _
  obtain ⟨w1, hmk, hO1, hB1⟩ := make_run w0 n (by omega)
  rw [hz0] at hmk hO1 hB1
  have hBW : Below w.heap.size w w1 := hB0.trans (hB1.mono (by omega))
  have HO1 : Hid (Own w1 w.heap.size 5 (.slice (some ⟨w.heap.size + 1, 0, none⟩) n n) (bv (bs (part p q 0)))) := Lib.hid (by
    have : part p q 0 = List.replicate n 0 := by rw [part, hn]; rfl
    rw [this]; exact hO1.more (by omega))
  have HF1 : Hid (FldP w1 (some ⟨g, 0, none⟩)) := Lib.hid (hf.below hBW)
  have HP1 := Lib.hid (Past.of_below hBW g)
  have HC1 := Lib.hid (hbl0.below hB1 (by omega))
  have HB := Lib.hid hb
  have HB2 := Lib.hid hb2
  have HM := Lib.hid hm
  have HN := Lib.hid hn
  have HFA := Lib.hid hfa
  have HFB := Lib.hid hfb
  have HZ : Hid (w.heap.size < w1.heap.size) := Lib.hid (by have := hB1.size; omega)
  clear hb hb2 hm hn hfa hfb hO1 hB1 hB0 hbl0 hBW hf
  go_enter Try.func74, Try.ntmps74
  go_wp2
  go_loopw [15] (fun i wr => ∃ k : Nat, k ≤ n ∧ i = .int .i64 k ∧ Hid (Own wr w.heap.size 5 (.slice (some ⟨w.heap.size + 1, 0, none⟩) n n) (bv (bs (part p q k)))) ∧ Hid (FldP wr (some ⟨g, 0, none⟩)) ∧ Hid (Past w.heap.size g w wr) ∧ Hid (Block wr w.heap.size 94 #[.pointer (some ⟨g, 0, none⟩)])) (fun i _ => n - (intOf i).toNat)
  case atStart => exact ⟨0, by omega, rfl, HO1, HF1, HP1, HC1⟩
  case round =>
    clear HO1 HF1 HP1 HC1
    obtain ⟨k, hk, rfl, HO, HF, HP, HC⟩ := hrel
    by_cases hlt : k < n
    · have hkq : k < q.length := by rw [HN.out]; exact hlt
      have HBr := Lib.hid (bytes_far HB.out (fun hp a ha => HFA.out hp a _ ha rfl) HP.out)
      have HBr2 := Lib.hid (bytes_far HB2.out (fun hp a ha => HFB.out hp a _ ha rfl) HP.out)
      obtain ⟨b2, o2, rfl⟩ := where_ HB2.out (by omega)
      have hcell := cellAt HBr2.out k hkq
      have hcb := HC.out.cell 0
      obtain ⟨y, hy⟩ : ∃ y, eval p (coef q k) = y := ⟨_, rfl⟩
      have HT := Lib.hid (part_set (p := p) hkq)
      rw [hy] at HT
      have HY := Lib.hid hy
      clear hy
      obtain ⟨x, hx⟩ : ∃ x, coef q k = x := ⟨_, rfl⟩
      rw [hx] at hcell HY
      have HPL : Hid ((part p q k).length = n) := Lib.hid (by rw [part_length (by omega), HN.out])
      clear hx
      go_wp2_with fail
      refine (S.atP A p m c _ HM.out HBr.out hc hl _ HF.out HFA.out x).mono ?_
      rintro e w2 ⟨rfl, hf2, hp2⟩
      rw [HY.out]
      have hp2' : Past wr.heap.size g wr w2 := hp2
      have HO2 := Lib.hid (own_keep HO.out HF.out hp2')
      have hsz := HP.out.size
      have hP2 : Past w.heap.size g w w2 := HP.out.trans (hp2'.mono hsz)
      have hC2 : Block w2 w.heap.size 94 #[.pointer (some ⟨g, 0, none⟩)] := HC.out.past hp2' HC.out.lt (by omega)
      have hcs := own_cell HO2.out HPL.out (k := k) hlt
      have hfz := Own.frozenAt HO2.out (by rw [bvs_length, HPL.out]) k
      have HO3 : Hid (Own (w2.setCell ⟨w.heap.size + 1, k, none⟩ (.int .u8 (y.n : Int))) w.heap.size 5 (.slice (some ⟨w.heap.size + 1, 0, none⟩) n n) (bv (bs (part p q (k + 1))))) := Lib.hid (by rw [← HT.out]; exact own_set HO2.out HPL.out)
      have HF3 : Hid (FldP (w2.setCell ⟨w.heap.size + 1, k, none⟩ (.int .u8 (y.n : Int))) (some ⟨g, 0, none⟩)) := Lib.hid (FldP.of (hf2.fld.imp (fun h => h.far (by simp; omega) _) (fun h => h.far (by simp; omega) _)))
      have HP3 : Hid (Past w.heap.size g w (w2.setCell ⟨w.heap.size + 1, k, none⟩ (.int .u8 (y.n : Int)))) := Lib.hid (hP2.setCell (p := ⟨w.heap.size + 1, k, none⟩) (.inr (by simp)) _)
      have HC3 : Hid (Block (w2.setCell ⟨w.heap.size + 1, k, none⟩ (.int .u8 (y.n : Int))) w.heap.size 94 #[.pointer (some ⟨g, 0, none⟩)]) := Lib.hid (hC2.far (by simp) _)
      clear hp2 hp2' hP2 hC2 hf2 hcell hcb
      go_wp2
      go_roundw
      case rel => exact ⟨k + 1, by omega, by go_num, HO3, HF3, HP3, HC3⟩
      case measure => simp [intOf]; omega
    · obtain rfl : k = n := by omega
      have ht : part p q k = word p q := by rw [part, List.take_of_length_le (by rw [HN.out]; exact Nat.le_refl _), HN.out, Nat.sub_self]; simp
      have hwl : (word p q).length = k := by rw [word_length, HN.out]
      rw [ht] at HO
      have HWL := Lib.hid hwl
      clear ht hwl
      go_wp2
      go_ret
      refine ⟨some ⟨w.heap.size + 1, 0, none⟩, k, by rw [HWL.out]; rfl, by rw [HWL.out]; exact Nat.le_refl _, by rw [HWL.out]; exact HO.out, HF.out, HP.out⟩
set_option maxRecDepth 100000 in
set_option maxHeartbeats 4000000 in
theorem through_calls (S : Poly.Spec) (g : Nat) (A : Option Addr) (p : List F8) (m c : Nat) (B : Option Addr) (q : List F8) (d : Nat) (w : World) (hm : p.length = m) (hb : Bytes w A (bs p)) (hc : m ≤ c) (hl : m ≤ 1000) (hn : q.length = m) (hb2 : Bytes w B (bs q)) (hd : m ≤ d) (hnd : p.Nodup)
    (hf : FldP w (some ⟨g, 0, none⟩)) (hfa : Far (some ⟨g, 0, none⟩) A p) (hfb : Far (some ⟨g, 0, none⟩) B q) :
    Calls Try.prog 78 #[.agg #[.pointer (some ⟨g, 0, none⟩)], .slice A m c, .slice B m d] w fun e w' => ∃ r, Thru p q r ∧ PolyRes (some ⟨g, 0, none⟩) w w' e (full r m) := by
  have hglt := hf.fld.lt
  obtain ⟨w0, hw0⟩ : ∃ w0, w.alloc (.cells #[.pointer (some ⟨g, 0, none⟩)] 94) = w0 := ⟨_, rfl⟩
  have hz0 : w0.heap.size = w.heap.size + 1 := by rw [← hw0]; simp
  have hB0 : Below w.heap.size w w0 := by rw [← hw0]; exact (Below.refl _ _).alloc (Nat.le_refl _) _
  have hbl0 : Block w0 w.heap.size 94 #[.pointer (some ⟨g, 0, none⟩)] := by rw [← hw0]; exact Block.new w _ _
  have hcb := hbl0.cell 0
  have HT := Lib.hid (S.throughP A B p q m m c d w0 hm hn (hb.below hB0) (hb2.below hB0) hc hd hl hl (some ⟨g, 0, none⟩) (hf.below hB0) hfa hfb rfl hnd)
  have HM := Lib.hid hm
  have HB0 := Lib.hid hB0
  clear hb hb2 hm hn hfa hfb hf hbl0 hB0 hnd
  go_enter Try.func78, Try.ntmps78
  go_wp2_with fail
  refine HT.out.mono ?_
  rintro e w1 ⟨r, ht, A1, c1, rfl, hc1, hO1, hF1, hP1⟩
  have hrm : r.length ≤ m := by have := thru_length ht; rwa [HM.out] at this
  have HThr := Lib.hid ht
  have hP1' : Past w0.heap.size g w0 w1 := hP1
  obtain ⟨l, hlr⟩ : ∃ l, r.length = l := ⟨_, rfl⟩
  rw [hlr] at hrm hc1 hO1 ⊢
  have hk : (m : Int) - (l : Int) = ((m - l : Nat) : Int) := by omega
  have HPW := Lib.hid ((Past.of_below HB0.out g).trans (hP1'.mono (by omega)))
  have hOv : (bv (bs r)).length = l := by rw [bvs_length, hlr]
  have hO1' : Own w1 w0.heap.size 5 (.slice A1 l c1) (bv (bs r)) := hO1
  obtain ⟨v2, w2, hrun, hO2, hg2⟩ := run_app_zeros w1 22 w0.heap.size _ (bv (bs r)) hO1' (m - l) (by omega) (by rw [hOv]; omega) hP1'.size
  have hB2 := hO1'.grew hP1'.size hg2
  have hfull : bv (bs r) ++ bv (List.replicate (m - l) 0) = bv (bs (full r m)) := by
    rw [full, List.take_of_length_le (by omega), bs_append, bv_append, hlr]
    congr 2
    unfold bs; rw [List.map_replicate]; rfl
  rw [hfull] at hO2
  have hF2 : FldP w2 (some ⟨g, 0, none⟩) := FldP.of (hF1.fld.kept_grown hg2 (by omega : g < w0.heap.size) (fun k hk => (hO1'.lt k hk).1))
  have HF2 := Lib.hid hF2
  obtain ⟨A2, c2, rfl, hc2⟩ := Own.shape hO2
  have HO2 := Lib.hid hO2
  have HP2 := Lib.hid (HPW.out.trans (Past.of_below (hB2.mono (by omega)) g))
  have HLf : Hid ((full r m).length = m) := Lib.hid (full_length r m)
  rw [HLf.out] at HO2 hc2 hrun
  clear ht hP1 hP1' hO1 hO1' hO2 hg2 hB2 hfull hF1 hF2 HPW hlr hOv
  go_wp2_with (at_builtin; refine Lib.wpList_append_run _ rfl _ _ _ _ rfl _ _ rfl rfl _ _ hrun ?_)
  go_ret
  exact ⟨r, HThr.out, A2, c2, by rw [HLf.out]; rfl, by rw [HLf.out]; exact hc2, by rw [HLf.out]; exact HO2.out.more (by omega), HF2.out, HP2.out⟩
end Go.Proofs.Ytjpbdbgihakpmaa.Rd
