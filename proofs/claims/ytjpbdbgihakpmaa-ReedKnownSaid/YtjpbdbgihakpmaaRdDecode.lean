/- What the program's Decode does. -/
import Derived.Test.YtjpbdbgihakpmaaRdCode3
import Derived.Deep.RegionHeld
namespace Go.Proofs.Ytjpbdbgihakpmaa.Rd
open Go.RowKit Go.Shelf F8 Poly GF
attribute [local go_sem] Oper.semAt_some

theorem Cd.c0 {w : World} {b g : Nat} {A : Option Addr} {xs : List F8} {n c k : Nat} (h : Cd w b g A xs n c k) : w.cell? ⟨b, 0, none⟩ = some (.pointer (some ⟨g, 0, none⟩)) := h.blk.cell 0
theorem Cd.c2 {w : World} {b g : Nat} {A : Option Addr} {xs : List F8} {n c k : Nat} (h : Cd w b g A xs n c k) : w.cell? ⟨b, 2, none⟩ = some (.int .i64 k) := h.blk.cell 2
theorem far_part {g : Nat} {A A2 : Option Addr} {p q : List F8} (h : Far (some ⟨g, 0, none⟩) A p) (hs : ∀ a, A2 = some a → ∃ a0, A = some a0 ∧ a0.block = a.block) (hq : q ≠ [] → p ≠ []) : Far (some ⟨g, 0, none⟩) A2 q := fun hq0 a b ha hb => by
  obtain ⟨a0, h1, h2⟩ := hs a ha
  have := h (hq hq0) a0 b h1 hb
  rw [← h2]; exact this
theorem take_ne {p : List F8} {k : Nat} (h : p.take k ≠ []) : p ≠ [] := fun e => h (by rw [e]; simp)
theorem drop_ne {p : List F8} {k : Nat} (h : p.drop k ≠ []) : p ≠ [] := fun e => h (by rw [e]; simp)
/-- What Decode gives. -/
def PDec (g : Nat) (w : World) (xs : List F8) (k : Nat) (pl : List Int) (ys : List F8) (e : Ending) (w' : World) : Prop := ∃ l n, DecIs xs k pl ys l n ∧ PolyResE (some ⟨g, 0, none⟩) w w' e l n
set_option maxRecDepth 100000 in
set_option maxHeartbeats 8000000 in
theorem decode_calls (S : Poly.Spec) {w : World} {b g : Nat} {A : Option Addr} {xs : List F8} {n c k : Nat} (h : Cd w b g A xs n c k) (B : Option Addr) (pl : List Int) (m d : Nat) (hl : pl.length = m) (hr : Row w B (zs pl)) (hm : m ≤ 1000)
    (C : Option Addr) (ys : List F8) (o e : Nat) (ho : ys.length = o) (hb2 : Bytes w C (bs ys)) (hoe : o ≤ e) (ho2 : o ≤ 1000) (hfar : Far (some ⟨g, 0, none⟩) C ys) :
    Calls Try.prog 35 #[.pointer (some ⟨b, 0, none⟩), .slice B m d, .slice C o e] w (PDec g w xs k pl ys) := by
  have h0 := h.blk.cell 0
  have h1 := h.blk.cell 1
  have h2 := h.blk.cell 2
  simp only [codeC] at h0 h1 h2
  have HC := Lib.hid h
  have n256 := h.n256
  have hkn := h.kn
  have HR := Lib.hid hr
  have HB2 := Lib.hid hb2
  have HM := Lib.hid hl
  have HO := Lib.hid ho
  have HFar := Lib.hid hfar
  clear hr hb2 hfar h
  by_cases hmo : m = o
  · have k1 : ((m : Int) != (o : Int)) = false := by simp; omega
    have HMO := Lib.hid hmo
    have hv := have_calls A n c n256 B pl m d w HM.out HR.out (by omega)
    by_cases hok : OkP n pl
    · rw [decide_eq_true hok] at hv
      have hok3 : pl.length = ys.length ∧ OkP xs.length pl := ⟨by omega, by rw [HC.out.len]; exact hok⟩
      have HOK := Lib.hid hok3
      have HOK2 := Lib.hid hok
      have HPN := Lib.hid (ptsAt_nodup HC.out.nd hok3.2)
      have HPL := Lib.hid (ptsAt_length xs pl)
      have HV := Lib.hid hv
      by_cases hmk : m < k
      · have HX : Hid (DecIs xs k pl ys [] 70) := Lib.hid (.inr (.inl ⟨hok3, by omega, rfl, rfl⟩))
        clear hok hok3 ho hl hv hmo
        go_enter Try.func35, Try.ntmps35
        go_wp2_with (first
          | (go_at_call 72; refine (isNone_calls HC.out.blk HC.out.k1).mono ?_; rintro e w1 ⟨rfl, rfl⟩)
          | (go_at_call 76; refine HV.out.mono ?_; rintro e w2 ⟨rfl, hB2⟩; have HC2 := HC.out.below hB2; have h3 := HC2.blk.cell 2; simp only [codeC] at h3))
        go_ret2
        exact ⟨[], 70, HX.out, none, 0, rfl, Nat.le_refl _, Own.nil _ _ _, HC2.fld, Past.of_below hB2 _⟩
      · have HKM : Hid (k ≤ m) := Lib.hid (by omega)
        clear hok hok3 ho hl hv hmo
        go_enter Try.func35, Try.ntmps35
        go_wp2_with (first
          | (go_at_call 72; refine (isNone_calls HC.out.blk HC.out.k1).mono ?_; rintro e w1 ⟨rfl, rfl⟩)
          | (go_at_call 76; refine HV.out.mono ?_; rintro e w2 ⟨rfl, hB2⟩; have HC2 := Lib.hid (HC.out.below hB2); have HBW := Lib.hid hB2; have h3 := HC2.out.blk.cell 2; have h4 := HC2.out.blk.cell 1; simp only [codeC] at h3 h4; clear hB2))
        refine (at_calls A xs n c B pl m d _ HC2.out.len HC2.out.by_ (by omega) HM.out (HR.out.below HBW.out) (by omega) HOK2.out).mono ?_
        rintro e w3 ⟨A3, c3, rfl, hc3, hO3, hB3⟩
        obtain ⟨pts, hpts⟩ : ∃ pts, ptsAt xs pl = pts := ⟨_, rfl⟩
        rw [hpts] at HPN HPL hO3
        have HPT := Lib.hid hpts
        have HO3 := Lib.hid hO3
        have HC3 := Lib.hid (HC2.out.below hB3)
        have HBW3 := Lib.hid (HBW.out.trans (hB3.mono HBW.out.size))
        have hpm : pts.length = m := by rw [HPL.out, HM.out]
        have HPM := Lib.hid hpm
        have hby3 : Bytes w3 A3 (bs pts) := Own.bytes HO3.out
        have hfar3 : Far (some ⟨g, 0, none⟩) A3 pts := far_own HC3.out.fld.fld HO3.out
        have hys3 : Bytes w3 C (bs ys) := HB2.out.below HBW3.out
        obtain ⟨P1, hs1, hp1, hk1⟩ := slice_to hby3 c3 k (by omega) (by omega)
        have hko : k ≤ o := by have := HMO.out; have := HKM.out; omega
        obtain ⟨Y1, hs2, hy1, hk2⟩ := slice_to hys3 e k (by have := HO.out; omega) (by have := HO.out; omega)
        rw [hpm] at hs1
        rw [HO.out] at hs2
        have HCd := Lib.hid HC3.out.drew
        have HT := Lib.hid (through_calls S g P1 (pts.take k) k c3 Y1 (ys.take k) e w3.drew (by rw [List.length_take]; omega) hp1.drew (by omega) (by omega) (by rw [List.length_take, HO.out]; omega) hy1.drew (by omega) (HPN.out.sublist (List.take_sublist _ _)) HC3.out.drew.fld (far_part hfar3 hk1 take_ne) (far_part HFar.out hk2 take_ne))
        clear hB3 hpts hO3 hpm hby3 hfar3 hys3 hp1 hy1 hk1 hk2 HBW HC2 HC HV h0 h1 h2 h3 h4
        go_wp2_with fail
        have d0 := HCd.out.c0
        have d2 := HCd.out.c2
        go_region_held (fun wz => wz.cell? ⟨b, 0, none⟩ = some (.pointer (some ⟨g, 0, none⟩)) ∧ wz.cell? ⟨b, 2, none⟩ = some (.int .i64 (k : Int))) (exact ⟨HCd.out.c0, HCd.out.c2⟩)
          ((go_at_call 78; (with_reducible refine HT.out.mono ?_); rintro e w4 ⟨r, ht, A4, c4, rfl, hc4, hO4, hF4, hP4⟩; replace HCd := Lib.hid (HC3.out.drew.past hF4 hP4); have d0 := HCd.out.c0; have d2 := HCd.out.c2))
        all_goals
          have hp4 : Past w3.drew.heap.size g w3.drew w4 := hP4
          have hfl : (full r k).length = k := full_length r k
          have hrk : r.length ≤ k := by have := thru_length ht; rw [List.length_take] at this; omega
          have HWd : Hid (word (full r k) (pts.take k) = ys.take k) := Lib.hid (by rw [word_congr (full_eqv hrk)]; exact thru_word (by rw [List.length_take, List.length_take, HPM.out, HO.out]; omega) ht)
          obtain ⟨msg, hmsg⟩ : ∃ msg, full r k = msg := ⟨_, rfl⟩
          rw [hmsg] at hfl HWd hO4 hc4 ⊢
          have HFL := Lib.hid hfl
          rw [hfl] at hO4 hc4 ⊢
          have HO4 := Lib.hid hO4
          have HC4 := Lib.hid (HC3.out.drew.past hF4 hp4)
          have HPW4 : Hid (Past w.heap.size g w w4) := Lib.hid (((Past.of_below HBW3.out g).drew).trans (hp4.mono HBW3.out.size))
          have hO3' := own_keep HO3.out.drew HC3.out.drew.fld hp4
          have hby4 : Bytes w4 A3 (bs pts) := Own.bytes hO3'
          have hfar4 : Far (some ⟨g, 0, none⟩) A3 pts := far_own HC4.out.fld.fld hO3'
          have hys4 : Bytes w4 C (bs ys) := bytes_far HB2.out (fun hp a ha => HFar.out hp a _ ha rfl) HPW4.out
          have hmb : Bytes w4 A4 (bs msg) := Own.bytes HO4.out
          have hmf : Far (some ⟨g, 0, none⟩) A4 msg := far_own HC4.out.fld.fld HO4.out
          obtain ⟨P2, hs3, hp2, hk3⟩ := slice_from hby4 c3 k (by have := HPM.out; omega) (by have := HPM.out; omega)
          obtain ⟨Y2, hs4, hy2, hk4⟩ := slice_from hys4 e k (by have := HO.out; omega) (by have := HO.out; omega)
          rw [HPM.out] at hs3
          rw [HO.out] at hs4
          have HY2 := Lib.hid hy2
          have HYF : Hid (Far (some ⟨g, 0, none⟩) Y2 (ys.drop k)) := Lib.hid (far_part HFar.out hk4 drop_ne)
          replace HCd := Lib.hid HC4.out.drew
          have HVv := Lib.hid (values_calls S g A4 msg k c4 P2 (pts.drop k) (m - k) (c3 - k) w4.drew HFL.out hmb.drew hc4 (by omega) (by rw [List.length_drop, HPM.out]) hp2.drew (by omega) HC4.out.drew.fld hmf (far_part hfar4 hk3 drop_ne))
          have HLw : Hid ((word msg (pts.drop k)).length = m - k) := Lib.hid (by rw [word_length, List.length_drop, HPM.out])
          have HLy : Hid ((ys.drop k).length = o - k) := Lib.hid (by rw [List.length_drop, HO.out])
          clear hmsg hP4 hp4 hrk ht hfl hO4 hO3' hby4 hfar4 hys4 hmb hmf hp2 hk3 hk4 hy2 hs1 hs2 HT hF4 d0 d2
          by_cases hdec : word msg (pts.drop k) = ys.drop k
          · have HX : Hid (DecIs xs k pl ys msg 0) := Lib.hid (.inr (.inr (.inl ⟨HOK.out, by have := HM.out; have := HKM.out; omega, rfl, HFL.out, by rw [HPT.out]; exact split_ok HWd.out hdec⟩)))
            have HDc := Lib.hid hdec
            clear hdec
            go_wp2_with fail
            have d0 := HCd.out.c0
            have d2 := HCd.out.c2
            go_region_held (fun wz => wz.cell? ⟨b, 0, none⟩ = some (.pointer (some ⟨g, 0, none⟩)) ∧ wz.cell? ⟨b, 2, none⟩ = some (.int .i64 (k : Int))) (exact ⟨HCd.out.c0, HCd.out.c2⟩)
              ((first
                | (go_at_call 74; (with_reducible refine HVv.out.mono ?_); rintro e w5 ⟨A5, c5, rfl, hc5, hO5, hF5, hP5⟩; have hp5 : Past w4.drew.heap.size g w4.drew w5 := hP5; have HPW5 : Hid (Past w.heap.size g w w5) := Lib.hid ((HPW4.out.drew).trans (hp5.mono HPW4.out.size)); have HO6 := Lib.hid (own_keep HO4.out.drew HC4.out.drew.fld hp5); replace HCd := Lib.hid (HC4.out.drew.past hF5 hp5); have d0 := HCd.out.c0; have d2 := HCd.out.c2; rw [HLw.out] at hO5 hc5 ⊢; have HE := Lib.hid (equal_calls A5 Y2 (word msg (pts.drop k)) (ys.drop k) (m - k) (o - k) c5 (e - k) w5 HLw.out HLy.out (Own.bytes hO5) (bytes_far HY2.out.drew (fun hp a ha => HYF.out hp a _ ha rfl) hP5)); clear hO5 hc5 hP5 hF5 hp5)
                | (go_at_call 79; (with_reducible refine HE.out.mono ?_); rintro e w6 ⟨rfl, rfl⟩; rw [decide_eq_true HDc.out])))
            all_goals
              go_wp2
              go_ret2
              exact ⟨msg, 0, HX.out, A4, c4, by rw [HFL.out]; rfl, by rw [HFL.out]; exact hc4, by rw [HFL.out]; exact HO6.out.more HBW3.out.size, HCd.out.fld, HPW5.out⟩
          · have HX : Hid (DecIs xs k pl ys [] 71) := Lib.hid (.inr (.inr (.inr ⟨HOK.out, by have := HM.out; have := HKM.out; omega, rfl, rfl, by rw [HPT.out]; exact split_no HFL.out (by rw [HPM.out]; exact HKM.out) HPN.out HWd.out hdec⟩)))
            have HDc := Lib.hid hdec
            clear hdec
            go_wp2_with fail
            have d0 := HCd.out.c0
            have d2 := HCd.out.c2
            go_region_held (fun wz => wz.cell? ⟨b, 0, none⟩ = some (.pointer (some ⟨g, 0, none⟩)) ∧ wz.cell? ⟨b, 2, none⟩ = some (.int .i64 (k : Int))) (exact ⟨HCd.out.c0, HCd.out.c2⟩)
              ((first
                | (go_at_call 74; (with_reducible refine HVv.out.mono ?_); rintro e w5 ⟨A5, c5, rfl, hc5, hO5, hF5, hP5⟩; have hp5 : Past w4.drew.heap.size g w4.drew w5 := hP5; have HPW5 : Hid (Past w.heap.size g w w5) := Lib.hid ((HPW4.out.drew).trans (hp5.mono HPW4.out.size)); have HO6 := Lib.hid (own_keep HO4.out.drew HC4.out.drew.fld hp5); replace HCd := Lib.hid (HC4.out.drew.past hF5 hp5); have d0 := HCd.out.c0; have d2 := HCd.out.c2; rw [HLw.out] at hO5 hc5 ⊢; have HE := Lib.hid (equal_calls A5 Y2 (word msg (pts.drop k)) (ys.drop k) (m - k) (o - k) c5 (e - k) w5 HLw.out HLy.out (Own.bytes hO5) (bytes_far HY2.out.drew (fun hp a ha => HYF.out hp a _ ha rfl) hP5)); clear hO5 hc5 hP5 hF5 hp5)
                | (go_at_call 79; (with_reducible refine HE.out.mono ?_); rintro e w6 ⟨rfl, rfl⟩; rw [decide_eq_false HDc.out])))
            all_goals
              go_wp2
              go_ret2
              exact ⟨[], 71, HX.out, none, 0, rfl, Nat.le_refl _, Own.nil _ _ _, HCd.out.fld, HPW5.out⟩
    · have hdf := hv
      rw [decide_eq_false hok] at hdf
      have HV := Lib.hid hdf
      have HX : Hid (DecIs xs k pl ys [] 2) := Lib.hid (.inl ⟨fun h => hok (by rw [← HC.out.len]; exact h.2), rfl, rfl⟩)
      clear hok ho hl hv hmo hdf
      go_enter Try.func35, Try.ntmps35
      go_wp2_with (first
        | (go_at_call 72; refine (isNone_calls HC.out.blk HC.out.k1).mono ?_; rintro e w1 ⟨rfl, rfl⟩)
        | (go_at_call 76; refine HV.out.mono ?_; rintro e w2 ⟨rfl, hB2⟩; have HC2 := HC.out.below hB2; have h3 := HC2.blk.cell 2; simp only [codeC] at h3))
      go_ret2
      exact ⟨[], 2, HX.out, none, 0, rfl, Nat.le_refl _, Own.nil _ _ _, HC2.fld, Past.of_below hB2 _⟩
  · have k1 : ((m : Int) != (o : Int)) = true := by simp; omega
    have HX : Hid (DecIs xs k pl ys [] 2) := Lib.hid (.inl ⟨fun h => hmo (by have := HM.out; have := HO.out; omega), rfl, rfl⟩)
    clear ho hl hmo
    go_enter Try.func35, Try.ntmps35
    go_wp2_with (go_at_call 72; refine (isNone_calls HC.out.blk HC.out.k1).mono ?_; rintro e w1 ⟨rfl, rfl⟩)
    go_ret2
    exact ⟨[], 2, HX.out, none, 0, rfl, Nat.le_refl _, Own.nil _ _ _, HC.out.fld, Past.refl _ _ _⟩
end Go.Proofs.Ytjpbdbgihakpmaa.Rd
