/- The walk of ReedNew. -/
import Derived.Test.YtjpbdbgihakpmaaRdLaw
namespace Go.Proofs.Ytjpbdbgihakpmaa.reedNew
open Go.RowKit F8 GF Poly Rd

set_option maxRecDepth 100000 in
set_option maxHeartbeats 4000000 in
theorem core (S : Poly.Spec) (w : World) (A : Option Addr) (p : List F8) (m c : Nat) (z : Int) (hm : p.length = m) (hbp : Bytes w A (bs p)) (hm9 : m ≤ 9223372036854775807) :
    Calls Try.prog 4 #[.slice A m c, .int .i64 z] w fun e w' => e = .returned (.bool true) ∧ Below w.heap.size w w' := by
  by_cases g0 : 300 < m
  · go_enter Try.func4, Try.ntmps4
    go_wp2_with (go_at_call 24; (with_reducible refine (works_calls S _).mono ?_); rintro e w1 ⟨rfl, HN⟩)
    go_ret
    exact ⟨rfl, HN⟩
  have k0 : m ≤ 300 := by omega
  clear g0
  have HB := Lib.hid hbp
  have HM := Lib.hid hm
  have hy1 := conv_f hbp m c hm
  have hy2 := conv_b p m hm w
  have hcy := le_grown w m
  have HB1 := Lib.hid (bw_below w p)
  have HC1 := Lib.hid (Conv.new w p hm)
  have HY1 := Lib.hid (bw_bytes w p)
  have hz1 : w.heap.size < (Lib.bytesWorld w 5 (str (bs p))).heap.size := by rw [Lib.bytesWorld_size]; omega
  clear hbp hm
  go_enter Try.func4, Try.ntmps4
  go_wp2_with fail
  clear hy1 hy2
  generalize grownCap w m 0 5 = cy at *
  generalize Lib.bytesWorld w 5 (str (bs p)) = w1 at *
  refine (newS _ (St.refl w1)).mono ?_
  rintro e w2 ⟨rfl, HN⟩
  have HW := Lib.hid ((W.start HN).arg HY1.out)
  clear HN
  go_wp2_with fail
  refine (newW HW.out _ p m cy z (by simp) HM.out hcy (by omega)).mono ?_
  rintro e w3 (⟨h0, b, A2, c2, k, hk, rfl, hb, hA, HN⟩ | ⟨h0, rfl, HN⟩)
  · have HR := Lib.hid HN
    have hz2 := HW.out.glt
    have HB3 : Hid (Below w.heap.size w w3) := Lib.hid (HB1.out.trans (HN.kw.bel.mono HB1.out.size))
    have HC3 : Hid (Conv w3 w.heap.size m) := Lib.hid (HC1.out.below HN.kw.bel)
    have HAne : Hid (∀ x, A2 = some x → x.block ≠ w.heap.size) := Lib.hid (fun x hx => by have := hA x hx; omega)
    have hne1 : b ≠ w.heap.size := by omega
    have hne2 : w1.heap.size ≠ w.heap.size := by omega
    subst hk
    have HNew := Lib.hid (refNew_calls A p m c (k : Int) w3 HM.out (HB.out.below HB3.out) (by omega))
    have H0 := Lib.hid h0
    clear HN h0 hA
    go_wp2_with fail
    refine HNew.out.mono ?_
    rintro e w4 ⟨rfl, q, rfl⟩
    rw [H0.out]
    have HC4 := Lib.hid (HC3.out.below (Below.drewN' (Below.refl _ _) q))
    have HCd4 := Lib.hid (HR.out.drewN q).cd
    have HB4 := Lib.hid (HB3.out.trans (Below.drewN' (Below.refl _ w3) q |>.mono HB3.out.size))
    clear HNew H0 HC3 HR HB3
    generalize w3.drewN q = w4 at *
    go_wp2_with fail
    go_loopw [8] (fun i wr => ∃ j : Nat, j ≤ m ∧ i = .int .i64 j ∧ Hid (Conv wr w.heap.size m) ∧ Hid (Past w4.heap.size w.heap.size w4 wr)) (fun i _ => m - (intOf i).toNat)
    case atStart => exact ⟨0, by omega, rfl, HC4, Lib.hid (Past.refl _ _ _)⟩
    case round =>
      obtain ⟨j, hj, rfl, HC, HP⟩ := hrel
      by_cases hjm : j < m
      · obtain ⟨⟨x, hx⟩, hfr⟩ := HC.out.cell hjm
        have HC2 := Lib.hid (HC.out.set_ j 0)
        have HP2 := Lib.hid (HP.out.setCell (p := ⟨w.heap.size, j, none⟩) (.inl rfl) (.int .u8 0))
        clear HC HP
        go_wp2
        go_roundw
        case rel => exact ⟨j + 1, by omega, by go_num, HC2, HP2⟩
        case measure => simp [intOf]; omega
      · obtain rfl : j = m := by omega
        have HCd := Lib.hid (HCd4.out.turn HP.out (Nat.le_refl _) hne1 hne2 HAne.out)
        have HBr : Hid (Below w.heap.size w wr) := Lib.hid (HB4.out.trans ((HP.out.below' (Nat.le_refl _) HB4.out.size)))
        clear HC HP HC4 HCd4 HB4 hjm hj
        obtain ⟨BB, hBB⟩ : ∃ BB, wr.heap.size = BB := ⟨_, rfl⟩
        have hblt := HCd.out.blk.lt
        have hglt := HCd.out.fld.fld.lt
        have hAlt := Lib.hid HCd.out.alt
        rw [hBB] at hblt hglt hAlt
        go_wp2_with fail
        refine (points_calls HCd.out).mono ?_
        rintro e w5 ⟨A5, c5, rfl, hc5, hO5, hB5⟩
        rw [hBB] at hO5
        have HO5 := Lib.hid hO5
        have HCd5 := Lib.hid (HCd.out.below hB5)
        have HB5 := Lib.hid (HBr.out.trans (hB5.mono HBr.out.size))
        have hs5 := hB5.size
        have hs6 := HBr.out.size
        clear hO5 hB5
        go_wp2_with fail
        refine (same_calls A5 A p p j j c5 c w5 HM.out HM.out (Own.bytes HO5.out) (HB.out.below HB5.out)).mono ?_
        rw [show decide (p = p) = true by simp]
        rintro e w6 ⟨rfl, rfl⟩
        go_wp2_with fail
        refine (k_calls HCd5.out).mono ?_
        rintro e w6 ⟨rfl, rfl⟩
        go_wp2_with fail
        refine (field_calls HCd5.out).mono ?_
        rintro e w6 ⟨rfl, rfl⟩
        go_wp2_with fail
        refine (mul_calls (some ⟨w1.heap.size, 0, none⟩) 2 128 (by decide) (by decide) w5 HCd5.out.fld).mono ?_
        rintro e w6 ⟨rfl, hF6, hP6⟩
        have hP6' : Past w5.heap.size w1.heap.size w5 w6 := hP6
        rw [show gm 2 128 = 29 by decide +kernel]
        have HCd6 := Lib.hid (HCd5.out.past hF6 hP6')
        have HO6 := Lib.hid (own_keep HO5.out HCd5.out.fld hP6')
        have HB6 : Hid (Below w.heap.size w w6) := Lib.hid (HB5.out.trans (hP6'.below' (by omega) HB5.out.size))
        have hs7 := hP6'.size
        clear hF6 hP6 hP6' HO5 HCd5 HB5 HCd HBr
        go_wp2_with fail
        go_loopw [11] (fun i wr => ∃ t : Nat, ∃ tv : List Nat, t ≤ j ∧ i = .int .i64 t ∧ Hid (tv.length = j) ∧ Hid (Own wr BB 5 (.slice A5 j c5) (bv tv)) ∧ Hid (Cd wr b w1.heap.size A2 p j c2 k) ∧ Hid (Below w.heap.size w wr)) (fun i _ => j - (intOf i).toNat)
        case atStart => exact ⟨0, bs p, by omega, rfl, Lib.hid (by rw [bs_length]; exact HM.out), HO6, HCd6, HB6⟩
        case round =>
          clear HO6 HCd6 HB6
          obtain ⟨t, tv, ht, rfl, HT, HO, HCd, HBz⟩ := hrel
          by_cases htj : t < j
          · have htt : t < (bv tv).length := by rw [bv_length, HT.out]; exact htj
            obtain ⟨gt, ct2, e1, hgt, hgt2, hct2⟩ := HO.out.form1 (by omega)
            simp only [Value.slice.injEq] at e1
            obtain ⟨rfl, _, rfl⟩ := e1
            have hcell := HO.out.cellAt (by rw [bv_length, HT.out]) t htt
            have hfr := HO.out.frozenAt (by rw [bv_length, HT.out]) t
            rw [bv_get] at hcell
            obtain ⟨xv, hxv⟩ : ∃ xv, tv[t]'(by rwa [bv_length] at htt) = xv := ⟨_, rfl⟩
            rw [hxv] at hcell
            have HT2 : Hid ((tv.set t 0).length = j) := Lib.hid (by rw [List.length_set]; exact HT.out)
            have HO2 := Lib.hid (HO.out.set_ (by rw [bv_length, HT.out]) t (.int .u8 ((0 : Nat) : Int)))
            rw [bv_set] at HO2
            have HBz2 := Lib.hid (HBz.out.setCell (p := ⟨gt, t, none⟩) (by simp; omega) (.int .u8 ((0 : Nat) : Int)))
            have HCd2 := Lib.hid (HCd.out.turn (B := wr.heap.size) ((Past.refl _ gt _).setCell (p := ⟨gt, t, none⟩) (.inl rfl) (.int .u8 ((0 : Nat) : Int))) (Nat.le_refl _) (by omega) (by omega) (fun x hx => by have := hAlt.out x hx; omega))
            clear hxv htt HO HT HCd HBz
            go_wp2
            go_roundw
            case rel => exact ⟨t + 1, tv.set t 0, by omega, by go_num, HT2, HO2, HCd2, HBz2⟩
            case measure => simp [intOf]; omega
          · obtain rfl : t = j := by omega
            go_wp2_with fail
            refine (points_calls HCd.out).mono ?_
            rintro e w8 ⟨A8, c8, rfl, hc8, hO8, hB8⟩
            have HO8 := Lib.hid hO8
            have HB8 := Lib.hid (HBz.out.trans (hB8.mono HBz.out.size))
            clear hO8 hB8
            go_wp2_with fail
            refine (same_calls A8 A p p t t c8 c w8 HM.out HM.out (Own.bytes HO8.out) (HB.out.below HB8.out)).mono ?_
            rw [show decide (p = p) = true by simp]
            rintro e w9 ⟨rfl, rfl⟩
            go_wp2_with (go_at_call 24; (with_reducible refine (works_calls S _).mono ?_); rintro e w10 ⟨rfl, HZ⟩)
            go_ret
            exact ⟨rfl, HB8.out.trans (HZ.mono HB8.out.size)⟩
  · have HB3 : Hid (Below w.heap.size w w3) := Lib.hid (HB1.out.trans (HN.bel.mono HB1.out.size))
    have HNew := Lib.hid (refNew_calls A p m c z w3 HM.out (HB.out.below HB3.out) (by omega))
    have H0 := Lib.hid h0
    clear HN HW HC1 HY1 h0
    go_wp2_with fail
    refine HNew.out.mono ?_
    rintro e w4 ⟨rfl, q, rfl⟩
    rw [H0.out]
    have HB4 := Lib.hid (HB3.out.trans (Below.drewN' (Below.refl _ w3) q |>.mono HB3.out.size))
    clear HNew H0 HB3
    generalize w3.drewN q = w4 at *
    go_wp2_with (go_at_call 24; (with_reducible refine (works_calls S _).mono ?_); rintro e wz ⟨rfl, HZ⟩)
    go_ret
    exact ⟨rfl, HB4.out.trans (HZ.mono HB4.out.size)⟩
theorem walk (S : Poly.Spec) (w : World) (A0 : Option Addr) (l0 : List Nat) (c0 : Nat) (hb0 : Bytes w A0 l0) (hc0 : l0.length ≤ c0) (hm0 : c0 ≤ 9223372036854775807) (n1 : Int) (_hl1 : -9223372036854775808 ≤ n1) (_hn1 : n1 < 9223372036854775808) :
    Calls Try.prog 4 #[.slice A0 l0.length c0, .int .i64 n1] w fun e w' => e = .returned (.bool true) ∧ Below w.heap.size w w' := by
  obtain ⟨p0, rfl⟩ := of_bytes l0 hb0.lt
  exact core S w A0 p0 _ c0 n1 (bs_length p0).symm hb0 (by omega)
end Go.Proofs.Ytjpbdbgihakpmaa.reedNew
