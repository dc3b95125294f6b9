/- The walk of ReedAny. -/
import Derived.Test.YtjpbdbgihakpmaaRdLaw2
namespace Go.Proofs.Ytjpbdbgihakpmaa.reedAny
open Go.RowKit F8 GF Poly Rd

set_option maxRecDepth 100000 in
set_option maxHeartbeats 8000000 in
theorem core (S : Poly.Spec) (w : World) (n0 n1 : Nat) (h0 : n0 < 256) (h1 : n1 < 256) (B : Option Addr) (q : List F8) (o d : Nat) (bits which : Nat) (hwh : which < 256) (y : F8) (ho : q.length = o) (hbq : Bytes w B (bs q)) :
    Calls Try.prog 7 #[.int .u8 (n0 : Nat), .int .u8 (n1 : Nat), .slice B o d, .int .u64 (bits : Nat), .int .u8 (which : Nat), .int .u8 (y.n : Nat)] w fun e w' => e = .returned (.bool true) ∧ Below w.heap.size w w' := by
  obtain ⟨N, hN⟩ : ∃ N : Nat, 1 + n0 % 20 = N := ⟨_, rfl⟩
  obtain ⟨K, hK⟩ : ∃ K : Nat, 1 + n1 % 20 = K := ⟨_, rfl⟩
  have eN : (1 : Int) + (n0 : Int) % 20 = (N : Int) := by omega
  have eK : (1 : Int) + (n1 : Int) % 20 = (K : Int) := by omega
  have hN20 : N ≤ 20 := by omega
  have hK20 : K ≤ 20 := by omega
  have hK1 : 1 ≤ K := by omega
  have HB := Lib.hid hbq
  have HO := Lib.hid ho
  clear hbq ho hN hK
  go_enter Try.func7, Try.ntmps7
  go_wp2_with fail
  refine (reed_calls N K (by omega) hK1 w).mono ?_
  clear eN eK h0 h1
  rintro e w1 hKR
  rcases hKR.start with ⟨hkn, b, A, c, rfl, -, -, HN⟩ | ⟨-, rfl, HBz⟩
  rotate_left
  · clear hKR
    go_wp2_with (go_at_call 24; (with_reducible refine (works_calls S _).mono ?_); rintro e wz ⟨rfl, HZ⟩)
    go_ret
    exact ⟨rfl, HBz.trans (HZ.mono HBz.size)⟩
  have HR := Lib.hid (HN.arg HB.out)
  clear hKR HN
  -- m := Full(msg, c.K())
  go_wp2_with fail
  refine (k_calls HR.out.cd).mono ?_
  rintro e w2 ⟨rfl, rfl⟩
  go_wp2_with fail
  refine (kfull_calls B q o d K w1 HO.out (HR.out.kw.bytes (by simp)) (by omega)).mono ?_
  rintro e w2 ⟨A2, c2, rfl, hc2, hO2, hB2⟩
  obtain ⟨m, hm⟩ : ∃ m, full q K = m := ⟨_, rfl⟩
  have hml : m.length = K := by rw [← hm, full_length]
  rw [hm] at hO2
  have HR2 := Lib.hid (HR.out.made hml hO2 hB2)
  have HML := Lib.hid hml
  clear hO2 hB2 hm hml HR
  -- w, e := c.Encode(m)
  go_wp2_with fail
  obtain ⟨wd, hwd⟩ : ∃ wd, word m (pts N) = wd := ⟨_, rfl⟩
  have hwl : wd.length = N := by rw [← hwd, word_length, pts_length]
  have HWD := Lib.hid hwd
  have HWL := Lib.hid hwl
  have hen : encR (pts N) K m = (wd, 0) := by rw [← hwd]; exact if_pos HML.out
  refine (encodeW S HR2.out A2 m K c2 (by simp) HML.out hc2 (by omega) wd 0 hen).mono ?_
  rintro e w3 ⟨A3, c3, rfl, hc3, HN⟩
  have HR3 := Lib.hid HN
  rw [HWL.out] at hc3 ⊢
  clear hwd hwl hen HN HR2
  -- l := Some(bits, len(w), len(w))
  go_wp2_with fail
  refine (some_calls bits N N (by omega) (by omega) w3).mono ?_
  rintro e w4 ⟨l, A4, c4, hok, hlm, rfl, hc4, hO4, hB4⟩
  obtain ⟨L, hL⟩ : ∃ L, l.length = L := ⟨_, rfl⟩
  rw [hL] at hlm hc4 hO4 ⊢
  have HL := Lib.hid hL
  have HOK := Lib.hid hok
  have HR4 := Lib.hid (HR3.out.below hB4)
  have HRow4 := Lib.hid (own_row hO4)
  have hz4 := HR4.out.kw.glt
  clear hL hok hO4 hB4 HR3
  go_wp2_with fail
  go_loopw [18, 19, 20] (fun u v i wr => ∃ (t : Nat) (z : Int), z = (t : Int) - 1 ∧ t ≤ L ∧ i = .int .i64 z ∧ Hid (Own wr w4.heap.size 3 u (zs (l.drop t).reverse)) ∧ Hid (Own wr w4.heap.size 5 v (bv (bs (ptsAt wd (l.drop t).reverse)))) ∧ Hid (Below w4.heap.size w4 wr)) (fun _ _ i _ => (intOf i + 1).toNat)
  case atStart => exact ⟨L, (L : Int) - 1, rfl, by omega, rfl, Lib.hid (by rw [List.drop_of_length_le (by rw [HL.out]; exact Nat.le_refl _)]; exact Own.nil _ _ _), Lib.hid (by rw [List.drop_of_length_le (by rw [HL.out]; exact Nat.le_refl _)]; exact Own.nil _ _ _), Lib.hid (Below.refl _ _)⟩
  case round =>
    obtain ⟨t, z, hz, ht, rfl, HU, HV, HW⟩ := hrel
    have hsz := HW.out.size
    cases t with
    | succ s =>
      obtain rfl : z = (s : Int) := by omega
      have hsl : s < l.length := by rw [HL.out]; omega
      have hsL : (s : Int) < (L : Int) := by omega
      obtain ⟨bl, ol, rfl, hcell⟩ := zs_at (HRow4.out.below HW.out) hsl
      have hin := HOK.out.1 l[s] (List.getElem_mem hsl)
      have HT1 := Lib.hid (drop_snoc hsl)
      obtain ⟨xz, hxz⟩ : ∃ xz, l[s] = xz := ⟨_, rfl⟩
      rw [hxz] at hcell hin HT1
      obtain ⟨x, rfl⟩ : ∃ x : Nat, xz = (x : Int) := ⟨xz.toNat, by omega⟩
      have hxN : (x : Int) < (N : Int) := by omega
      have hxw : x < wd.length := by rw [HWL.out]; omega
      have hbw := (HR4.out.below HW.out).kw.bytes (A := A3) (p := wd) (by simp)
      obtain ⟨bw, ow, rfl⟩ := where_ hbw (by omega)
      have hc2' := cellAt hbw x hxw
      obtain ⟨yv, hyv⟩ : ∃ yv, coef wd x = yv := ⟨_, rfl⟩
      have HU1 : Hid (zs (l.drop (s + 1)).reverse ++ zs [(x : Int)] = zs (l.drop s).reverse) := Lib.hid (by rw [HT1.out, zs_append])
      have HV1 : Hid (bv (bs (ptsAt wd (l.drop (s + 1)).reverse)) ++ bv [yv.n] = bv (bs (ptsAt wd (l.drop s).reverse))) := Lib.hid (by
        rw [HT1.out, ptsAt_app, bvs_snoc, Int.toNat_natCast, hyv])
      have HLU : Hid ((zs (l.drop (s + 1)).reverse).length ≤ 20) := Lib.hid (by rw [zs_length, List.length_reverse, List.length_drop, HL.out]; omega)
      have HLV : Hid ((bv (bs (ptsAt wd (l.drop (s + 1)).reverse))).length ≤ 20) := Lib.hid (by rw [bvs_length, ptsAt_length, List.length_reverse, List.length_drop, HL.out]; omega)
      rw [hyv] at hc2'
      have hcw := hc2'
      have HX := Lib.hid hxz
      have HYv := Lib.hid hyv
      clear hxz hyv hin hbw hc2' HT1 hz
      go_wp2_with (first
        | (at_builtin; refine wpList_app _ rfl _ _ _ rfl w4.heap.size 3 _ 8 Try.underlying30 info_i rfl (by omega) _ _ rfl (HU.out.alloc _) (some ⟨wr.heap.size, 0, none⟩) 1 1 (zs [(x : Int)]) rfl rfl (Row.new _ _ _ _) (zs_one _) (by have := HLU.out; omega) (by simp; omega) ?_; rintro v2 w5 hown hg5 -
           have hBw5 := (HW.out.alloc hsz (.cells #[.int .i64 (x : Int)] 3)).trans ((HU.out.alloc _).grew (by simp; omega) hg5)
           rw [HU1.out] at hown
           have HU5 := Lib.hid hown
           have HV5 := Lib.hid (own_other (HV.out.alloc _) (HU.out.alloc _) (by decide) hg5)
           have HW5 := Lib.hid hBw5
           have hsz5 := hBw5.size
           have hcell5 : w5.cell? ⟨bl, ol + s, none⟩ = some (.int .i64 (x : Int)) := by rw [cellI (HRow4.out.below hBw5) hsl, HX.out]
           have hcw5 : w5.cell? ⟨bw, ow + x, none⟩ = some (.int .u8 (yv.n : Int)) := by rw [cellAt ((HR4.out.below hBw5).kw.bytes (A := some ⟨bw, ow, none⟩) (p := wd) (by simp)) x hxw, HYv.out]
           clear hown hg5 hBw5 HU HV HW hcell hcw hxw)
        | (at_builtin; refine wpList_app _ rfl _ _ _ rfl w4.heap.size 5 _ 1 Try.underlying22 info_u8 rfl (by omega) _ _ rfl (HV5.out.alloc _) (some ⟨w5.heap.size, 0, none⟩) 1 1 (bv [yv.n]) rfl rfl (Row.new _ _ _ _) (bv_one _) (by have := HLV.out; omega) (by simp; omega) ?_; rintro v3 w6 hown hg6 -))
      rw [HV1.out] at hown
      have HV6 := Lib.hid hown
      have HU6 := Lib.hid (own_other (HU5.out.alloc _) (HV5.out.alloc _) (by decide) hg6)
      have HW6 := Lib.hid ((HW5.out.alloc hsz5 (.cells #[.int .u8 (yv.n : Nat)] 5)).trans ((HV5.out.alloc _).grew (by simp; omega) hg6))
      clear hown hg6
      go_roundw
      case rel => exact ⟨s, (s : Int) - 1, rfl, by omega, by go_num, HU6, HV6, HW6⟩
      case measure => simp [intOf]
    | zero =>
      have hz9 : z < 0 := by omega
      rw [List.drop_zero] at HU HV
      have HPK := Lib.hid (okP_reverse HOK.out)
      obtain ⟨pl, hpl⟩ : ∃ pl, l.reverse = pl := ⟨_, rfl⟩
      have hpll : pl.length = L := by rw [← hpl, List.length_reverse, HL.out]
      rw [hpl] at HU HV HPK
      obtain ⟨ys, hys⟩ : ∃ ys, ptsAt wd pl = ys := ⟨_, rfl⟩
      have hyl : ys.length = L := by rw [← hys, ptsAt_length, hpll]
      rw [hys] at HV
      obtain ⟨A6, c6, rfl, -, -⟩ := HU.out.form
      have hc6 := own_cap2 HU.out (by rw [zs_length])
      rw [zs_length, hpll] at HU hc6 ⊢
      obtain ⟨A7, c7, rfl, hc7⟩ := Own.shape HV.out
      rw [hyl] at HV hc7 ⊢
      have HPL := Lib.hid hpll
      have HYL := Lib.hid hyl
      have HRr := Lib.hid (HR4.out.below HW.out)
      have HYB := Lib.hid (Own.bytes HV.out)
      have HYF := Lib.hid (far_own HRr.out.cd.fld.fld HV.out)
      have hpk2 : OkP (pts N).length pl := by rw [pts_length]; exact HPK.out
      have HWY : Hid (word m (ptsAt (pts N) pl) = ys) := Lib.hid (by rw [← ptsAt_word m hpk2, HWD.out, hys])
      have HPK2 := Lib.hid hpk2
      have hnd : Hid ((pts N).Nodup) := Lib.hid (pts_nodup (by omega))
      clear hpl hpll hys hyl hpk2 HPK HRow4 HOK HL hz
      by_cases hLK : L < K
      · have hd := Lib.hid (dec_few ys (by rw [HPL.out, HYL.out]) HPK2.out (by rw [HPL.out]; exact hLK))
        have hLK2 : (L : Int) < (K : Int) := by omega
        go_wp2_with fail
        refine (decodeP' S HRr.out A6 pl L c6 HPL.out (own_row HU.out) (by omega) A7 ys L c7 HYB.out HYF.out HYL.out hc7 (by omega) [] 70 hd.out).mono ?_
        rintro e w7 ⟨A8, c8, rfl, hc8, hO8, HN, hP⟩
        have HR7 := Lib.hid HN
        clear HN hP hO8
        go_wp2_with fail
        refine (k_calls HR7.out.cd).mono ?_
        rintro e w8 ⟨rfl, rfl⟩
        go_wp2_with (go_at_call 24; (with_reducible refine (works_calls S _).mono ?_); rintro e wz ⟨rfl, HZ⟩)
        go_ret
        exact ⟨rfl, (HR7.out.kw.below HZ).bel⟩
      · have hKL : K ≤ L := by omega
        have hLK2 : ¬ (L : Int) < (K : Int) := by omega
        have hd := Lib.hid (dec_all m HPK2.out (by rw [HPL.out]; exact hKL) HML.out)
        rw [ptsAt_word m HPK2.out, HWY.out] at hd
        clear hLK
        go_wp2_with fail
        refine (decodeP' S HRr.out A6 pl L c6 HPL.out (own_row HU.out) (by omega) A7 ys L c7 HYB.out HYF.out HYL.out hc7 (by omega) m 0 hd.out).mono ?_
        rintro e w7 ⟨A8, c8, rfl, hc8, hO8, HN, hP⟩
        have HR7 := Lib.hid (HN.own hO8 (by have := HW.out.size; omega))
        have HP7 := Lib.hid hP
        rw [HML.out] at hc8 ⊢
        clear HN hP hO8 hd
        go_wp2_with fail
        refine (k_calls HR7.out.cd).mono ?_
        rintro e w8 ⟨rfl, rfl⟩
        go_wp2_with fail
        refine (sameW A8 A2 m m K K c8 c2 _ HR7.out.kw (by simp) (by simp) HML.out HML.out true (by simp)).mono ?_
        rintro e w8 ⟨rfl, rfl⟩
        have hL0 : ((L : Int) == 0) = false := by simp; omega
        obtain ⟨x, hx⟩ : ∃ x : Nat, which % L = x := ⟨_, rfl⟩
        have hxL : x < L := by rw [← hx]; exact Nat.mod_lt _ (by omega)
        have ex : (which : Int) % (L : Int) = (x : Int) := by rw [← hx]; simp
        have hxL2 : (x : Int) < (L : Int) := by omega
        have HV7 := own_past HV.out hz4 (HP7.out.mono (Nat.le_refl _))
        have HU7 := Lib.hid (own_past HU.out hz4 (HP7.out.mono (Nat.le_refl _)))
        obtain ⟨gt, ct, e1, hgt, hgt2, hct⟩ := HV7.form1 (by rw [bvs_length, HYL.out]; omega)
        simp only [Value.slice.injEq] at e1
        obtain ⟨rfl, -, rfl⟩ := e1
        have hcell := cellAt (Own.bytes HV7) x (by rw [HYL.out]; exact hxL)
        rw [Nat.zero_add] at hcell
        have hfr := HV7.frozenAt (by rw [bvs_length, HYL.out]) x
        have HV8 := HV7.set_ (by rw [bvs_length, HYL.out]) x (.int .u8 (((coef ys x + y).n : Nat) : Int))
        rw [bvs_put] at HV8
        have HU8 := Lib.hid (own_other HU7.out HV7 (by decide) (grown_set w7 ⟨gt, x, none⟩ (.int .u8 (((coef ys x + y).n : Nat) : Int))))
        have HP8 : Past w4.heap.size w.heap.size w4 (w7.setCell ⟨gt, x, none⟩ (.int .u8 (((coef ys x + y).n : Nat) : Int))) := ((Past.of_below HW.out w.heap.size).trans (HP7.out.mono HW.out.size)).setCell (.inr hgt) _
        have HF8 : FldP (w7.setCell ⟨gt, x, none⟩ (.int .u8 (((coef ys x + y).n : Nat) : Int))) (some ⟨w.heap.size, 0, none⟩) := FldP.of (HR7.out.cd.fld.fld.imp (fun h => h.far (by simp; omega) _) (fun h => h.far (by simp; omega) _))
        have HR8 := Lib.hid (HR4.out.past HF8 HP8)
        have HB8 := Lib.hid (Own.bytes HV8)
        have HY8 := Lib.hid (far_own HF8.fld HV8)
        obtain ⟨xv, hxv⟩ : ∃ xv, coef ys x = xv := ⟨_, rfl⟩
        have HT : Hid (ys.set x (coef ys x + y) = turn ys x y) := Lib.hid rfl
        rw [HT.out] at HB8 HY8
        rw [hxv] at hcell HR8 HU8 HB8
        have exor := f8_xor xv y
        have hTL : Hid ((turn ys x y).length = L) := Lib.hid (by rw [turn_length, HYL.out])
        have hzs8 : w4.heap.size ≤ (w7.setCell ⟨gt, x, none⟩ (.int .u8 (((xv + y).n : Nat) : Int))).heap.size := by rw [← hxv]; exact HP8.size
        clear hx HV7 HU7 HV8 HP8 HF8 HT hxv HP7 HU HV HYB HYF HRr
        go_wp2_with fail
        refine (decodeP S HR8.out A6 pl L c6 HPL.out (own_row HU8.out) (by omega) (some ⟨gt, 0, none⟩) (turn ys x y) L c7 HB8.out HY8.out hTL.out hc7 (by omega)).mono ?_
        rintro e w9 ⟨r, z2, hD, A9, c9, rfl, hc9, hO9, HN, -⟩
        have HR9 := Lib.hid (HN.own hO9 (by omega))
        obtain ⟨T1, T2⟩ := turned hnd.out HPK2.out (by rw [HPL.out]; exact hKL) HML.out HWY.out (by rw [HYL.out]; exact hxL) hD
        rw [HPL.out] at T1 T2
        clear HN hO9 hD HR8 HB8 HY8 hcell hfr ex exor HU8
        by_cases hy0 : y = 0
        · obtain ⟨rfl, hs⟩ := T1 (.inl hy0)
          rw [decide_eq_true hy0] at hs
          have hy1 : ((y.n : Int) == 0) = true := by rw [hy0]; rfl
          clear T1 T2 hy0
          go_wp2_with fail
          refine (sameW A9 A2 r m r.length K c9 c2 _ HR9.out.kw (by simp) (by simp) rfl HML.out true hs).mono ?_
          rintro e w10 ⟨rfl, rfl⟩
          go_wp2_with (go_at_call 24; (with_reducible refine (works_calls S _).mono ?_); rintro e wz ⟨rfl, HZ⟩)
          go_ret
          exact ⟨rfl, (HR9.out.kw.below HZ).bel⟩
        · have hy1 : ((y.n : Int) == 0) = false := by
            have : y.n ≠ 0 := fun e => hy0 (F8.ext e)
            simp; omega
          by_cases hLK3 : L = K
          · obtain ⟨rfl, hs⟩ := T1 (.inr hLK3)
            rw [decide_eq_false hy0] at hs
            have hLe : ((L : Int) == (K : Int)) = true := by simp; omega
            clear T1 T2 hy0 hLK3
            go_wp2_with fail
            refine (k_calls HR9.out.cd).mono ?_
            rintro e w10 ⟨rfl, rfl⟩
            go_wp2_with fail
            refine (sameW A9 A2 r m r.length K c9 c2 _ HR9.out.kw (by simp) (by simp) rfl HML.out false hs).mono ?_
            rintro e w10 ⟨rfl, rfl⟩
            go_wp2_with (go_at_call 24; (with_reducible refine (works_calls S _).mono ?_); rintro e wz ⟨rfl, HZ⟩)
            go_ret
            exact ⟨rfl, (HR9.out.kw.below HZ).bel⟩
          · have hz71 := T2 hy0 hLK3
            subst hz71
            have hLe : ((L : Int) == (K : Int)) = false := by simp; omega
            clear T1 T2 hy0 hLK3
            go_wp2_with fail
            refine (k_calls HR9.out.cd).mono ?_
            rintro e w10 ⟨rfl, rfl⟩
            go_wp2_with (go_at_call 24; (with_reducible refine (works_calls S _).mono ?_); rintro e wz ⟨rfl, HZ⟩)
            go_ret
            exact ⟨rfl, (HR9.out.kw.below HZ).bel⟩
theorem walk (S : Poly.Spec) (w : World) (n0 : Nat) (hn0 : n0 < 256) (n1 : Nat) (hn1 : n1 < 256) (A2 : Option Addr) (l2 : List Nat) (c2 : Nat) (hb2 : Bytes w A2 l2) (_hc2 : l2.length ≤ c2) (_hm2 : c2 ≤ 9223372036854775807) (n3 : Nat) (_hn3 : n3 < 18446744073709551616) (n4 : Nat) (hn4 : n4 < 256) (n5 : Nat) (hn5 : n5 < 256) :
    Calls Try.prog 7 #[.int .u8 (n0 : Nat), .int .u8 (n1 : Nat), .slice A2 l2.length c2, .int .u64 (n3 : Nat), .int .u8 (n4 : Nat), .int .u8 (n5 : Nat)] w fun e w' => e = .returned (.bool true) ∧ Below w.heap.size w w' := by
  obtain ⟨p2, rfl⟩ := of_bytes l2 hb2.lt
  exact core S w n0 n1 hn0 hn1 A2 p2 _ c2 n3 n4 hn4 ⟨n5, hn5⟩ (bs_length p2).symm hb2
end Go.Proofs.Ytjpbdbgihakpmaa.reedAny
