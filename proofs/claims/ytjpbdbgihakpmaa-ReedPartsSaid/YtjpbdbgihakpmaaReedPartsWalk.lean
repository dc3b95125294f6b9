/- The walk of ReedParts. -/
import Derived.Test.YtjpbdbgihakpmaaRdLaw2
namespace Go.Proofs.Ytjpbdbgihakpmaa.reedParts
open Go.RowKit F8 GF Poly Rd

set_option maxRecDepth 100000 in
set_option maxHeartbeats 8000000 in
theorem core (S : Poly.Spec) (w : World) (n0 n1 : Nat) (h0 : n0 < 256) (h1 : n1 < 256) (B : Option Addr) (q : List F8) (o d : Nat) (bits : Nat) (ho : q.length = o) (hbq : Bytes w B (bs q)) :
    Calls Try.prog 10 #[.int .u8 (n0 : Nat), .int .u8 (n1 : Nat), .slice B o d, .int .u64 (bits : Nat)] w fun e w' => e = .returned (.bool true) ∧ Below w.heap.size w w' := by
  obtain ⟨N, hN⟩ : ∃ N : Nat, 1 + n0 % 20 = N := ⟨_, rfl⟩
  obtain ⟨K, hK⟩ : ∃ K : Nat, 1 + n1 % 20 = K := ⟨_, rfl⟩
  have eN : (1 : Int) + (n0 : Int) % 20 = (N : Int) := by omega
  have eK : (1 : Int) + (n1 : Int) % 20 = (K : Int) := by omega
  have hN20 : N ≤ 20 := by omega
  have hK20 : K ≤ 20 := by omega
  have hK1 : 1 ≤ K := by omega
  have HB := Lib.hid hbq
  have HO := Lib.hid ho
  clear hbq ho hN hK
  go_enter Try.func10, Try.ntmps10
  go_wp2_with fail
  refine (reed_calls N K (by omega) hK1 w).mono ?_
  clear eN eK h0 h1
  rintro e w1 hKR
  rcases hKR.start with ⟨hkn, b, A, c, rfl, -, -, HN⟩ | ⟨-, rfl, HBz⟩
  rotate_left
  · clear hKR
    go_wp2_with (go_at_call 24; (with_reducible refine (works_calls S _).mono ?_); rintro e wz ⟨rfl, HZ⟩)
    go_ret
    exact ⟨rfl, HBz.trans (HZ.mono HBz.size)⟩
  have HR := Lib.hid (HN.arg HB.out)
  clear hKR HN
  -- m := Full(msg, c.K())
  go_wp2_with fail
  refine (k_calls HR.out.cd).mono ?_
  rintro e w2 ⟨rfl, rfl⟩
  go_wp2_with fail
  refine (kfull_calls B q o d K w1 HO.out (HR.out.kw.bytes (by simp)) (by omega)).mono ?_
  rintro e w2 ⟨A2, c2, rfl, hc2, hO2, hB2⟩
  obtain ⟨m, hm⟩ : ∃ m, full q K = m := ⟨_, rfl⟩
  have hml : m.length = K := by rw [← hm, full_length]
  rw [hm] at hO2
  have HR2 := Lib.hid (HR.out.made hml hO2 hB2)
  have HML := Lib.hid hml
  clear hO2 hB2 hm hml HR
  -- w, e := c.Encode(m)
  go_wp2_with fail
  obtain ⟨wd, hwd⟩ : ∃ wd, word m (pts N) = wd := ⟨_, rfl⟩
  have hwl : wd.length = N := by rw [← hwd, word_length, pts_length]
  have HWD := Lib.hid hwd
  have HWL := Lib.hid hwl
  have hen : encR (pts N) K m = (wd, 0) := by rw [← hwd]; exact if_pos HML.out
  refine (encodeW S HR2.out A2 m K c2 (by simp) HML.out hc2 (by omega) wd 0 hen).mono ?_
  rintro e w3 ⟨A3, c3, rfl, hc3, HN⟩
  have HR3 := Lib.hid HN
  rw [HWL.out] at hc3 ⊢
  clear hwd hwl hen HN HR2
  -- xs := c.Points()
  go_wp2_with fail
  refine (points_calls HR3.out.cd).mono ?_
  rintro e w4 ⟨A4, c4, rfl, hc4, hO4, hB4⟩
  have HR4 := Lib.hid (HR3.out.made (pts_length N) hO4 hB4)
  clear hO4 hB4 HR3
  -- l := Some(bits, len(xs), len(xs))
  go_wp2_with fail
  refine (some_calls bits N N (by omega) (by omega) w4).mono ?_
  rintro e w5 ⟨l, A5, c5, hok, hlm, rfl, hc5, hO5, hB5⟩
  obtain ⟨L, hL⟩ : ∃ L, l.length = L := ⟨_, rfl⟩
  rw [hL] at hlm hc5 hO5 ⊢
  have HL := Lib.hid hL
  have HOK := Lib.hid hok
  have HR5 := Lib.hid (HR4.out.below hB5)
  have HRow5 := Lib.hid (own_row hO5)
  have hz5 := HR5.out.kw.glt
  clear hL hok hO5 hB5 HR4
  go_wp2_with fail
  go_loopw [15, 16, 17] (fun u v i wr => ∃ t : Nat, t ≤ L ∧ i = .int .i64 t ∧ Hid (Own wr w5.heap.size 5 u (bv (bs (ptsAt (pts N) (l.take t))))) ∧ Hid (Own wr w5.heap.size 5 v (bv (bs (ptsAt wd (l.take t))))) ∧ Hid (v.ownBlock = none ∨ v.ownBlock ≠ u.ownBlock) ∧ Hid (Below w5.heap.size w5 wr)) (fun _ _ i _ => L - (intOf i).toNat)
  case atStart => exact ⟨0, by omega, rfl, Lib.hid (by rw [List.take_zero]; exact Own.nil _ _ _), Lib.hid (by rw [List.take_zero]; exact Own.nil _ _ _), Lib.hid (.inl rfl), Lib.hid (Below.refl _ _)⟩
  case round =>
    obtain ⟨t, ht, rfl, HU, HV, HNE, HW⟩ := hrel
    have hsz := HW.out.size
    by_cases htL : t < L
    · have hsl : t < l.length := by rw [HL.out]; exact htL
      obtain ⟨bl, ol, rfl, hcell⟩ := zs_at (HRow5.out.below HW.out) hsl
      have hin := HOK.out.1 l[t] (List.getElem_mem hsl)
      have HT1 : Hid (l.take (t + 1) = l.take t ++ [l[t]]) := Lib.hid (take_succ' l hsl)
      obtain ⟨xz, hxz⟩ : ∃ xz, l[t] = xz := ⟨_, rfl⟩
      rw [hxz] at hcell hin HT1
      obtain ⟨x, rfl⟩ : ∃ x : Nat, xz = (x : Int) := ⟨xz.toNat, by omega⟩
      have hxN : (x : Int) < (N : Int) := by omega
      have hxw : x < (pts N).length := by rw [pts_length]; omega
      have hxd : x < wd.length := by rw [HWL.out]; omega
      have hbw := (HR5.out.below HW.out).kw.bytes (A := A4) (p := pts N) (by simp)
      have hbd := (HR5.out.below HW.out).kw.bytes (A := A3) (p := wd) (by simp)
      obtain ⟨bw, ow, rfl⟩ := where_ hbw (by omega)
      obtain ⟨bd, od, rfl⟩ := where_ hbd (by omega)
      have hcw := cellAt hbw x hxw
      obtain ⟨yv, hyv⟩ : ∃ yv, coef (pts N) x = yv := ⟨_, rfl⟩
      obtain ⟨zv, hzv⟩ : ∃ zv, coef wd x = zv := ⟨_, rfl⟩
      have HU1 : Hid (bv (bs (ptsAt (pts N) (l.take t))) ++ bv [yv.n] = bv (bs (ptsAt (pts N) (l.take (t + 1))))) := Lib.hid (by
        rw [HT1.out, ptsAt_app, bvs_snoc, Int.toNat_natCast, hyv])
      have HV1 : Hid (bv (bs (ptsAt wd (l.take t))) ++ bv [zv.n] = bv (bs (ptsAt wd (l.take (t + 1))))) := Lib.hid (by
        rw [HT1.out, ptsAt_app, bvs_snoc, Int.toNat_natCast, hzv])
      have HLU : Hid ((bv (bs (ptsAt (pts N) (l.take t)))).length ≤ 20) := Lib.hid (by rw [bvs_length, ptsAt_length, List.length_take]; omega)
      have HLV : Hid ((bv (bs (ptsAt wd (l.take t)))).length ≤ 20) := Lib.hid (by rw [bvs_length, ptsAt_length, List.length_take]; omega)
      rw [hyv] at hcw
      have HX := Lib.hid hxz
      have HZv := Lib.hid hzv
      clear hxz hyv hzv hin hbw hbd
      go_wp2_with (first
        | (at_builtin; refine wpList_app _ rfl (.tmp 62) (.tmp 70) _ rfl w5.heap.size 5 _ 1 Try.underlying22 info_u8 rfl (by omega) _ _ rfl (HU.out.alloc _) (some ⟨wr.heap.size, 0, none⟩) 1 1 (bv [yv.n]) rfl rfl (Row.new _ _ _ _) (bv_one _) (by have := HLU.out; omega) (by simp; omega) ?_; rintro v2 w6 hown hg6 hat6
           have hBw6 := (HW.out.alloc hsz (.cells #[.int .u8 (yv.n : Nat)] 5)).trans ((HU.out.alloc _).grew (by simp; omega) hg6)
           rw [HU1.out] at hown
           have HU6 := Lib.hid hown
           have HV6 := Lib.hid ((HV.out.alloc (.cells #[.int .u8 (yv.n : Nat)] 5)).grown hg6 HNE.out)
           have HNE6 : Hid (u16.ownBlock = none ∨ u16.ownBlock ≠ v2.ownBlock) := Lib.hid (by
             rcases HNE.out with h | h
             · exact .inl h
             · rcases hat6 with h6 | h6
               · exact .inr (fun e => h (e.trans h6))
               · refine .inr ?_
                 rw [h6]
                 intro e
                 have := (HV.out.lt _ e).2
                 simp at this
                 omega)
           have HW6 := Lib.hid hBw6
           have hsz6 := hBw6.size
           have hcell6 : w6.cell? ⟨bl, ol + t, none⟩ = some (.int .i64 (x : Int)) := by rw [cellI (HRow5.out.below hBw6) hsl, HX.out]
           have hcd6 : w6.cell? ⟨bd, od + x, none⟩ = some (.int .u8 (zv.n : Int)) := by rw [cellAt ((HR5.out.below hBw6).kw.bytes (A := some ⟨bd, od, none⟩) (p := wd) (by simp)) x hxd, HZv.out]
           clear hown hg6 hBw6 hat6)
        | (at_builtin; refine wpList_app _ rfl (.tmp 72) (.tmp 80) _ rfl w5.heap.size 5 _ 1 Try.underlying22 info_u8 rfl (by omega) _ _ rfl (HV6.out.alloc _) (some ⟨w6.heap.size, 0, none⟩) 1 1 (bv [zv.n]) rfl rfl (Row.new _ _ _ _) (bv_one _) (by have := HLV.out; omega) (by simp; omega) ?_; rintro v3 w7 hown hg7 hat7))
      have hU7 := (HU6.out.alloc (.cells #[.int .u8 (zv.n : Nat)] 5)).grown hg7 (by
        rcases HNE6.out with h | h
        · rcases hu2 : v2.ownBlock with _ | k
          · exact .inl rfl
          · exact .inr (fun e => by have e2 : some k = u16.ownBlock := e; rw [h] at e2; cases e2)
        · exact .inr (fun e => h e.symm))
      have hNE7 : v3.ownBlock = none ∨ v3.ownBlock ≠ v2.ownBlock := by
        rcases hat7 with h7 | h7
        · rcases HNE6.out with h | h
          · exact .inl (h7.trans h)
          · exact .inr (fun e => h (h7.symm.trans e))
        · refine .inr ?_
          rw [h7]
          intro e
          have := (HU6.out.lt _ e.symm).2
          simp at this
          omega
      have hW7 := (HW6.out.alloc hsz6 (.cells #[.int .u8 (zv.n : Nat)] 5)).trans ((HV6.out.alloc _).grew (by simp; omega) hg7)
      rw [HV1.out] at hown
      have HU7 := Lib.hid hU7
      have HV7 := Lib.hid hown
      have HNE7 := Lib.hid hNE7
      have HW7 := Lib.hid hW7
      clear hown hg7 hat7 hU7 hNE7 hW7
      go_roundw
      case rel => exact ⟨t + 1, by omega, by go_num, HU7, HV7, HNE7, HW7⟩
      case measure => simp [intOf]; omega
    · obtain rfl : t = L := by omega
      have htk : l.take t = l := List.take_of_length_le (by rw [HL.out]; exact Nat.le_refl _)
      rw [htk] at HU HV
      obtain ⟨at_, hat⟩ : ∃ at_, ptsAt (pts N) l = at_ := ⟨_, rfl⟩
      have hok2 : OkP (pts N).length l := by rw [pts_length]; exact HOK.out
      have hatl : at_.length = t := by rw [← hat, ptsAt_length, HL.out]
      have hwa : ptsAt wd l = word m at_ := by rw [← HWD.out, ptsAt_word m hok2, hat]
      have hnw : newR at_ (K : Int) = if K ≤ t then 0 else 2 := by rw [← hat, newR_part (pts_nodup (by omega)) hok2 hK1, HL.out]
      rw [hat] at HU
      rw [hwa] at HV
      obtain ⟨wa, hwan⟩ : ∃ wa, word m at_ = wa := ⟨_, rfl⟩
      rw [hwan] at HV
      have hwal : wa.length = t := by rw [← hwan, word_length, hatl]
      obtain ⟨A6, c6, rfl, hc6⟩ := Own.shape HU.out
      obtain ⟨A7, c7, rfl, hc7⟩ := Own.shape HV.out
      rw [hatl] at HU hc6 ⊢
      rw [hwal] at HV hc7 ⊢
      have HAL := Lib.hid hatl
      have HWA := Lib.hid hwan
      have HWAL := Lib.hid hwal
      have HNW := Lib.hid hnw
      obtain ⟨w6, hw6⟩ : ∃ w6, wr = w6 := ⟨_, rfl⟩
      rw [hw6] at HU HV HW hsz ⊢
      have HR6 := Lib.hid (HR5.out.below HW.out)
      have HU6 := Lib.hid (Own.bytes HU.out)
      have HV6 := Lib.hid (Own.bytes HV.out)
      have HM6 := Lib.hid (HR6.out.kw.bytes (A := A2) (p := m) (by simp))
      obtain ⟨K1, hK1'⟩ : ∃ K1, K + 1 = K1 := ⟨_, rfl⟩
      have eK1 : (K : Int) + 1 = (K1 : Int) := by omega
      clear hat hatl htk HW HRow5 hw6 hwa hwan hwal hnw HU HV hok2
      go_wp2_with fail
      refine (newS _ (St.refl w6)).mono ?_
      rintro e w7 ⟨rfl, HN⟩
      have HS7 := Lib.hid (W.start HN)
      have HR7 := Lib.hid (HR6.out.below HS7.out.bel)
      clear HN
      go_wp2_with fail
      refine (k_calls HR7.out.cd).mono ?_
      rintro e w8 ⟨rfl, rfl⟩
      go_wp2_with fail
      refine (newW (HS7.out.arg HU6.out) A6 at_ t c6 (K : Int) (by simp) HAL.out hc6 (by omega)).mono ?_
      rintro e w8 (⟨hn8, b2, A8, c8, q8, hq8, rfl, -, -, HN⟩ | ⟨hn8, rfl, HN⟩)
      · have hKt : K ≤ t := by
          have := HNW.out
          rw [hn8] at this
          split at this
          · assumption
          · cases this
        have hKt2 : (K : Int) ≤ (t : Int) := by omega
        have hq8' : q8 = K := by omega
        rw [hq8'] at HN
        have HD8 := Lib.hid ((HN.arg HM6.out).arg HV6.out)
        have HR8 := Lib.hid (HR6.out.below HN.kw.bel)
        clear HN hq8 hq8' hn8
        go_wp2_with fail
        refine (k_calls HR8.out.cd).mono ?_
        rintro e w9 ⟨rfl, rfl⟩
        go_wp2_with fail
        have hen : encR at_ K m = (wa, 0) := by rw [← HWA.out]; exact if_pos HML.out
        refine (encodeW S HD8.out A2 m K c2 (by simp) HML.out hc2 (by omega) wa 0 hen).mono ?_
        rintro e w9 ⟨A9, c9, rfl, hc9, HN⟩
        have HD9 := Lib.hid HN
        have HR9 := Lib.hid (HR6.out.below HN.kw.bel)
        rw [HWAL.out] at hc9 ⊢
        clear HN hen HD8 HR8
        go_wp2_with fail
        refine (sameW A9 A7 wa wa t t c9 c7 _ HD9.out.kw (by simp) (by simp) HWAL.out HWAL.out true (by simp)).mono ?_
        rintro e w10 ⟨rfl, rfl⟩
        by_cases hKN : K = N
        · have hKN2 : ((K : Int) == (N : Int)) = true := by simp; omega
          go_wp2_with fail
          refine (k_calls HR9.out.cd).mono ?_
          rintro e w10 ⟨rfl, rfl⟩
          go_wp2_with (go_at_call 24; (with_reducible refine (works_calls S _).mono ?_); rintro e wz ⟨rfl, HZ⟩)
          go_ret
          exact ⟨rfl, (HR9.out.kw.below HZ).bel⟩
        · have hKN2 : ((K : Int) == (N : Int)) = false := by simp; omega
          go_wp2_with fail
          refine (k_calls HR9.out.cd).mono ?_
          rintro e w10 ⟨rfl, rfl⟩
          have HP10 := Lib.hid (HR9.out.kw.bytes (A := A4) (p := pts N) (by simp))
          have HW10 := Lib.hid (HR9.out.kw.bytes (A := A3) (p := wd) (by simp))
          go_wp2_with fail
          refine (newS _ (St.refl w9)).mono ?_
          rintro e w11 ⟨rfl, HN⟩
          have HS11 := Lib.hid (W.start HN)
          have HR11 := Lib.hid (HR9.out.below HS11.out.bel)
          clear HN
          go_wp2_with fail
          refine (k_calls HR11.out.cd).mono ?_
          rintro e w12 ⟨rfl, rfl⟩
          go_wp2_with fail
          refine (newW ((HS11.out.arg HP10.out).arg HW10.out) A4 (pts N) N c4 (K1 : Int) (by simp) (pts_length N) hc4 (by omega)).mono ?_
          have hN1 : newR (pts N) (K1 : Int) = 0 := if_pos ⟨pts_nodup (by omega), by omega, by rw [pts_length]; omega⟩
          rintro e w12 (⟨-, b3, A12, c12, q12, hq12, rfl, -, -, HN⟩ | ⟨h12, rfl, -⟩)
          rotate_left
          · rw [hN1] at h12; cases h12
          obtain ⟨-⟩ : True := trivial
          have hq12' : q12 = K1 := by omega
          rw [hq12'] at HN
          have HD12 := Lib.hid HN
          have HR12 := Lib.hid (HR9.out.below HN.kw.bel)
          clear HN hq12 hq12' hN1
          go_wp2_with fail
          refine (k_calls HR12.out.cd).mono ?_
          rintro e w13 ⟨rfl, rfl⟩
          go_wp2_with fail
          refine (kfull_calls A2 m K c2 K1 _ HML.out (HR12.out.kw.bytes (by simp)) (by omega)).mono ?_
          rintro e w13 ⟨A13, c13, rfl, hc13, hO13, hB13⟩
          obtain ⟨m2, hm2⟩ : ∃ m2, full m K1 = m2 := ⟨_, rfl⟩
          have hml2 : m2.length = K1 := by rw [← hm2, full_length]
          have hen : encR (pts N) K1 m2 = (wd, 0) := by
            rw [← HWD.out, ← full_more HML.out (pts N), hK1', hm2]; exact if_pos hml2
          rw [hm2] at hO13
          have HD13 := Lib.hid (HD12.out.made hml2 hO13 hB13)
          have HML2 := Lib.hid hml2
          have HEN := Lib.hid hen
          clear hO13 hB13 hm2 hml2 hen HD12 HR12
          go_wp2_with fail
          refine (encodeW S HD13.out A13 m2 K1 c13 (by simp) HML2.out hc13 (by omega) wd 0 HEN.out).mono ?_
          rintro e w14 ⟨A14, c14, rfl, hc14, HN⟩
          have HD14 := Lib.hid HN
          rw [HWL.out] at hc14 ⊢
          clear HN HD13
          go_wp2_with fail
          refine (sameW A14 A3 wd wd N N c14 c3 _ HD14.out.kw (by simp) (by simp) HWL.out HWL.out true (by simp)).mono ?_
          rintro e w15 ⟨rfl, rfl⟩
          have HR14 := Lib.hid (HR9.out.below HD14.out.kw.bel)
          go_wp2_with (go_at_call 24; (with_reducible refine (works_calls S _).mono ?_); rintro e wz ⟨rfl, HZ⟩)
          go_ret
          exact ⟨rfl, (HR14.out.kw.below HZ).bel⟩
      · have hKt : ¬ (K : Int) ≤ (t : Int) := by
          have := HNW.out
          rw [hn8] at this
          split at this
          · cases this
          · omega
        have HR8 := Lib.hid (HR6.out.below HN.bel)
        clear HN hn8
        go_wp2_with fail
        refine (k_calls HR8.out.cd).mono ?_
        rintro e w9 ⟨rfl, rfl⟩
        by_cases hKN : K = N
        · have hKN2 : ((K : Int) == (N : Int)) = true := by simp; omega
          go_wp2_with fail
          refine (k_calls HR8.out.cd).mono ?_
          rintro e w10 ⟨rfl, rfl⟩
          go_wp2_with (go_at_call 24; (with_reducible refine (works_calls S _).mono ?_); rintro e wz ⟨rfl, HZ⟩)
          go_ret
          exact ⟨rfl, (HR8.out.kw.below HZ).bel⟩
        · have hKN2 : ((K : Int) == (N : Int)) = false := by simp; omega
          go_wp2_with fail
          refine (k_calls HR8.out.cd).mono ?_
          rintro e w10 ⟨rfl, rfl⟩
          have HP10 := Lib.hid (HR8.out.kw.bytes (A := A4) (p := pts N) (by simp))
          have HW10 := Lib.hid (HR8.out.kw.bytes (A := A3) (p := wd) (by simp))
          go_wp2_with fail
          refine (newS _ (St.refl w8)).mono ?_
          rintro e w11 ⟨rfl, HN⟩
          have HS11 := Lib.hid (W.start HN)
          have HR11 := Lib.hid (HR8.out.below HS11.out.bel)
          clear HN
          go_wp2_with fail
          refine (k_calls HR11.out.cd).mono ?_
          rintro e w12 ⟨rfl, rfl⟩
          go_wp2_with fail
          refine (newW ((HS11.out.arg HP10.out).arg HW10.out) A4 (pts N) N c4 (K1 : Int) (by simp) (pts_length N) hc4 (by omega)).mono ?_
          have hN1 : newR (pts N) (K1 : Int) = 0 := if_pos ⟨pts_nodup (by omega), by omega, by rw [pts_length]; omega⟩
          rintro e w12 (⟨-, b3, A12, c12, q12, hq12, rfl, -, -, HN⟩ | ⟨h12, rfl, -⟩)
          rotate_left
          · rw [hN1] at h12; cases h12
          obtain ⟨-⟩ : True := trivial
          have hq12' : q12 = K1 := by omega
          rw [hq12'] at HN
          have HD12 := Lib.hid HN
          have HR12 := Lib.hid (HR8.out.below HN.kw.bel)
          clear HN hq12 hq12' hN1
          go_wp2_with fail
          refine (k_calls HR12.out.cd).mono ?_
          rintro e w13 ⟨rfl, rfl⟩
          go_wp2_with fail
          refine (kfull_calls A2 m K c2 K1 _ HML.out (HR12.out.kw.bytes (by simp)) (by omega)).mono ?_
          rintro e w13 ⟨A13, c13, rfl, hc13, hO13, hB13⟩
          obtain ⟨m2, hm2⟩ : ∃ m2, full m K1 = m2 := ⟨_, rfl⟩
          have hml2 : m2.length = K1 := by rw [← hm2, full_length]
          have hen : encR (pts N) K1 m2 = (wd, 0) := by
            rw [← HWD.out, ← full_more HML.out (pts N), hK1', hm2]; exact if_pos hml2
          rw [hm2] at hO13
          have HD13 := Lib.hid (HD12.out.made hml2 hO13 hB13)
          have HML2 := Lib.hid hml2
          have HEN := Lib.hid hen
          clear hO13 hB13 hm2 hml2 hen HD12 HR12
          go_wp2_with fail
          refine (encodeW S HD13.out A13 m2 K1 c13 (by simp) HML2.out hc13 (by omega) wd 0 HEN.out).mono ?_
          rintro e w14 ⟨A14, c14, rfl, hc14, HN⟩
          have HD14 := Lib.hid HN
          rw [HWL.out] at hc14 ⊢
          clear HN HD13
          go_wp2_with fail
          refine (sameW A14 A3 wd wd N N c14 c3 _ HD14.out.kw (by simp) (by simp) HWL.out HWL.out true (by simp)).mono ?_
          rintro e w15 ⟨rfl, rfl⟩
          have HR14 := Lib.hid (HR8.out.below HD14.out.kw.bel)
          go_wp2_with (go_at_call 24; (with_reducible refine (works_calls S _).mono ?_); rintro e wz ⟨rfl, HZ⟩)
          go_ret
          exact ⟨rfl, (HR14.out.kw.below HZ).bel⟩
theorem walk (S : Poly.Spec) (w : World) (n0 : Nat) (hn0 : n0 < 256) (n1 : Nat) (hn1 : n1 < 256) (A2 : Option Addr) (l2 : List Nat) (c2 : Nat) (hb2 : Bytes w A2 l2) (_hc2 : l2.length ≤ c2) (_hm2 : c2 ≤ 9223372036854775807) (n3 : Nat) (_hn3 : n3 < 18446744073709551616) :
    Calls Try.prog 10 #[.int .u8 (n0 : Nat), .int .u8 (n1 : Nat), .slice A2 l2.length c2, .int .u64 (n3 : Nat)] w fun e w' => e = .returned (.bool true) ∧ Below w.heap.size w w' := by
  obtain ⟨p2, rfl⟩ := of_bytes l2 hb2.lt
  exact core S w n0 n1 hn0 hn1 A2 p2 _ c2 n3 (bs_length p2).symm hb2
end Go.Proofs.Ytjpbdbgihakpmaa.reedParts
