/- The walk of PointsFirst. -/
import Derived.Test.YtidelegamdibgaaPtSt
namespace Go.Proofs.Ytidelegamdibgaa.pointsFirst
open Go.RowKit GF Pt
theorem row_take {w : World} {A : Option Addr} {xs : List Value} (h : Row w A xs) (n : Nat) : Row w A (xs.take n) := fun k u hu => by
  refine h k u ?_
  rw [List.getElem?_take] at hu
  split at hu
  · exact hu
  · cases hu
theorem bytes_take {w : World} {A : Option Addr} {l : List Nat} (h : Bytes w A l) (n : Nat) : Bytes w A (l.take n) :=
  ⟨by have := row_take h.row n; simpa [bv, List.map_take] using this, fun x hx => h.lt x (List.mem_of_mem_take hx)⟩
theorem pts_pre {n m : Nat} (h : n ≤ m) : (pts m).take n = pts n := by
  unfold pts
  rw [← List.map_take, List.take_range, Nat.min_eq_left h]
theorem gpts_pre {s t G H : Nat} (h : H ≤ G) : (gpts s t G).take (H * s) = gpts s t H := by
  unfold gpts
  rw [← List.map_take, List.take_range, Nat.min_eq_left (Nat.mul_le_mul_right s h)]
theorem ofR_bad {n : Int} (h : ¬ (0 ≤ n ∧ n ≤ 255)) : ofR n = ([], 2) := if_neg h
theorem ofR_ok {n : Int} (N : Nat) (h : n = N) (h2 : N ≤ 255) : ofR n = (pts N, 0) := by
  subst h
  unfold ofR
  rw [if_pos (by omega), Int.toNat_natCast]
theorem spreadR_is (n a : Int) : spreadR n a = ([], 2) ∨ (spreadR n a = (pts n.toNat, 0) ∧ 0 ≤ n ∧ n ≤ 255) := by
  unfold spreadR
  have := lim_le a.toNat
  split
  · exact .inr ⟨rfl, by omega, by omega⟩
  · exact .inl rfl
theorem cosetsR_is (r G : Int) : cosetsR r G = ([], 2) ∨ ∃ m s t H : Nat, r = m ∧ m + 1 = s ∧ 1 ≤ m ∧ m ≤ 254 ∧ 255 % s = 0 ∧ 255 / s = t ∧ G = H ∧ H ≤ t ∧ cosetsR r G = (gpts s t H, 0) := by
  by_cases h : 1 ≤ r ∧ r ≤ 254 ∧ 255 % (r + 1) = 0 ∧ 0 ≤ G ∧ G ≤ 255 / (r + 1)
  · obtain ⟨h1, h2, h3, h4, h5⟩ := id h
    obtain ⟨m, rfl⟩ : ∃ m : Nat, r = (m : Int) := ⟨r.toNat, by omega⟩
    obtain ⟨H, rfl⟩ : ∃ H : Nat, G = (H : Int) := ⟨G.toNat, by omega⟩
    refine .inr ⟨m, m + 1, 255 / (m + 1), H, rfl, rfl, by omega, by omega, ?_, rfl, rfl, ?_, ?_⟩
    · have e : (255 : Int) % ((m : Int) + 1) = ((255 % (m + 1) : Nat) : Int) := by simp
      rw [e] at h3; omega
    · have e : (255 : Int) / ((m : Int) + 1) = ((255 / (m + 1) : Nat) : Int) := by simp
      rw [e] at h5; omega
    · unfold cosetsR
      rw [if_pos h, Int.toNat_natCast, Int.toNat_natCast]
  · exact .inl (if_neg h)
theorem cosetsR_ok {m s t H : Nat} (hs : m + 1 = s) (h1 : 1 ≤ m) (h2 : m ≤ 254) (h3 : 255 % s = 0) (h4 : 255 / s = t) (h5 : H ≤ t) : cosetsR (m : Int) (H : Int) = (gpts s t H, 0) := by
  unfold cosetsR
  have e1 : (255 : Int) % ((m : Int) + 1) = ((255 % s : Nat) : Int) := by rw [← hs]; simp
  have e2 : (255 : Int) / ((m : Int) + 1) = ((255 / s : Nat) : Int) := by rw [← hs]; simp
  rw [e1, e2, if_pos (by omega), Int.toNat_natCast, Int.toNat_natCast, hs, h4]
--WALK
set_option maxRecDepth 100000 in
set_option maxHeartbeats 8000000 in
theorem walk (w : World) (n0 : Int) (_hl0 : -9223372036854775808 ≤ n0) (_hn0 : n0 < 9223372036854775808) (n1 : Int) (_hl1 : -9223372036854775808 ≤ n1) (_hn1 : n1 < 9223372036854775808) (n2 : Int) (_hl2 : -9223372036854775808 ≤ n2) (_hn2 : n2 < 9223372036854775808) (n3 : Int) (_hl3 : -9223372036854775808 ≤ n3) (hn3 : n3 < 9223372036854775808) (n4 : Int) (_hl4 : -9223372036854775808 ≤ n4) (_hn4 : n4 < 9223372036854775808) :
    Calls Try.prog 9 #[.int .i64 n0, .int .i64 n1, .int .i64 n2, .int .i64 n3, .int .i64 n4] w fun e w' => e = .returned (.bool true) ∧ Below w.heap.size w w' := by
  have H0 := W.start w
  have hX := cosetsR_is n3 n4
  go_enter Try.func9, Try.ntmps9
  go_wp2_with fail
  refine (new_calls _).mono ?_
  rintro e wn ⟨rfl, rfl⟩
  by_cases hv0 : 0 ≤ n0 ∧ n0 ≤ 255
  · obtain ⟨hva, hvb⟩ := hv0
    obtain ⟨M0, rfl⟩ : ∃ M : Nat, n0 = (M : Int) := ⟨n0.toNat, by omega⟩
    have hM0 : M0 ≤ 255 := by omega
    have HR0 := Lib.hid (ofR_ok M0 rfl hM0)
    have HM0 := Lib.hid (pts_length M0)
    go_wp2_with fail
    have hK := ofW H0 (k := 0) HM0.out (M0 : Int) HR0.out
    with_reducible refine hK.mono ?_
    clear hK
    rintro e w1 ⟨A1, c1, rfl, hc1, hA1, -, H1, -⟩
    by_cases hv1 : 0 ≤ n1 ∧ n1 ≤ 255
    · obtain ⟨hvc, hvd⟩ := hv1
      obtain ⟨M1, rfl⟩ : ∃ M : Nat, n1 = (M : Int) := ⟨n1.toNat, by omega⟩
      have hM1 : M1 ≤ 255 := by omega
      have HR1 := Lib.hid (ofR_ok M1 rfl hM1)
      have HM1 := Lib.hid (pts_length M1)
      go_wp2_with fail
      have hK := ofW H1 (k := 0) HM1.out (M1 : Int) HR1.out
      with_reducible refine hK.mono ?_
      clear hK
      rintro e w2 ⟨A2, c2, rfl, hc2, hA2, -, H2, -⟩
      by_cases hle : M0 ≤ M1
      · have HP := Lib.hid (pts_pre hle)
        have hpre := bytes_take (H2.bytes (A := A2) (n := M1) (c := c2) (l := pts M1) (pts_lt _) (by simp)) M0
        rw [HP.out] at hpre
        have hle2 : ¬ ((M1 : Int) < (M0 : Int)) := by omega
        rcases hA2 with ⟨rfl, rfl, rfl⟩ | ⟨b2, rfl, hb2⟩
        · obtain rfl : M0 = 0 := by omega
          go_wp2_with fail
          refine (sameN_calls A1 _ (pts 0) (pts 0) 0 0 c1 _ _ rfl rfl (H2.bytes (A := A1) (n := 0) (c := c1) (pts_lt _) (by simp)) (Bytes.nil _ _) true (by simp)).mono ?_
          rintro e w4 ⟨rfl, rfl⟩
          rcases spreadR_is (0 : Int) n2 with hS | ⟨hS, _, _⟩
          · have HS := Lib.hid hS
            clear hS
            go_wp2_with fail
            have hK := spreadW H2 (l := []) (k := 2) (m := 0) rfl (0 : Int) n2 HS.out
            with_reducible refine hK.mono ?_
            clear hK
            rintro e w3 ⟨A3, c3, rfl, hc3, -, -, H3, -⟩
            clear H0 H1 H2
            rcases hX with hX | ⟨m, s, t, G, rfl, hms, hm0, hm, hs, ht, rfl, hGt, hX⟩
            · have HX := Lib.hid hX
              clear hX
              go_wp2_with fail
              have hK := cosetsW H3 (l := []) (k := 2) (m := 0) rfl n3 n4 hn3 HX.out
              with_reducible refine hK.mono ?_
              clear hK
              rintro e w4 ⟨A4, c4, rfl, hc4, -, -, H4, -⟩
              go_wp2_with fail
              refine (works_calls _).mono ?_
              rintro e wz ⟨rfl, hBz⟩
              replace hBz := H4.bel.trans (hBz.mono H4.bel.size)
              go_wp2
              go_ret
              exact ⟨rfl, hBz⟩
            · have hlen : (gpts s t G).length = G * s := gpts_length s t G
              have hGs : G * s ≤ 255 := Nat.le_trans (Nat.mul_le_mul_right s hGt) (by rw [← ht]; exact Nat.div_mul_le_self _ _)
              obtain ⟨N, hN⟩ : ∃ N, G * s = N := ⟨_, rfl⟩
              rw [hN] at hlen hGs
              have HX := Lib.hid hX
              have HLEN := Lib.hid hlen
              clear hX hlen
              by_cases hG : G = 0
              · subst hG
                have HX0 := Lib.hid (show cosetsR (m : Int) 0 = (gpts s t 0, 0) from HX.out)
                go_wp2_with fail
                have hK := cosetsW H3 (k := 0) HLEN.out (m : Int) 0 hn3 HX0.out
                with_reducible refine hK.mono ?_
                clear hK
                rintro e w4 ⟨A4, c4, rfl, hc4, -, -, H4, -⟩
                go_wp2_with fail
                refine (works_calls _).mono ?_
                rintro e wz ⟨rfl, hBz⟩
                replace hBz := H4.bel.trans (hBz.mono H4.bel.size)
                go_wp2
                go_ret
                exact ⟨rfl, hBz⟩
              · obtain ⟨K, hKG⟩ : ∃ K, K + 1 = G := ⟨G - 1, by omega⟩
                obtain ⟨N2, hN2⟩ : ∃ N2, K * s = N2 := ⟨_, rfl⟩
                have hNN : N2 + s = N := by rw [← hN, ← hN2, ← hKG, Nat.add_mul, Nat.one_mul]
                have HX2 : Hid (cosetsR (m : Int) ((G : Int) - 1) = (gpts s t K, 0)) := Lib.hid (by rw [show (G : Int) - 1 = (K : Int) by omega]; exact cosetsR_ok (H := K) hms hm0 hm hs ht (by omega))
                have HL2 := Lib.hid (show (gpts s t K).length = N2 by rw [gpts_length, hN2])
                have HPRE : Hid ((gpts s t G).take N2 = gpts s t K) := Lib.hid (by rw [← hN2]; exact gpts_pre (by omega))
                have HPROD : Hid ((s : Int) * (G : Int) = (N : Int)) := Lib.hid (by rw [← hN, Int.natCast_mul, Int.mul_comm])
                have HMS2 := Lib.hid (show (m : Int) + 1 = (s : Int) by omega)
                have HSUB2 := Lib.hid (show (N : Int) - (m : Int) - 1 = (N2 : Int) by omega)
                have hG0 : ¬ (G = 0) := hG
                have hNpos : 0 < N := by omega
                have hlt1 : ¬ ((G : Int) < 1) := by omega
                have hlt2 : decide ((G : Int) < 1) = false := by simp; omega
                have hN2le : N2 ≤ N := by omega
                have hm1 : 1 ≤ m := hm0
                clear hN hN2 hNN hs ht hms hKG hG hGt
                go_wp2_with fail
                have hK := cosetsW H3 (k := 0) HLEN.out (m : Int) (G : Int) hn3 HX.out
                with_reducible refine hK.mono ?_
                clear hK
                rintro e w4 ⟨A4, c4, rfl, hc4, hA4, -, H4, -⟩
                go_wp2_with fail
                have hK := cosetsW H4 (k := 0) HL2.out (m : Int) ((G : Int) - 1) hn3 HX2.out
                with_reducible refine hK.mono ?_
                clear hK
                rintro e w5 ⟨A5, c5, rfl, hc5, -, -, H5, -⟩
                obtain ⟨b4, rfl, hb4⟩ : ∃ b, A4 = some ⟨b, 0, none⟩ ∧ w3.heap.size ≤ b := by
                  rcases hA4 with ⟨_, h, _⟩ | h
                  · omega
                  · exact h
                have hpre := bytes_take (H5.bytes (A := some ⟨b4, 0, none⟩) (n := N) (c := c4) (l := gpts s t G) (gpts_lt _ _ _) (by simp)) N2
                rw [HPRE.out] at hpre
                have hms2 := HMS2.out
                have hprod := HPROD.out
                have hsub2 := HSUB2.out
                go_wp2_with fail
                refine (sameN_calls A5 _ (gpts s t K) (gpts s t K) N2 N2 c5 c4 _ HL2.out HL2.out (H5.bytes (A := A5) (n := N2) (c := c5) (gpts_lt _ _ _) (by simp)) hpre true (by simp)).mono ?_
                rintro e w6 ⟨rfl, rfl⟩
                go_wp2_with fail
                refine (works_calls _).mono ?_
                rintro e wz ⟨rfl, hBz⟩
                replace hBz := H5.bel.trans (hBz.mono H5.bel.size)
                go_wp2
                go_ret
                exact ⟨rfl, hBz⟩
          · rw [show ((0 : Int)).toNat = 0 from rfl] at hS
            have HS := Lib.hid hS
            clear hS
            go_wp2_with fail
            have hK := spreadW H2 (k := 0) HM0.out (0 : Int) n2 HS.out
            with_reducible refine hK.mono ?_
            clear hK
            rintro e w3 ⟨A3, c3, rfl, hc3, -, -, H3, -⟩
            clear H0 H1 H2
            go_wp2_with fail
            refine (sameW H3 (A := A1) (B := A3) (m := 0) (n := 0) (c := c1) (d := c3) (p := pts 0) (q := pts 0) (by simp) (by simp) HM0.out HM0.out (pts_lt _) (pts_lt _) true (by simp)).mono ?_
            rintro e w4 ⟨rfl, rfl⟩
            rcases hX with hX | ⟨m, s, t, G, rfl, hms, hm0, hm, hs, ht, rfl, hGt, hX⟩
            · have HX := Lib.hid hX
              clear hX
              go_wp2_with fail
              have hK := cosetsW H3 (l := []) (k := 2) (m := 0) rfl n3 n4 hn3 HX.out
              with_reducible refine hK.mono ?_
              clear hK
              rintro e w4 ⟨A4, c4, rfl, hc4, -, -, H4, -⟩
              go_wp2_with fail
              refine (works_calls _).mono ?_
              rintro e wz ⟨rfl, hBz⟩
              replace hBz := H4.bel.trans (hBz.mono H4.bel.size)
              go_wp2
              go_ret
              exact ⟨rfl, hBz⟩
            · have hlen : (gpts s t G).length = G * s := gpts_length s t G
              have hGs : G * s ≤ 255 := Nat.le_trans (Nat.mul_le_mul_right s hGt) (by rw [← ht]; exact Nat.div_mul_le_self _ _)
              obtain ⟨N, hN⟩ : ∃ N, G * s = N := ⟨_, rfl⟩
              rw [hN] at hlen hGs
              have HX := Lib.hid hX
              have HLEN := Lib.hid hlen
              clear hX hlen
              by_cases hG : G = 0
              · subst hG
                have HX0 := Lib.hid (show cosetsR (m : Int) 0 = (gpts s t 0, 0) from HX.out)
                go_wp2_with fail
                have hK := cosetsW H3 (k := 0) HLEN.out (m : Int) 0 hn3 HX0.out
                with_reducible refine hK.mono ?_
                clear hK
                rintro e w4 ⟨A4, c4, rfl, hc4, -, -, H4, -⟩
                go_wp2_with fail
                refine (works_calls _).mono ?_
                rintro e wz ⟨rfl, hBz⟩
                replace hBz := H4.bel.trans (hBz.mono H4.bel.size)
                go_wp2
                go_ret
                exact ⟨rfl, hBz⟩
              · obtain ⟨K, hKG⟩ : ∃ K, K + 1 = G := ⟨G - 1, by omega⟩
                obtain ⟨N2, hN2⟩ : ∃ N2, K * s = N2 := ⟨_, rfl⟩
                have hNN : N2 + s = N := by rw [← hN, ← hN2, ← hKG, Nat.add_mul, Nat.one_mul]
                have HX2 : Hid (cosetsR (m : Int) ((G : Int) - 1) = (gpts s t K, 0)) := Lib.hid (by rw [show (G : Int) - 1 = (K : Int) by omega]; exact cosetsR_ok (H := K) hms hm0 hm hs ht (by omega))
                have HL2 := Lib.hid (show (gpts s t K).length = N2 by rw [gpts_length, hN2])
                have HPRE : Hid ((gpts s t G).take N2 = gpts s t K) := Lib.hid (by rw [← hN2]; exact gpts_pre (by omega))
                have HPROD : Hid ((s : Int) * (G : Int) = (N : Int)) := Lib.hid (by rw [← hN, Int.natCast_mul, Int.mul_comm])
                have HMS2 := Lib.hid (show (m : Int) + 1 = (s : Int) by omega)
                have HSUB2 := Lib.hid (show (N : Int) - (m : Int) - 1 = (N2 : Int) by omega)
                have hG0 : ¬ (G = 0) := hG
                have hNpos : 0 < N := by omega
                have hlt1 : ¬ ((G : Int) < 1) := by omega
                have hlt2 : decide ((G : Int) < 1) = false := by simp; omega
                have hN2le : N2 ≤ N := by omega
                have hm1 : 1 ≤ m := hm0
                clear hN hN2 hNN hs ht hms hKG hG hGt
                go_wp2_with fail
                have hK := cosetsW H3 (k := 0) HLEN.out (m : Int) (G : Int) hn3 HX.out
                with_reducible refine hK.mono ?_
                clear hK
                rintro e w4 ⟨A4, c4, rfl, hc4, hA4, -, H4, -⟩
                go_wp2_with fail
                have hK := cosetsW H4 (k := 0) HL2.out (m : Int) ((G : Int) - 1) hn3 HX2.out
                with_reducible refine hK.mono ?_
                clear hK
                rintro e w5 ⟨A5, c5, rfl, hc5, -, -, H5, -⟩
                obtain ⟨b4, rfl, hb4⟩ : ∃ b, A4 = some ⟨b, 0, none⟩ ∧ w3.heap.size ≤ b := by
                  rcases hA4 with ⟨_, h, _⟩ | h
                  · omega
                  · exact h
                have hpre := bytes_take (H5.bytes (A := some ⟨b4, 0, none⟩) (n := N) (c := c4) (l := gpts s t G) (gpts_lt _ _ _) (by simp)) N2
                rw [HPRE.out] at hpre
                have hms2 := HMS2.out
                have hprod := HPROD.out
                have hsub2 := HSUB2.out
                go_wp2_with fail
                refine (sameN_calls A5 _ (gpts s t K) (gpts s t K) N2 N2 c5 c4 _ HL2.out HL2.out (H5.bytes (A := A5) (n := N2) (c := c5) (gpts_lt _ _ _) (by simp)) hpre true (by simp)).mono ?_
                rintro e w6 ⟨rfl, rfl⟩
                go_wp2_with fail
                refine (works_calls _).mono ?_
                rintro e wz ⟨rfl, hBz⟩
                replace hBz := H5.bel.trans (hBz.mono H5.bel.size)
                go_wp2
                go_ret
                exact ⟨rfl, hBz⟩
        · go_wp2_with fail
          refine (sameN_calls A1 _ (pts M0) (pts M0) M0 M0 c1 c2 _ HM0.out HM0.out (H2.bytes (A := A1) (n := M0) (c := c1) (pts_lt _) (by simp)) hpre true (by simp)).mono ?_
          rintro e w4 ⟨rfl, rfl⟩
          rcases spreadR_is (M0 : Int) n2 with hS | ⟨hS, _, _⟩
          · have HS := Lib.hid hS
            clear hS
            go_wp2_with fail
            have hK := spreadW H2 (l := []) (k := 2) (m := 0) rfl (M0 : Int) n2 HS.out
            with_reducible refine hK.mono ?_
            clear hK
            rintro e w3 ⟨A3, c3, rfl, hc3, -, -, H3, -⟩
            clear H0 H1 H2
            rcases hX with hX | ⟨m, s, t, G, rfl, hms, hm0, hm, hs, ht, rfl, hGt, hX⟩
            · have HX := Lib.hid hX
              clear hX
              go_wp2_with fail
              have hK := cosetsW H3 (l := []) (k := 2) (m := 0) rfl n3 n4 hn3 HX.out
              with_reducible refine hK.mono ?_
              clear hK
              rintro e w4 ⟨A4, c4, rfl, hc4, -, -, H4, -⟩
              go_wp2_with fail
              refine (works_calls _).mono ?_
              rintro e wz ⟨rfl, hBz⟩
              replace hBz := H4.bel.trans (hBz.mono H4.bel.size)
              go_wp2
              go_ret
              exact ⟨rfl, hBz⟩
            · have hlen : (gpts s t G).length = G * s := gpts_length s t G
              have hGs : G * s ≤ 255 := Nat.le_trans (Nat.mul_le_mul_right s hGt) (by rw [← ht]; exact Nat.div_mul_le_self _ _)
              obtain ⟨N, hN⟩ : ∃ N, G * s = N := ⟨_, rfl⟩
              rw [hN] at hlen hGs
              have HX := Lib.hid hX
              have HLEN := Lib.hid hlen
              clear hX hlen
              by_cases hG : G = 0
              · subst hG
                have HX0 := Lib.hid (show cosetsR (m : Int) 0 = (gpts s t 0, 0) from HX.out)
                go_wp2_with fail
                have hK := cosetsW H3 (k := 0) HLEN.out (m : Int) 0 hn3 HX0.out
                with_reducible refine hK.mono ?_
                clear hK
                rintro e w4 ⟨A4, c4, rfl, hc4, -, -, H4, -⟩
                go_wp2_with fail
                refine (works_calls _).mono ?_
                rintro e wz ⟨rfl, hBz⟩
                replace hBz := H4.bel.trans (hBz.mono H4.bel.size)
                go_wp2
                go_ret
                exact ⟨rfl, hBz⟩
              · obtain ⟨K, hKG⟩ : ∃ K, K + 1 = G := ⟨G - 1, by omega⟩
                obtain ⟨N2, hN2⟩ : ∃ N2, K * s = N2 := ⟨_, rfl⟩
                have hNN : N2 + s = N := by rw [← hN, ← hN2, ← hKG, Nat.add_mul, Nat.one_mul]
                have HX2 : Hid (cosetsR (m : Int) ((G : Int) - 1) = (gpts s t K, 0)) := Lib.hid (by rw [show (G : Int) - 1 = (K : Int) by omega]; exact cosetsR_ok (H := K) hms hm0 hm hs ht (by omega))
                have HL2 := Lib.hid (show (gpts s t K).length = N2 by rw [gpts_length, hN2])
                have HPRE : Hid ((gpts s t G).take N2 = gpts s t K) := Lib.hid (by rw [← hN2]; exact gpts_pre (by omega))
                have HPROD : Hid ((s : Int) * (G : Int) = (N : Int)) := Lib.hid (by rw [← hN, Int.natCast_mul, Int.mul_comm])
                have HMS2 := Lib.hid (show (m : Int) + 1 = (s : Int) by omega)
                have HSUB2 := Lib.hid (show (N : Int) - (m : Int) - 1 = (N2 : Int) by omega)
                have hG0 : ¬ (G = 0) := hG
                have hNpos : 0 < N := by omega
                have hlt1 : ¬ ((G : Int) < 1) := by omega
                have hlt2 : decide ((G : Int) < 1) = false := by simp; omega
                have hN2le : N2 ≤ N := by omega
                have hm1 : 1 ≤ m := hm0
                clear hN hN2 hNN hs ht hms hKG hG hGt
                go_wp2_with fail
                have hK := cosetsW H3 (k := 0) HLEN.out (m : Int) (G : Int) hn3 HX.out
                with_reducible refine hK.mono ?_
                clear hK
                rintro e w4 ⟨A4, c4, rfl, hc4, hA4, -, H4, -⟩
                go_wp2_with fail
                have hK := cosetsW H4 (k := 0) HL2.out (m : Int) ((G : Int) - 1) hn3 HX2.out
                with_reducible refine hK.mono ?_
                clear hK
                rintro e w5 ⟨A5, c5, rfl, hc5, -, -, H5, -⟩
                obtain ⟨b4, rfl, hb4⟩ : ∃ b, A4 = some ⟨b, 0, none⟩ ∧ w3.heap.size ≤ b := by
                  rcases hA4 with ⟨_, h, _⟩ | h
                  · omega
                  · exact h
                have hpre := bytes_take (H5.bytes (A := some ⟨b4, 0, none⟩) (n := N) (c := c4) (l := gpts s t G) (gpts_lt _ _ _) (by simp)) N2
                rw [HPRE.out] at hpre
                have hms2 := HMS2.out
                have hprod := HPROD.out
                have hsub2 := HSUB2.out
                go_wp2_with fail
                refine (sameN_calls A5 _ (gpts s t K) (gpts s t K) N2 N2 c5 c4 _ HL2.out HL2.out (H5.bytes (A := A5) (n := N2) (c := c5) (gpts_lt _ _ _) (by simp)) hpre true (by simp)).mono ?_
                rintro e w6 ⟨rfl, rfl⟩
                go_wp2_with fail
                refine (works_calls _).mono ?_
                rintro e wz ⟨rfl, hBz⟩
                replace hBz := H5.bel.trans (hBz.mono H5.bel.size)
                go_wp2
                go_ret
                exact ⟨rfl, hBz⟩
          · rw [show ((M0 : Int)).toNat = M0 from rfl] at hS
            have HS := Lib.hid hS
            clear hS
            go_wp2_with fail
            have hK := spreadW H2 (k := 0) HM0.out (M0 : Int) n2 HS.out
            with_reducible refine hK.mono ?_
            clear hK
            rintro e w3 ⟨A3, c3, rfl, hc3, -, -, H3, -⟩
            clear H0 H1 H2
            go_wp2_with fail
            refine (sameW H3 (A := A1) (B := A3) (m := M0) (n := M0) (c := c1) (d := c3) (p := pts M0) (q := pts M0) (by simp) (by simp) HM0.out HM0.out (pts_lt _) (pts_lt _) true (by simp)).mono ?_
            rintro e w4 ⟨rfl, rfl⟩
            rcases hX with hX | ⟨m, s, t, G, rfl, hms, hm0, hm, hs, ht, rfl, hGt, hX⟩
            · have HX := Lib.hid hX
              clear hX
              go_wp2_with fail
              have hK := cosetsW H3 (l := []) (k := 2) (m := 0) rfl n3 n4 hn3 HX.out
              with_reducible refine hK.mono ?_
              clear hK
              rintro e w4 ⟨A4, c4, rfl, hc4, -, -, H4, -⟩
              go_wp2_with fail
              refine (works_calls _).mono ?_
              rintro e wz ⟨rfl, hBz⟩
              replace hBz := H4.bel.trans (hBz.mono H4.bel.size)
              go_wp2
              go_ret
              exact ⟨rfl, hBz⟩
            · have hlen : (gpts s t G).length = G * s := gpts_length s t G
              have hGs : G * s ≤ 255 := Nat.le_trans (Nat.mul_le_mul_right s hGt) (by rw [← ht]; exact Nat.div_mul_le_self _ _)
              obtain ⟨N, hN⟩ : ∃ N, G * s = N := ⟨_, rfl⟩
              rw [hN] at hlen hGs
              have HX := Lib.hid hX
              have HLEN := Lib.hid hlen
              clear hX hlen
              by_cases hG : G = 0
              · subst hG
                have HX0 := Lib.hid (show cosetsR (m : Int) 0 = (gpts s t 0, 0) from HX.out)
                go_wp2_with fail
                have hK := cosetsW H3 (k := 0) HLEN.out (m : Int) 0 hn3 HX0.out
                with_reducible refine hK.mono ?_
                clear hK
                rintro e w4 ⟨A4, c4, rfl, hc4, -, -, H4, -⟩
                go_wp2_with fail
                refine (works_calls _).mono ?_
                rintro e wz ⟨rfl, hBz⟩
                replace hBz := H4.bel.trans (hBz.mono H4.bel.size)
                go_wp2
                go_ret
                exact ⟨rfl, hBz⟩
              · obtain ⟨K, hKG⟩ : ∃ K, K + 1 = G := ⟨G - 1, by omega⟩
                obtain ⟨N2, hN2⟩ : ∃ N2, K * s = N2 := ⟨_, rfl⟩
                have hNN : N2 + s = N := by rw [← hN, ← hN2, ← hKG, Nat.add_mul, Nat.one_mul]
                have HX2 : Hid (cosetsR (m : Int) ((G : Int) - 1) = (gpts s t K, 0)) := Lib.hid (by rw [show (G : Int) - 1 = (K : Int) by omega]; exact cosetsR_ok (H := K) hms hm0 hm hs ht (by omega))
                have HL2 := Lib.hid (show (gpts s t K).length = N2 by rw [gpts_length, hN2])
                have HPRE : Hid ((gpts s t G).take N2 = gpts s t K) := Lib.hid (by rw [← hN2]; exact gpts_pre (by omega))
                have HPROD : Hid ((s : Int) * (G : Int) = (N : Int)) := Lib.hid (by rw [← hN, Int.natCast_mul, Int.mul_comm])
                have HMS2 := Lib.hid (show (m : Int) + 1 = (s : Int) by omega)
                have HSUB2 := Lib.hid (show (N : Int) - (m : Int) - 1 = (N2 : Int) by omega)
                have hG0 : ¬ (G = 0) := hG
                have hNpos : 0 < N := by omega
                have hlt1 : ¬ ((G : Int) < 1) := by omega
                have hlt2 : decide ((G : Int) < 1) = false := by simp; omega
                have hN2le : N2 ≤ N := by omega
                have hm1 : 1 ≤ m := hm0
                clear hN hN2 hNN hs ht hms hKG hG hGt
                go_wp2_with fail
                have hK := cosetsW H3 (k := 0) HLEN.out (m : Int) (G : Int) hn3 HX.out
                with_reducible refine hK.mono ?_
                clear hK
                rintro e w4 ⟨A4, c4, rfl, hc4, hA4, -, H4, -⟩
                go_wp2_with fail
                have hK := cosetsW H4 (k := 0) HL2.out (m : Int) ((G : Int) - 1) hn3 HX2.out
                with_reducible refine hK.mono ?_
                clear hK
                rintro e w5 ⟨A5, c5, rfl, hc5, -, -, H5, -⟩
                obtain ⟨b4, rfl, hb4⟩ : ∃ b, A4 = some ⟨b, 0, none⟩ ∧ w3.heap.size ≤ b := by
                  rcases hA4 with ⟨_, h, _⟩ | h
                  · omega
                  · exact h
                have hpre := bytes_take (H5.bytes (A := some ⟨b4, 0, none⟩) (n := N) (c := c4) (l := gpts s t G) (gpts_lt _ _ _) (by simp)) N2
                rw [HPRE.out] at hpre
                have hms2 := HMS2.out
                have hprod := HPROD.out
                have hsub2 := HSUB2.out
                go_wp2_with fail
                refine (sameN_calls A5 _ (gpts s t K) (gpts s t K) N2 N2 c5 c4 _ HL2.out HL2.out (H5.bytes (A := A5) (n := N2) (c := c5) (gpts_lt _ _ _) (by simp)) hpre true (by simp)).mono ?_
                rintro e w6 ⟨rfl, rfl⟩
                go_wp2_with fail
                refine (works_calls _).mono ?_
                rintro e wz ⟨rfl, hBz⟩
                replace hBz := H5.bel.trans (hBz.mono H5.bel.size)
                go_wp2
                go_ret
                exact ⟨rfl, hBz⟩
      · have hle2 : (M1 : Int) < (M0 : Int) := by omega
        rcases spreadR_is (M0 : Int) n2 with hS | ⟨hS, _, _⟩
        · have HS := Lib.hid hS
          clear hS
          go_wp2_with fail
          have hK := spreadW H2 (l := []) (k := 2) (m := 0) rfl (M0 : Int) n2 HS.out
          with_reducible refine hK.mono ?_
          clear hK
          rintro e w3 ⟨A3, c3, rfl, hc3, -, -, H3, -⟩
          clear H0 H1 H2
          rcases hX with hX | ⟨m, s, t, G, rfl, hms, hm0, hm, hs, ht, rfl, hGt, hX⟩
          · have HX := Lib.hid hX
            clear hX
            go_wp2_with fail
            have hK := cosetsW H3 (l := []) (k := 2) (m := 0) rfl n3 n4 hn3 HX.out
            with_reducible refine hK.mono ?_
            clear hK
            rintro e w4 ⟨A4, c4, rfl, hc4, -, -, H4, -⟩
            go_wp2_with fail
            refine (works_calls _).mono ?_
            rintro e wz ⟨rfl, hBz⟩
            replace hBz := H4.bel.trans (hBz.mono H4.bel.size)
            go_wp2
            go_ret
            exact ⟨rfl, hBz⟩
          · have hlen : (gpts s t G).length = G * s := gpts_length s t G
            have hGs : G * s ≤ 255 := Nat.le_trans (Nat.mul_le_mul_right s hGt) (by rw [← ht]; exact Nat.div_mul_le_self _ _)
            obtain ⟨N, hN⟩ : ∃ N, G * s = N := ⟨_, rfl⟩
            rw [hN] at hlen hGs
            have HX := Lib.hid hX
            have HLEN := Lib.hid hlen
            clear hX hlen
            by_cases hG : G = 0
            · subst hG
              have HX0 := Lib.hid (show cosetsR (m : Int) 0 = (gpts s t 0, 0) from HX.out)
              go_wp2_with fail
              have hK := cosetsW H3 (k := 0) HLEN.out (m : Int) 0 hn3 HX0.out
              with_reducible refine hK.mono ?_
              clear hK
              rintro e w4 ⟨A4, c4, rfl, hc4, -, -, H4, -⟩
              go_wp2_with fail
              refine (works_calls _).mono ?_
              rintro e wz ⟨rfl, hBz⟩
              replace hBz := H4.bel.trans (hBz.mono H4.bel.size)
              go_wp2
              go_ret
              exact ⟨rfl, hBz⟩
            · obtain ⟨K, hKG⟩ : ∃ K, K + 1 = G := ⟨G - 1, by omega⟩
              obtain ⟨N2, hN2⟩ : ∃ N2, K * s = N2 := ⟨_, rfl⟩
              have hNN : N2 + s = N := by rw [← hN, ← hN2, ← hKG, Nat.add_mul, Nat.one_mul]
              have HX2 : Hid (cosetsR (m : Int) ((G : Int) - 1) = (gpts s t K, 0)) := Lib.hid (by rw [show (G : Int) - 1 = (K : Int) by omega]; exact cosetsR_ok (H := K) hms hm0 hm hs ht (by omega))
              have HL2 := Lib.hid (show (gpts s t K).length = N2 by rw [gpts_length, hN2])
              have HPRE : Hid ((gpts s t G).take N2 = gpts s t K) := Lib.hid (by rw [← hN2]; exact gpts_pre (by omega))
              have HPROD : Hid ((s : Int) * (G : Int) = (N : Int)) := Lib.hid (by rw [← hN, Int.natCast_mul, Int.mul_comm])
              have HMS2 := Lib.hid (show (m : Int) + 1 = (s : Int) by omega)
              have HSUB2 := Lib.hid (show (N : Int) - (m : Int) - 1 = (N2 : Int) by omega)
              have hG0 : ¬ (G = 0) := hG
              have hNpos : 0 < N := by omega
              have hlt1 : ¬ ((G : Int) < 1) := by omega
              have hlt2 : decide ((G : Int) < 1) = false := by simp; omega
              have hN2le : N2 ≤ N := by omega
              have hm1 : 1 ≤ m := hm0
              clear hN hN2 hNN hs ht hms hKG hG hGt
              go_wp2_with fail
              have hK := cosetsW H3 (k := 0) HLEN.out (m : Int) (G : Int) hn3 HX.out
              with_reducible refine hK.mono ?_
              clear hK
              rintro e w4 ⟨A4, c4, rfl, hc4, hA4, -, H4, -⟩
              go_wp2_with fail
              have hK := cosetsW H4 (k := 0) HL2.out (m : Int) ((G : Int) - 1) hn3 HX2.out
              with_reducible refine hK.mono ?_
              clear hK
              rintro e w5 ⟨A5, c5, rfl, hc5, -, -, H5, -⟩
              obtain ⟨b4, rfl, hb4⟩ : ∃ b, A4 = some ⟨b, 0, none⟩ ∧ w3.heap.size ≤ b := by
                rcases hA4 with ⟨_, h, _⟩ | h
                · omega
                · exact h
              have hpre := bytes_take (H5.bytes (A := some ⟨b4, 0, none⟩) (n := N) (c := c4) (l := gpts s t G) (gpts_lt _ _ _) (by simp)) N2
              rw [HPRE.out] at hpre
              have hms2 := HMS2.out
              have hprod := HPROD.out
              have hsub2 := HSUB2.out
              go_wp2_with fail
              refine (sameN_calls A5 _ (gpts s t K) (gpts s t K) N2 N2 c5 c4 _ HL2.out HL2.out (H5.bytes (A := A5) (n := N2) (c := c5) (gpts_lt _ _ _) (by simp)) hpre true (by simp)).mono ?_
              rintro e w6 ⟨rfl, rfl⟩
              go_wp2_with fail
              refine (works_calls _).mono ?_
              rintro e wz ⟨rfl, hBz⟩
              replace hBz := H5.bel.trans (hBz.mono H5.bel.size)
              go_wp2
              go_ret
              exact ⟨rfl, hBz⟩
        · rw [show ((M0 : Int)).toNat = M0 from rfl] at hS
          have HS := Lib.hid hS
          clear hS
          go_wp2_with fail
          have hK := spreadW H2 (k := 0) HM0.out (M0 : Int) n2 HS.out
          with_reducible refine hK.mono ?_
          clear hK
          rintro e w3 ⟨A3, c3, rfl, hc3, -, -, H3, -⟩
          clear H0 H1 H2
          go_wp2_with fail
          refine (sameW H3 (A := A1) (B := A3) (m := M0) (n := M0) (c := c1) (d := c3) (p := pts M0) (q := pts M0) (by simp) (by simp) HM0.out HM0.out (pts_lt _) (pts_lt _) true (by simp)).mono ?_
          rintro e w4 ⟨rfl, rfl⟩
          rcases hX with hX | ⟨m, s, t, G, rfl, hms, hm0, hm, hs, ht, rfl, hGt, hX⟩
          · have HX := Lib.hid hX
            clear hX
            go_wp2_with fail
            have hK := cosetsW H3 (l := []) (k := 2) (m := 0) rfl n3 n4 hn3 HX.out
            with_reducible refine hK.mono ?_
            clear hK
            rintro e w4 ⟨A4, c4, rfl, hc4, -, -, H4, -⟩
            go_wp2_with fail
            refine (works_calls _).mono ?_
            rintro e wz ⟨rfl, hBz⟩
            replace hBz := H4.bel.trans (hBz.mono H4.bel.size)
            go_wp2
            go_ret
            exact ⟨rfl, hBz⟩
          · have hlen : (gpts s t G).length = G * s := gpts_length s t G
            have hGs : G * s ≤ 255 := Nat.le_trans (Nat.mul_le_mul_right s hGt) (by rw [← ht]; exact Nat.div_mul_le_self _ _)
            obtain ⟨N, hN⟩ : ∃ N, G * s = N := ⟨_, rfl⟩
            rw [hN] at hlen hGs
            have HX := Lib.hid hX
            have HLEN := Lib.hid hlen
            clear hX hlen
            by_cases hG : G = 0
            · subst hG
              have HX0 := Lib.hid (show cosetsR (m : Int) 0 = (gpts s t 0, 0) from HX.out)
              go_wp2_with fail
              have hK := cosetsW H3 (k := 0) HLEN.out (m : Int) 0 hn3 HX0.out
              with_reducible refine hK.mono ?_
              clear hK
              rintro e w4 ⟨A4, c4, rfl, hc4, -, -, H4, -⟩
              go_wp2_with fail
              refine (works_calls _).mono ?_
              rintro e wz ⟨rfl, hBz⟩
              replace hBz := H4.bel.trans (hBz.mono H4.bel.size)
              go_wp2
              go_ret
              exact ⟨rfl, hBz⟩
            · obtain ⟨K, hKG⟩ : ∃ K, K + 1 = G := ⟨G - 1, by omega⟩
              obtain ⟨N2, hN2⟩ : ∃ N2, K * s = N2 := ⟨_, rfl⟩
              have hNN : N2 + s = N := by rw [← hN, ← hN2, ← hKG, Nat.add_mul, Nat.one_mul]
              have HX2 : Hid (cosetsR (m : Int) ((G : Int) - 1) = (gpts s t K, 0)) := Lib.hid (by rw [show (G : Int) - 1 = (K : Int) by omega]; exact cosetsR_ok (H := K) hms hm0 hm hs ht (by omega))
              have HL2 := Lib.hid (show (gpts s t K).length = N2 by rw [gpts_length, hN2])
              have HPRE : Hid ((gpts s t G).take N2 = gpts s t K) := Lib.hid (by rw [← hN2]; exact gpts_pre (by omega))
              have HPROD : Hid ((s : Int) * (G : Int) = (N : Int)) := Lib.hid (by rw [← hN, Int.natCast_mul, Int.mul_comm])
              have HMS2 := Lib.hid (show (m : Int) + 1 = (s : Int) by omega)
              have HSUB2 := Lib.hid (show (N : Int) - (m : Int) - 1 = (N2 : Int) by omega)
              have hG0 : ¬ (G = 0) := hG
              have hNpos : 0 < N := by omega
              have hlt1 : ¬ ((G : Int) < 1) := by omega
              have hlt2 : decide ((G : Int) < 1) = false := by simp; omega
              have hN2le : N2 ≤ N := by omega
              have hm1 : 1 ≤ m := hm0
              clear hN hN2 hNN hs ht hms hKG hG hGt
              go_wp2_with fail
              have hK := cosetsW H3 (k := 0) HLEN.out (m : Int) (G : Int) hn3 HX.out
              with_reducible refine hK.mono ?_
              clear hK
              rintro e w4 ⟨A4, c4, rfl, hc4, hA4, -, H4, -⟩
              go_wp2_with fail
              have hK := cosetsW H4 (k := 0) HL2.out (m : Int) ((G : Int) - 1) hn3 HX2.out
              with_reducible refine hK.mono ?_
              clear hK
              rintro e w5 ⟨A5, c5, rfl, hc5, -, -, H5, -⟩
              obtain ⟨b4, rfl, hb4⟩ : ∃ b, A4 = some ⟨b, 0, none⟩ ∧ w3.heap.size ≤ b := by
                rcases hA4 with ⟨_, h, _⟩ | h
                · omega
                · exact h
              have hpre := bytes_take (H5.bytes (A := some ⟨b4, 0, none⟩) (n := N) (c := c4) (l := gpts s t G) (gpts_lt _ _ _) (by simp)) N2
              rw [HPRE.out] at hpre
              have hms2 := HMS2.out
              have hprod := HPROD.out
              have hsub2 := HSUB2.out
              go_wp2_with fail
              refine (sameN_calls A5 _ (gpts s t K) (gpts s t K) N2 N2 c5 c4 _ HL2.out HL2.out (H5.bytes (A := A5) (n := N2) (c := c5) (gpts_lt _ _ _) (by simp)) hpre true (by simp)).mono ?_
              rintro e w6 ⟨rfl, rfl⟩
              go_wp2_with fail
              refine (works_calls _).mono ?_
              rintro e wz ⟨rfl, hBz⟩
              replace hBz := H5.bel.trans (hBz.mono H5.bel.size)
              go_wp2
              go_ret
              exact ⟨rfl, hBz⟩
    · have HR1 := Lib.hid (ofR_bad hv1)
      go_wp2_with fail
      have hK := ofW H1 (l := []) (k := 2) (m := 0) rfl n1 HR1.out
      with_reducible refine hK.mono ?_
      clear hK
      rintro e w2 ⟨A2, c2, rfl, hc2, hA2, -, H2, -⟩
      rcases spreadR_is (M0 : Int) n2 with hS | ⟨hS, _, _⟩
      · have HS := Lib.hid hS
        clear hS
        go_wp2_with fail
        have hK := spreadW H2 (l := []) (k := 2) (m := 0) rfl (M0 : Int) n2 HS.out
        with_reducible refine hK.mono ?_
        clear hK
        rintro e w3 ⟨A3, c3, rfl, hc3, -, -, H3, -⟩
        clear H0 H1 H2
        rcases hX with hX | ⟨m, s, t, G, rfl, hms, hm0, hm, hs, ht, rfl, hGt, hX⟩
        · have HX := Lib.hid hX
          clear hX
          go_wp2_with fail
          have hK := cosetsW H3 (l := []) (k := 2) (m := 0) rfl n3 n4 hn3 HX.out
          with_reducible refine hK.mono ?_
          clear hK
          rintro e w4 ⟨A4, c4, rfl, hc4, -, -, H4, -⟩
          go_wp2_with fail
          refine (works_calls _).mono ?_
          rintro e wz ⟨rfl, hBz⟩
          replace hBz := H4.bel.trans (hBz.mono H4.bel.size)
          go_wp2
          go_ret
          exact ⟨rfl, hBz⟩
        · have hlen : (gpts s t G).length = G * s := gpts_length s t G
          have hGs : G * s ≤ 255 := Nat.le_trans (Nat.mul_le_mul_right s hGt) (by rw [← ht]; exact Nat.div_mul_le_self _ _)
          obtain ⟨N, hN⟩ : ∃ N, G * s = N := ⟨_, rfl⟩
          rw [hN] at hlen hGs
          have HX := Lib.hid hX
          have HLEN := Lib.hid hlen
          clear hX hlen
          by_cases hG : G = 0
          · subst hG
            have HX0 := Lib.hid (show cosetsR (m : Int) 0 = (gpts s t 0, 0) from HX.out)
            go_wp2_with fail
            have hK := cosetsW H3 (k := 0) HLEN.out (m : Int) 0 hn3 HX0.out
            with_reducible refine hK.mono ?_
            clear hK
            rintro e w4 ⟨A4, c4, rfl, hc4, -, -, H4, -⟩
            go_wp2_with fail
            refine (works_calls _).mono ?_
            rintro e wz ⟨rfl, hBz⟩
            replace hBz := H4.bel.trans (hBz.mono H4.bel.size)
            go_wp2
            go_ret
            exact ⟨rfl, hBz⟩
          · obtain ⟨K, hKG⟩ : ∃ K, K + 1 = G := ⟨G - 1, by omega⟩
            obtain ⟨N2, hN2⟩ : ∃ N2, K * s = N2 := ⟨_, rfl⟩
            have hNN : N2 + s = N := by rw [← hN, ← hN2, ← hKG, Nat.add_mul, Nat.one_mul]
            have HX2 : Hid (cosetsR (m : Int) ((G : Int) - 1) = (gpts s t K, 0)) := Lib.hid (by rw [show (G : Int) - 1 = (K : Int) by omega]; exact cosetsR_ok (H := K) hms hm0 hm hs ht (by omega))
            have HL2 := Lib.hid (show (gpts s t K).length = N2 by rw [gpts_length, hN2])
            have HPRE : Hid ((gpts s t G).take N2 = gpts s t K) := Lib.hid (by rw [← hN2]; exact gpts_pre (by omega))
            have HPROD : Hid ((s : Int) * (G : Int) = (N : Int)) := Lib.hid (by rw [← hN, Int.natCast_mul, Int.mul_comm])
            have HMS2 := Lib.hid (show (m : Int) + 1 = (s : Int) by omega)
            have HSUB2 := Lib.hid (show (N : Int) - (m : Int) - 1 = (N2 : Int) by omega)
            have hG0 : ¬ (G = 0) := hG
            have hNpos : 0 < N := by omega
            have hlt1 : ¬ ((G : Int) < 1) := by omega
            have hlt2 : decide ((G : Int) < 1) = false := by simp; omega
            have hN2le : N2 ≤ N := by omega
            have hm1 : 1 ≤ m := hm0
            clear hN hN2 hNN hs ht hms hKG hG hGt
            go_wp2_with fail
            have hK := cosetsW H3 (k := 0) HLEN.out (m : Int) (G : Int) hn3 HX.out
            with_reducible refine hK.mono ?_
            clear hK
            rintro e w4 ⟨A4, c4, rfl, hc4, hA4, -, H4, -⟩
            go_wp2_with fail
            have hK := cosetsW H4 (k := 0) HL2.out (m : Int) ((G : Int) - 1) hn3 HX2.out
            with_reducible refine hK.mono ?_
            clear hK
            rintro e w5 ⟨A5, c5, rfl, hc5, -, -, H5, -⟩
            obtain ⟨b4, rfl, hb4⟩ : ∃ b, A4 = some ⟨b, 0, none⟩ ∧ w3.heap.size ≤ b := by
              rcases hA4 with ⟨_, h, _⟩ | h
              · omega
              · exact h
            have hpre := bytes_take (H5.bytes (A := some ⟨b4, 0, none⟩) (n := N) (c := c4) (l := gpts s t G) (gpts_lt _ _ _) (by simp)) N2
            rw [HPRE.out] at hpre
            have hms2 := HMS2.out
            have hprod := HPROD.out
            have hsub2 := HSUB2.out
            go_wp2_with fail
            refine (sameN_calls A5 _ (gpts s t K) (gpts s t K) N2 N2 c5 c4 _ HL2.out HL2.out (H5.bytes (A := A5) (n := N2) (c := c5) (gpts_lt _ _ _) (by simp)) hpre true (by simp)).mono ?_
            rintro e w6 ⟨rfl, rfl⟩
            go_wp2_with fail
            refine (works_calls _).mono ?_
            rintro e wz ⟨rfl, hBz⟩
            replace hBz := H5.bel.trans (hBz.mono H5.bel.size)
            go_wp2
            go_ret
            exact ⟨rfl, hBz⟩
      · rw [show ((M0 : Int)).toNat = M0 from rfl] at hS
        have HS := Lib.hid hS
        clear hS
        go_wp2_with fail
        have hK := spreadW H2 (k := 0) HM0.out (M0 : Int) n2 HS.out
        with_reducible refine hK.mono ?_
        clear hK
        rintro e w3 ⟨A3, c3, rfl, hc3, -, -, H3, -⟩
        clear H0 H1 H2
        go_wp2_with fail
        refine (sameW H3 (A := A1) (B := A3) (m := M0) (n := M0) (c := c1) (d := c3) (p := pts M0) (q := pts M0) (by simp) (by simp) HM0.out HM0.out (pts_lt _) (pts_lt _) true (by simp)).mono ?_
        rintro e w4 ⟨rfl, rfl⟩
        rcases hX with hX | ⟨m, s, t, G, rfl, hms, hm0, hm, hs, ht, rfl, hGt, hX⟩
        · have HX := Lib.hid hX
          clear hX
          go_wp2_with fail
          have hK := cosetsW H3 (l := []) (k := 2) (m := 0) rfl n3 n4 hn3 HX.out
          with_reducible refine hK.mono ?_
          clear hK
          rintro e w4 ⟨A4, c4, rfl, hc4, -, -, H4, -⟩
          go_wp2_with fail
          refine (works_calls _).mono ?_
          rintro e wz ⟨rfl, hBz⟩
          replace hBz := H4.bel.trans (hBz.mono H4.bel.size)
          go_wp2
          go_ret
          exact ⟨rfl, hBz⟩
        · have hlen : (gpts s t G).length = G * s := gpts_length s t G
          have hGs : G * s ≤ 255 := Nat.le_trans (Nat.mul_le_mul_right s hGt) (by rw [← ht]; exact Nat.div_mul_le_self _ _)
          obtain ⟨N, hN⟩ : ∃ N, G * s = N := ⟨_, rfl⟩
          rw [hN] at hlen hGs
          have HX := Lib.hid hX
          have HLEN := Lib.hid hlen
          clear hX hlen
          by_cases hG : G = 0
          · subst hG
            have HX0 := Lib.hid (show cosetsR (m : Int) 0 = (gpts s t 0, 0) from HX.out)
            go_wp2_with fail
            have hK := cosetsW H3 (k := 0) HLEN.out (m : Int) 0 hn3 HX0.out
            with_reducible refine hK.mono ?_
            clear hK
            rintro e w4 ⟨A4, c4, rfl, hc4, -, -, H4, -⟩
            go_wp2_with fail
            refine (works_calls _).mono ?_
            rintro e wz ⟨rfl, hBz⟩
            replace hBz := H4.bel.trans (hBz.mono H4.bel.size)
            go_wp2
            go_ret
            exact ⟨rfl, hBz⟩
          · obtain ⟨K, hKG⟩ : ∃ K, K + 1 = G := ⟨G - 1, by omega⟩
            obtain ⟨N2, hN2⟩ : ∃ N2, K * s = N2 := ⟨_, rfl⟩
            have hNN : N2 + s = N := by rw [← hN, ← hN2, ← hKG, Nat.add_mul, Nat.one_mul]
            have HX2 : Hid (cosetsR (m : Int) ((G : Int) - 1) = (gpts s t K, 0)) := Lib.hid (by rw [show (G : Int) - 1 = (K : Int) by omega]; exact cosetsR_ok (H := K) hms hm0 hm hs ht (by omega))
            have HL2 := Lib.hid (show (gpts s t K).length = N2 by rw [gpts_length, hN2])
            have HPRE : Hid ((gpts s t G).take N2 = gpts s t K) := Lib.hid (by rw [← hN2]; exact gpts_pre (by omega))
            have HPROD : Hid ((s : Int) * (G : Int) = (N : Int)) := Lib.hid (by rw [← hN, Int.natCast_mul, Int.mul_comm])
            have HMS2 := Lib.hid (show (m : Int) + 1 = (s : Int) by omega)
            have HSUB2 := Lib.hid (show (N : Int) - (m : Int) - 1 = (N2 : Int) by omega)
            have hG0 : ¬ (G = 0) := hG
            have hNpos : 0 < N := by omega
            have hlt1 : ¬ ((G : Int) < 1) := by omega
            have hlt2 : decide ((G : Int) < 1) = false := by simp; omega
            have hN2le : N2 ≤ N := by omega
            have hm1 : 1 ≤ m := hm0
            clear hN hN2 hNN hs ht hms hKG hG hGt
            go_wp2_with fail
            have hK := cosetsW H3 (k := 0) HLEN.out (m : Int) (G : Int) hn3 HX.out
            with_reducible refine hK.mono ?_
            clear hK
            rintro e w4 ⟨A4, c4, rfl, hc4, hA4, -, H4, -⟩
            go_wp2_with fail
            have hK := cosetsW H4 (k := 0) HL2.out (m : Int) ((G : Int) - 1) hn3 HX2.out
            with_reducible refine hK.mono ?_
            clear hK
            rintro e w5 ⟨A5, c5, rfl, hc5, -, -, H5, -⟩
            obtain ⟨b4, rfl, hb4⟩ : ∃ b, A4 = some ⟨b, 0, none⟩ ∧ w3.heap.size ≤ b := by
              rcases hA4 with ⟨_, h, _⟩ | h
              · omega
              · exact h
            have hpre := bytes_take (H5.bytes (A := some ⟨b4, 0, none⟩) (n := N) (c := c4) (l := gpts s t G) (gpts_lt _ _ _) (by simp)) N2
            rw [HPRE.out] at hpre
            have hms2 := HMS2.out
            have hprod := HPROD.out
            have hsub2 := HSUB2.out
            go_wp2_with fail
            refine (sameN_calls A5 _ (gpts s t K) (gpts s t K) N2 N2 c5 c4 _ HL2.out HL2.out (H5.bytes (A := A5) (n := N2) (c := c5) (gpts_lt _ _ _) (by simp)) hpre true (by simp)).mono ?_
            rintro e w6 ⟨rfl, rfl⟩
            go_wp2_with fail
            refine (works_calls _).mono ?_
            rintro e wz ⟨rfl, hBz⟩
            replace hBz := H5.bel.trans (hBz.mono H5.bel.size)
            go_wp2
            go_ret
            exact ⟨rfl, hBz⟩
  · have HR0 := Lib.hid (ofR_bad hv0)
    go_wp2_with fail
    have hK := ofW H0 (l := []) (k := 2) (m := 0) rfl n0 HR0.out
    with_reducible refine hK.mono ?_
    clear hK
    rintro e w1 ⟨A1, c1, rfl, hc1, hA1, -, H1, -⟩
    by_cases hv1 : 0 ≤ n1 ∧ n1 ≤ 255
    · obtain ⟨hvc, hvd⟩ := hv1
      obtain ⟨M1, rfl⟩ : ∃ M : Nat, n1 = (M : Int) := ⟨n1.toNat, by omega⟩
      have hM1 : M1 ≤ 255 := by omega
      have HR1 := Lib.hid (ofR_ok M1 rfl hM1)
      have HM1 := Lib.hid (pts_length M1)
      go_wp2_with fail
      have hK := ofW H1 (k := 0) HM1.out (M1 : Int) HR1.out
      with_reducible refine hK.mono ?_
      clear hK
      rintro e w2 ⟨A2, c2, rfl, hc2, hA2, -, H2, -⟩
      have HS : Hid (spreadR n0 n2 = ([], 2)) := Lib.hid (by
        rcases spreadR_is n0 n2 with h | ⟨_, h1, h2⟩
        · exact h
        · exact absurd ⟨h1, h2⟩ hv0)
      go_wp2_with fail
      have hK := spreadW H2 (l := []) (k := 2) (m := 0) rfl n0 n2 HS.out
      with_reducible refine hK.mono ?_
      clear hK
      rintro e w3 ⟨A3, c3, rfl, hc3, -, -, H3, -⟩
      clear H0 H1 H2
      rcases hX with hX | ⟨m, s, t, G, rfl, hms, hm0, hm, hs, ht, rfl, hGt, hX⟩
      · have HX := Lib.hid hX
        clear hX
        go_wp2_with fail
        have hK := cosetsW H3 (l := []) (k := 2) (m := 0) rfl n3 n4 hn3 HX.out
        with_reducible refine hK.mono ?_
        clear hK
        rintro e w4 ⟨A4, c4, rfl, hc4, -, -, H4, -⟩
        go_wp2_with fail
        refine (works_calls _).mono ?_
        rintro e wz ⟨rfl, hBz⟩
        replace hBz := H4.bel.trans (hBz.mono H4.bel.size)
        go_wp2
        go_ret
        exact ⟨rfl, hBz⟩
      · have hlen : (gpts s t G).length = G * s := gpts_length s t G
        have hGs : G * s ≤ 255 := Nat.le_trans (Nat.mul_le_mul_right s hGt) (by rw [← ht]; exact Nat.div_mul_le_self _ _)
        obtain ⟨N, hN⟩ : ∃ N, G * s = N := ⟨_, rfl⟩
        rw [hN] at hlen hGs
        have HX := Lib.hid hX
        have HLEN := Lib.hid hlen
        clear hX hlen
        by_cases hG : G = 0
        · subst hG
          have HX0 := Lib.hid (show cosetsR (m : Int) 0 = (gpts s t 0, 0) from HX.out)
          go_wp2_with fail
          have hK := cosetsW H3 (k := 0) HLEN.out (m : Int) 0 hn3 HX0.out
          with_reducible refine hK.mono ?_
          clear hK
          rintro e w4 ⟨A4, c4, rfl, hc4, -, -, H4, -⟩
          go_wp2_with fail
          refine (works_calls _).mono ?_
          rintro e wz ⟨rfl, hBz⟩
          replace hBz := H4.bel.trans (hBz.mono H4.bel.size)
          go_wp2
          go_ret
          exact ⟨rfl, hBz⟩
        · obtain ⟨K, hKG⟩ : ∃ K, K + 1 = G := ⟨G - 1, by omega⟩
          obtain ⟨N2, hN2⟩ : ∃ N2, K * s = N2 := ⟨_, rfl⟩
          have hNN : N2 + s = N := by rw [← hN, ← hN2, ← hKG, Nat.add_mul, Nat.one_mul]
          have HX2 : Hid (cosetsR (m : Int) ((G : Int) - 1) = (gpts s t K, 0)) := Lib.hid (by rw [show (G : Int) - 1 = (K : Int) by omega]; exact cosetsR_ok (H := K) hms hm0 hm hs ht (by omega))
          have HL2 := Lib.hid (show (gpts s t K).length = N2 by rw [gpts_length, hN2])
          have HPRE : Hid ((gpts s t G).take N2 = gpts s t K) := Lib.hid (by rw [← hN2]; exact gpts_pre (by omega))
          have HPROD : Hid ((s : Int) * (G : Int) = (N : Int)) := Lib.hid (by rw [← hN, Int.natCast_mul, Int.mul_comm])
          have HMS2 := Lib.hid (show (m : Int) + 1 = (s : Int) by omega)
          have HSUB2 := Lib.hid (show (N : Int) - (m : Int) - 1 = (N2 : Int) by omega)
          have hG0 : ¬ (G = 0) := hG
          have hNpos : 0 < N := by omega
          have hlt1 : ¬ ((G : Int) < 1) := by omega
          have hlt2 : decide ((G : Int) < 1) = false := by simp; omega
          have hN2le : N2 ≤ N := by omega
          have hm1 : 1 ≤ m := hm0
          clear hN hN2 hNN hs ht hms hKG hG hGt
          go_wp2_with fail
          have hK := cosetsW H3 (k := 0) HLEN.out (m : Int) (G : Int) hn3 HX.out
          with_reducible refine hK.mono ?_
          clear hK
          rintro e w4 ⟨A4, c4, rfl, hc4, hA4, -, H4, -⟩
          go_wp2_with fail
          have hK := cosetsW H4 (k := 0) HL2.out (m : Int) ((G : Int) - 1) hn3 HX2.out
          with_reducible refine hK.mono ?_
          clear hK
          rintro e w5 ⟨A5, c5, rfl, hc5, -, -, H5, -⟩
          obtain ⟨b4, rfl, hb4⟩ : ∃ b, A4 = some ⟨b, 0, none⟩ ∧ w3.heap.size ≤ b := by
            rcases hA4 with ⟨_, h, _⟩ | h
            · omega
            · exact h
          have hpre := bytes_take (H5.bytes (A := some ⟨b4, 0, none⟩) (n := N) (c := c4) (l := gpts s t G) (gpts_lt _ _ _) (by simp)) N2
          rw [HPRE.out] at hpre
          have hms2 := HMS2.out
          have hprod := HPROD.out
          have hsub2 := HSUB2.out
          go_wp2_with fail
          refine (sameN_calls A5 _ (gpts s t K) (gpts s t K) N2 N2 c5 c4 _ HL2.out HL2.out (H5.bytes (A := A5) (n := N2) (c := c5) (gpts_lt _ _ _) (by simp)) hpre true (by simp)).mono ?_
          rintro e w6 ⟨rfl, rfl⟩
          go_wp2_with fail
          refine (works_calls _).mono ?_
          rintro e wz ⟨rfl, hBz⟩
          replace hBz := H5.bel.trans (hBz.mono H5.bel.size)
          go_wp2
          go_ret
          exact ⟨rfl, hBz⟩
    · have HR1 := Lib.hid (ofR_bad hv1)
      go_wp2_with fail
      have hK := ofW H1 (l := []) (k := 2) (m := 0) rfl n1 HR1.out
      with_reducible refine hK.mono ?_
      clear hK
      rintro e w2 ⟨A2, c2, rfl, hc2, hA2, -, H2, -⟩
      have HS : Hid (spreadR n0 n2 = ([], 2)) := Lib.hid (by
        rcases spreadR_is n0 n2 with h | ⟨_, h1, h2⟩
        · exact h
        · exact absurd ⟨h1, h2⟩ hv0)
      go_wp2_with fail
      have hK := spreadW H2 (l := []) (k := 2) (m := 0) rfl n0 n2 HS.out
      with_reducible refine hK.mono ?_
      clear hK
      rintro e w3 ⟨A3, c3, rfl, hc3, -, -, H3, -⟩
      clear H0 H1 H2
      rcases hX with hX | ⟨m, s, t, G, rfl, hms, hm0, hm, hs, ht, rfl, hGt, hX⟩
      · have HX := Lib.hid hX
        clear hX
        go_wp2_with fail
        have hK := cosetsW H3 (l := []) (k := 2) (m := 0) rfl n3 n4 hn3 HX.out
        with_reducible refine hK.mono ?_
        clear hK
        rintro e w4 ⟨A4, c4, rfl, hc4, -, -, H4, -⟩
        go_wp2_with fail
        refine (works_calls _).mono ?_
        rintro e wz ⟨rfl, hBz⟩
        replace hBz := H4.bel.trans (hBz.mono H4.bel.size)
        go_wp2
        go_ret
        exact ⟨rfl, hBz⟩
      · have hlen : (gpts s t G).length = G * s := gpts_length s t G
        have hGs : G * s ≤ 255 := Nat.le_trans (Nat.mul_le_mul_right s hGt) (by rw [← ht]; exact Nat.div_mul_le_self _ _)
        obtain ⟨N, hN⟩ : ∃ N, G * s = N := ⟨_, rfl⟩
        rw [hN] at hlen hGs
        have HX := Lib.hid hX
        have HLEN := Lib.hid hlen
        clear hX hlen
        by_cases hG : G = 0
        · subst hG
          have HX0 := Lib.hid (show cosetsR (m : Int) 0 = (gpts s t 0, 0) from HX.out)
          go_wp2_with fail
          have hK := cosetsW H3 (k := 0) HLEN.out (m : Int) 0 hn3 HX0.out
          with_reducible refine hK.mono ?_
          clear hK
          rintro e w4 ⟨A4, c4, rfl, hc4, -, -, H4, -⟩
          go_wp2_with fail
          refine (works_calls _).mono ?_
          rintro e wz ⟨rfl, hBz⟩
          replace hBz := H4.bel.trans (hBz.mono H4.bel.size)
          go_wp2
          go_ret
          exact ⟨rfl, hBz⟩
        · obtain ⟨K, hKG⟩ : ∃ K, K + 1 = G := ⟨G - 1, by omega⟩
          obtain ⟨N2, hN2⟩ : ∃ N2, K * s = N2 := ⟨_, rfl⟩
          have hNN : N2 + s = N := by rw [← hN, ← hN2, ← hKG, Nat.add_mul, Nat.one_mul]
          have HX2 : Hid (cosetsR (m : Int) ((G : Int) - 1) = (gpts s t K, 0)) := Lib.hid (by rw [show (G : Int) - 1 = (K : Int) by omega]; exact cosetsR_ok (H := K) hms hm0 hm hs ht (by omega))
          have HL2 := Lib.hid (show (gpts s t K).length = N2 by rw [gpts_length, hN2])
          have HPRE : Hid ((gpts s t G).take N2 = gpts s t K) := Lib.hid (by rw [← hN2]; exact gpts_pre (by omega))
          have HPROD : Hid ((s : Int) * (G : Int) = (N : Int)) := Lib.hid (by rw [← hN, Int.natCast_mul, Int.mul_comm])
          have HMS2 := Lib.hid (show (m : Int) + 1 = (s : Int) by omega)
          have HSUB2 := Lib.hid (show (N : Int) - (m : Int) - 1 = (N2 : Int) by omega)
          have hG0 : ¬ (G = 0) := hG
          have hNpos : 0 < N := by omega
          have hlt1 : ¬ ((G : Int) < 1) := by omega
          have hlt2 : decide ((G : Int) < 1) = false := by simp; omega
          have hN2le : N2 ≤ N := by omega
          have hm1 : 1 ≤ m := hm0
          clear hN hN2 hNN hs ht hms hKG hG hGt
          go_wp2_with fail
          have hK := cosetsW H3 (k := 0) HLEN.out (m : Int) (G : Int) hn3 HX.out
          with_reducible refine hK.mono ?_
          clear hK
          rintro e w4 ⟨A4, c4, rfl, hc4, hA4, -, H4, -⟩
          go_wp2_with fail
          have hK := cosetsW H4 (k := 0) HL2.out (m : Int) ((G : Int) - 1) hn3 HX2.out
          with_reducible refine hK.mono ?_
          clear hK
          rintro e w5 ⟨A5, c5, rfl, hc5, -, -, H5, -⟩
          obtain ⟨b4, rfl, hb4⟩ : ∃ b, A4 = some ⟨b, 0, none⟩ ∧ w3.heap.size ≤ b := by
            rcases hA4 with ⟨_, h, _⟩ | h
            · omega
            · exact h
          have hpre := bytes_take (H5.bytes (A := some ⟨b4, 0, none⟩) (n := N) (c := c4) (l := gpts s t G) (gpts_lt _ _ _) (by simp)) N2
          rw [HPRE.out] at hpre
          have hms2 := HMS2.out
          have hprod := HPROD.out
          have hsub2 := HSUB2.out
          go_wp2_with fail
          refine (sameN_calls A5 _ (gpts s t K) (gpts s t K) N2 N2 c5 c4 _ HL2.out HL2.out (H5.bytes (A := A5) (n := N2) (c := c5) (gpts_lt _ _ _) (by simp)) hpre true (by simp)).mono ?_
          rintro e w6 ⟨rfl, rfl⟩
          go_wp2_with fail
          refine (works_calls _).mono ?_
          rintro e wz ⟨rfl, hBz⟩
          replace hBz := H5.bel.trans (hBz.mono H5.bel.size)
          go_wp2
          go_ret
          exact ⟨rfl, hBz⟩
end Go.Proofs.Ytidelegamdibgaa.pointsFirst
