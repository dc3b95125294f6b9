/- The walk of MatrixMakes. -/
import Derived.Test.YtidelegamdibgaaMatMake
import Derived.Test.YtidelegamdibgaaMatWorks
namespace Go.Proofs.Ytidelegamdibgaa.matrixMakes
open Go.RowKit F8 GF Poly Mat

set_option maxRecDepth 100000 in
set_option maxHeartbeats 8000000 in
theorem core (w : World) (Ra Ca : Int) (A : Option Addr) (s : List F8) (n1 c1 : Nat) (hl1 : s.length = n1) (hb1 : Bytes w A (bs s)) (hc1 : n1 ≤ c1) (Aat : Option Addr) (zs : List Int) (na ca : Nat) (hna : zs.length = na) (hz : Row w Aat (zv zs)) (X : Option Addr) (xs : List F8) (m cx : Nat) (hlx : xs.length = m) (hbx : Bytes w X (bs xs)) (Z : Int) (hl3 : -9223372036854775808 ≤ Z) (hn3 : Z < 9223372036854775808) :
    Calls Try.prog 3 #[.agg #[.int .i64 Ra, .int .i64 Ca, .slice A n1 c1], .slice Aat na ca, .slice X m cx, .int .i64 Z] w fun e w' => e = .returned (.bool true) ∧ Below w.heap.size w w' := by
  obtain ⟨wa, hwa, HQ⟩ := st1 w Ra Ca A n1 c1
  have HL1 := Lib.hid hl1
  have HB1 := Lib.hid hb1
  have HNA := Lib.hid hna
  have HZ := Lib.hid hz
  have HLX := Lib.hid hlx
  have HBX := Lib.hid hbx
  obtain ⟨b1, HS1⟩ : ∃ b, Hid (smallB Ra Ca n1 12 = b) := ⟨_, Lib.hid rfl⟩
  clear hl1 hb1 hna hz hlx hbx
  obtain ⟨qa0, qa1, qa2⟩ := HQ.at_ (b := w.heap.size) (R := Ra) (C := Ca) (A := A) (n := n1) (c := c1) (by simp)
  go_enter Try.func3, Try.ntmps3
  go_wp2_with fail
  clear hwa
  clear qa0 qa1 qa2
  refine (small12 Ra Ca A n1 c1 _).mono ?_
  rintro e v1 ⟨rfl, hB⟩
  have HQ := HQ.below hB
  clear hB
  rw [HS1.out]
  cases b1
  case false =>
    go_wp2_with (go_at_call 12; (with_reducible refine (works_calls _).mono ?_); rintro e wz ⟨rfl, HZZ⟩)
    go_ret
    exact ⟨rfl, (HQ.below HZZ).bel⟩
  case true =>
    by_cases hna : 20 < na
    · have hna2 : decide (20 < (na : Int)) = true := by simp; omega
      go_wp2_with (go_at_call 12; (with_reducible refine (works_calls _).mono ?_); rintro e wz ⟨rfl, HZZ⟩)
      go_ret
      exact ⟨rfl, (HQ.below HZZ).bel⟩
    have hna2 : decide (20 < (na : Int)) = false := by simp; omega
    by_cases hmx : 20 < m
    · have hmx2 : decide (20 < (m : Int)) = true := by simp; omega
      go_wp2_with (go_at_call 12; (with_reducible refine (works_calls _).mono ?_); rintro e wz ⟨rfl, HZZ⟩)
      go_ret
      exact ⟨rfl, (HQ.below HZZ).bel⟩
    have hmx2 : decide (20 < (m : Int)) = false := by simp; omega
    by_cases hZm : 12 < Z ∧ Z < 4097
    · obtain ⟨hZ1, hZ2⟩ := hZm
      have hZ3 : decide (12 < Z) = true := by simp; omega
      have hZ4 : decide (Z < 4097) = true := by simp; omega
      go_wp2_with (go_at_call 12; (with_reducible refine (works_calls _).mono ?_); rintro e wz ⟨rfl, HZZ⟩)
      go_ret
      exact ⟨rfl, (HQ.below HZZ).bel⟩
    by_cases hZb : 65536 < Z
    · have hZ3 : decide (12 < Z) = true := by simp; omega
      have hZ4 : decide (Z < 4097) = false := by simp; omega
      have hZ5 : decide (65536 < Z) = true := by simp; omega
      go_wp2_with (go_at_call 12; (with_reducible refine (works_calls _).mono ?_); rintro e wz ⟨rfl, HZZ⟩)
      go_ret
      exact ⟨rfl, (HQ.below HZZ).bel⟩
    have hZ5 : decide (65536 < Z) = false := by simp; omega
    obtain ⟨sra, sca, sna⟩ := small_le HS1.out
    obtain ⟨rr, cc, u, k, hi⟩ := pickIs_exists (Ra := Ra) (Ca := Ca) (n1 := n1) s zs (by omega) (by omega)
    have HP := Lib.hid hi
    clear hi
    obtain ⟨rr2, u2, k2, hi⟩ := symmIs_exists Z (m := n1) s (by omega)
    have HY := Lib.hid hi
    clear hi
    obtain ⟨N, hN⟩ : ∃ N, u.length = N := ⟨_, rfl⟩
    have HN_ := Lib.hid hN
    clear hN
    obtain ⟨N2, hN⟩ : ∃ N, u2.length = N := ⟨_, rfl⟩
    have HN2 := Lib.hid hN
    clear hN
    have HNA2 : Hid (na ≤ 100) := Lib.hid (by omega)
    have HMX : Hid (m ≤ 100) := Lib.hid (by omega)
    clear sra sca sna hna hmx
    have hmain : ∀ d4 : Bool, decide (Z < 4097) = d4 → True := fun _ _ => trivial
    clear hmain
    by_cases hZ12 : 12 < Z
    · have hZ3 : decide (12 < Z) = true := by simp; omega
      have hZ4 : decide (Z < 4097) = false := by simp; omega
      go_wp2_with fail
      refine (HQ.new).mono ?_
      rintro e v2 ⟨rfl, HN⟩
      have HW := Lib.hid ((HN.arg HB1.out).arg HBX.out)
      clear HN HQ
      obtain ⟨qa0, qa1, qa2⟩ := HW.out.at_ (b := w.heap.size) (R := Ra) (C := Ca) (A := A) (n := n1) (c := c1) (by simp)
      go_wp2_with fail
      clear qa0 qa1 qa2
      refine (pickIsW HW.out Ra Ca n1 N c1 na ca rr cc A Aat s u zs k (by simp) hc1 HL1.out HNA.out HNA2.out HZ.out HN_.out HP.out).mono ?_
      rintro e v3 ⟨⟨A5, d5, rfl, hd5, HN⟩, HLv⟩
      clear HLv
      obtain ⟨v3x, hvv3x, -, HN⟩ := HN.var rr cc A5 N d5
      have HW := Lib.hid HN
      clear HN
      obtain ⟨qa0, qa1, qa2⟩ := HW.out.at_ (b := w.heap.size) (R := Ra) (C := Ca) (A := A) (n := n1) (c := c1) (by simp)
      go_wp2_with fail
      clear hvv3x
      clear qa0 qa1 qa2
      refine (plainW HW.out Ra Ca A n1 c1).mono ?_
      rintro e v4 ⟨rfl, HN, HLv⟩
      have HW := Lib.hid HN
      clear HN HLv
      go_wp2_with fail
      refine (refPickIsW HW.out Ra Ca n1 N c1 na ca rr cc A Aat s u zs k (by simp) hc1 HL1.out HNA.out HNA2.out HZ.out HN_.out HP.out).mono ?_
      rintro e v5 ⟨⟨A6, d6, rfl, hd6, HN⟩, HLv⟩
      clear HLv
      obtain ⟨v5x, hvv5x⟩ : ∃ v, v5.alloc (.cells #[.int .i64 rr, .int .i64 cc, .slice A6 N d6] 33) = v := ⟨_, rfl⟩
      have HN := HN.alloc (.cells #[.int .i64 rr, .int .i64 cc, .slice A6 N d6] 33)
      rw [hvv5x] at HN
      have HW := Lib.hid HN
      clear HN
      have Hpr := Lib.hid (show Block v5x v5.heap.size 33 #[.int .i64 rr, .int .i64 cc, .slice A6 N d6] by rw [← hvv5x]; exact Block.new _ _ _)
      obtain ⟨qa0, qa1, qa2⟩ := HW.out.at_ (b := w.heap.size) (R := Ra) (C := Ca) (A := A) (n := n1) (c := c1) (by simp)
      go_wp2_with fail
      clear hvv5x
      clear qa0 qa1 qa2
      refine (symmIsW HW.out Z n1 N2 c1 rr2 A s u2 k2 (by simp) HL1.out hc1 HN2.out HY.out).mono ?_
      rintro e v6 ⟨⟨A7, d7, rfl, hd7, HN⟩, HLv⟩
      have Hpr := Lib.hid (HLv _ _ _ (by decide) Hpr.out)
      clear HLv
      obtain ⟨v6x, hvv6x, -, HN⟩ := HN.var rr2 rr2 A7 N2 d7
      have HW := Lib.hid HN
      clear HN
      have Hpr := Lib.hid (show Block v6x _ _ _ by rw [← hvv6x]; exact Hpr.out.alloc _)
      obtain ⟨qa0, qa1, qa2⟩ := HW.out.at_ (b := w.heap.size) (R := Ra) (C := Ca) (A := A) (n := n1) (c := c1) (by simp)
      go_wp2_with fail
      clear hvv6x
      clear qa0 qa1 qa2
      refine (refSymmIsW HW.out Z n1 N2 c1 rr2 A s u2 k2 (by simp) HL1.out HN2.out HY.out).mono ?_
      rintro e v7 ⟨⟨A8, d8, rfl, hd8, HN⟩, HLv⟩
      have Hpr := Lib.hid (HLv _ _ _ (by decide) Hpr.out)
      clear HLv
      obtain ⟨v7x, hvv7x⟩ : ∃ v, v7.alloc (.cells #[.int .i64 rr2, .int .i64 rr2, .slice A8 N2 d8] 33) = v := ⟨_, rfl⟩
      have HN := HN.alloc (.cells #[.int .i64 rr2, .int .i64 rr2, .slice A8 N2 d8] 33)
      rw [hvv7x] at HN
      have HW := Lib.hid HN
      clear HN
      have Hpr := Lib.hid (show Block v7x _ _ _ by rw [← hvv7x]; exact Hpr.out.alloc _)
      have Hsr := Lib.hid (show Block v7x v7.heap.size 33 #[.int .i64 rr2, .int .i64 rr2, .slice A8 N2 d8] by rw [← hvv7x]; exact Block.new _ _ _)
      obtain ⟨qp0, qp1, qp2⟩ := HW.out.at_ (b := v3.heap.size) (R := rr) (C := cc) (A := A5) (n := N) (c := d5) (by simp)
      obtain ⟨qr0, qr1, qr2⟩ := cells3 Hpr.out
      go_wp2_with fail
      clear hvv7x
      clear qp0 qp1 qp2 qr0 qr1 qr2
      refine (lsame_calls rr cc rr cc A5 A6 u u N N d5 d6 _ HN_.out HN_.out (HW.out.bytes (by simp)) (HW.out.bytes (by simp))).mono ?_
      rintro e v8 ⟨rfl, HB⟩
      rw [sameB_refl]
      have HW := Lib.hid (HW.out.below HB)
      have Hpr := Lib.hid (Hpr.out.below HB Hpr.out.lt)
      have Hsr := Lib.hid (Hsr.out.below HB Hsr.out.lt)
      clear HB
      obtain ⟨qp0, qp1, qp2⟩ := HW.out.at_ (b := v6.heap.size) (R := rr2) (C := rr2) (A := A7) (n := N2) (c := d7) (by simp)
      obtain ⟨qr0, qr1, qr2⟩ := cells3 Hsr.out
      go_wp2_with fail
      clear qp0 qp1 qp2 qr0 qr1 qr2
      refine (lsame_calls rr2 rr2 rr2 rr2 A7 A8 u2 u2 N2 N2 d7 d8 _ HN2.out HN2.out (HW.out.bytes (by simp)) (HW.out.bytes (by simp))).mono ?_
      rintro e v9 ⟨rfl, HB⟩
      rw [sameB_refl]
      have HW := Lib.hid (HW.out.below HB)
      have Hpr := Lib.hid (Hpr.out.below HB Hpr.out.lt)
      have Hsr := Lib.hid (Hsr.out.below HB Hsr.out.lt)
      clear HB
      clear Hpr Hsr
      go_wp2_with fail
      refine (one_bad Z (.inr (by omega)) _).mono ?_
      rintro e v10 ⟨A9, d9, rfl, hd9, hO, HB⟩
      have HW := Lib.hid (HW.out.below HB)
      clear HB hO
      rw [show ((0 : Nat) : Int) = 0 from rfl]
      have hfl : (Instr.field 24 (.agg #[.int .i64 0, .int .i64 0, .slice A9 0 d9]) 0).run Try.prog v10 = .ok (.int .i64 0) v10 := by kernel_rfl
      go_wp2_with (go_at_call 12; (with_reducible refine (works_calls _).mono ?_); rintro e wz ⟨rfl, HZZ⟩)
      go_ret
      exact ⟨rfl, (HW.out.below HZZ).bel⟩
    · have hZ3 : decide (12 < Z) = false := by simp; omega
      go_wp2_with fail
      refine (HQ.new).mono ?_
      rintro e v2 ⟨rfl, HN⟩
      have HW := Lib.hid ((HN.arg HB1.out).arg HBX.out)
      clear HN HQ
      obtain ⟨qa0, qa1, qa2⟩ := HW.out.at_ (b := w.heap.size) (R := Ra) (C := Ca) (A := A) (n := n1) (c := c1) (by simp)
      go_wp2_with fail
      clear qa0 qa1 qa2
      refine (pickIsW HW.out Ra Ca n1 N c1 na ca rr cc A Aat s u zs k (by simp) hc1 HL1.out HNA.out HNA2.out HZ.out HN_.out HP.out).mono ?_
      rintro e v3 ⟨⟨A5, d5, rfl, hd5, HN⟩, HLv⟩
      clear HLv
      obtain ⟨v3x, hvv3x, -, HN⟩ := HN.var rr cc A5 N d5
      have HW := Lib.hid HN
      clear HN
      obtain ⟨qa0, qa1, qa2⟩ := HW.out.at_ (b := w.heap.size) (R := Ra) (C := Ca) (A := A) (n := n1) (c := c1) (by simp)
      go_wp2_with fail
      clear hvv3x
      clear qa0 qa1 qa2
      refine (plainW HW.out Ra Ca A n1 c1).mono ?_
      rintro e v4 ⟨rfl, HN, HLv⟩
      have HW := Lib.hid HN
      clear HN HLv
      go_wp2_with fail
      refine (refPickIsW HW.out Ra Ca n1 N c1 na ca rr cc A Aat s u zs k (by simp) hc1 HL1.out HNA.out HNA2.out HZ.out HN_.out HP.out).mono ?_
      rintro e v5 ⟨⟨A6, d6, rfl, hd6, HN⟩, HLv⟩
      clear HLv
      obtain ⟨v5x, hvv5x⟩ : ∃ v, v5.alloc (.cells #[.int .i64 rr, .int .i64 cc, .slice A6 N d6] 33) = v := ⟨_, rfl⟩
      have HN := HN.alloc (.cells #[.int .i64 rr, .int .i64 cc, .slice A6 N d6] 33)
      rw [hvv5x] at HN
      have HW := Lib.hid HN
      clear HN
      have Hpr := Lib.hid (show Block v5x v5.heap.size 33 #[.int .i64 rr, .int .i64 cc, .slice A6 N d6] by rw [← hvv5x]; exact Block.new _ _ _)
      obtain ⟨qa0, qa1, qa2⟩ := HW.out.at_ (b := w.heap.size) (R := Ra) (C := Ca) (A := A) (n := n1) (c := c1) (by simp)
      go_wp2_with fail
      clear hvv5x
      clear qa0 qa1 qa2
      refine (symmIsW HW.out Z n1 N2 c1 rr2 A s u2 k2 (by simp) HL1.out hc1 HN2.out HY.out).mono ?_
      rintro e v6 ⟨⟨A7, d7, rfl, hd7, HN⟩, HLv⟩
      have Hpr := Lib.hid (HLv _ _ _ (by decide) Hpr.out)
      clear HLv
      obtain ⟨v6x, hvv6x, -, HN⟩ := HN.var rr2 rr2 A7 N2 d7
      have HW := Lib.hid HN
      clear HN
      have Hpr := Lib.hid (show Block v6x _ _ _ by rw [← hvv6x]; exact Hpr.out.alloc _)
      obtain ⟨qa0, qa1, qa2⟩ := HW.out.at_ (b := w.heap.size) (R := Ra) (C := Ca) (A := A) (n := n1) (c := c1) (by simp)
      go_wp2_with fail
      clear hvv6x
      clear qa0 qa1 qa2
      refine (refSymmIsW HW.out Z n1 N2 c1 rr2 A s u2 k2 (by simp) HL1.out HN2.out HY.out).mono ?_
      rintro e v7 ⟨⟨A8, d8, rfl, hd8, HN⟩, HLv⟩
      have Hpr := Lib.hid (HLv _ _ _ (by decide) Hpr.out)
      clear HLv
      obtain ⟨v7x, hvv7x⟩ : ∃ v, v7.alloc (.cells #[.int .i64 rr2, .int .i64 rr2, .slice A8 N2 d8] 33) = v := ⟨_, rfl⟩
      have HN := HN.alloc (.cells #[.int .i64 rr2, .int .i64 rr2, .slice A8 N2 d8] 33)
      rw [hvv7x] at HN
      have HW := Lib.hid HN
      clear HN
      have Hpr := Lib.hid (show Block v7x _ _ _ by rw [← hvv7x]; exact Hpr.out.alloc _)
      have Hsr := Lib.hid (show Block v7x v7.heap.size 33 #[.int .i64 rr2, .int .i64 rr2, .slice A8 N2 d8] by rw [← hvv7x]; exact Block.new _ _ _)
      obtain ⟨qp0, qp1, qp2⟩ := HW.out.at_ (b := v3.heap.size) (R := rr) (C := cc) (A := A5) (n := N) (c := d5) (by simp)
      obtain ⟨qr0, qr1, qr2⟩ := cells3 Hpr.out
      go_wp2_with fail
      clear hvv7x
      clear qp0 qp1 qp2 qr0 qr1 qr2
      refine (lsame_calls rr cc rr cc A5 A6 u u N N d5 d6 _ HN_.out HN_.out (HW.out.bytes (by simp)) (HW.out.bytes (by simp))).mono ?_
      rintro e v8 ⟨rfl, HB⟩
      rw [sameB_refl]
      have HW := Lib.hid (HW.out.below HB)
      have Hpr := Lib.hid (Hpr.out.below HB Hpr.out.lt)
      have Hsr := Lib.hid (Hsr.out.below HB Hsr.out.lt)
      clear HB
      obtain ⟨qp0, qp1, qp2⟩ := HW.out.at_ (b := v6.heap.size) (R := rr2) (C := rr2) (A := A7) (n := N2) (c := d7) (by simp)
      obtain ⟨qr0, qr1, qr2⟩ := cells3 Hsr.out
      go_wp2_with fail
      clear qp0 qp1 qp2 qr0 qr1 qr2
      refine (lsame_calls rr2 rr2 rr2 rr2 A7 A8 u2 u2 N2 N2 d7 d8 _ HN2.out HN2.out (HW.out.bytes (by simp)) (HW.out.bytes (by simp))).mono ?_
      rintro e v9 ⟨rfl, HB⟩
      rw [sameB_refl]
      have HW := Lib.hid (HW.out.below HB)
      have Hpr := Lib.hid (Hpr.out.below HB Hpr.out.lt)
      have Hsr := Lib.hid (Hsr.out.below HB Hsr.out.lt)
      clear HB
      clear Hpr Hsr
      obtain ⟨nn, hnn⟩ : ∃ nn, Z.toNat = nn := ⟨_, rfl⟩
      obtain ⟨u3, hu3⟩ : ∃ u, flat nn nn oneF = u := ⟨_, rfl⟩
      obtain ⟨N3, hN3⟩ : ∃ N, u3.length = N := ⟨_, rfl⟩
      obtain ⟨u4, hu4⟩ : ∃ u, flat m nn (powF xs) = u := ⟨_, rfl⟩
      obtain ⟨N4, hN4⟩ : ∃ N, u4.length = N := ⟨_, rfl⟩
      have HNN := Lib.hid hnn
      have HU3 := Lib.hid hu3
      have HU4 := Lib.hid hu4
      have HN3 := Lib.hid hN3
      have HN4 := Lib.hid hN4
      have HZ100 : Hid (Z ≤ 100) := Lib.hid (by omega)
      clear hnn hu3 hu4 hN3 hN4
      go_wp2_with fail
      refine (oneIsW HW.out Z nn N3 u3 HZ100.out HNN.out HU3.out HN3.out).mono ?_
      rintro e v10 ⟨⟨A9, d9, rfl, hd9, HN⟩, HLv⟩
      have HW := Lib.hid HN
      clear HN HLv
      go_wp2_with fail
      refine (refOneIsW HW.out Z nn N3 u3 HZ100.out HNN.out HU3.out HN3.out).mono ?_
      rintro e v11 ⟨⟨A10, d10, rfl, hd10, HN⟩, HLv⟩
      have HW := Lib.hid HN
      clear HN HLv
      go_wp2_with fail
      refine (lsame_calls nn nn nn nn A9 A10 u3 u3 N3 N3 d9 d10 _ HN3.out HN3.out (HW.out.bytes (by simp)) (HW.out.bytes (by simp))).mono ?_
      rintro e v12 ⟨rfl, HB⟩
      rw [sameB_refl]
      have HW := Lib.hid (HW.out.below HB)
      clear HB
      go_wp2_with fail
      refine (powIsW HW.out Z m nn N4 cx X xs u4 (by simp) HZ100.out HMX.out HLX.out HNN.out HU4.out HN4.out).mono ?_
      rintro e v13 ⟨⟨A11, d11, rfl, hd11, HN⟩, HLv⟩
      have HW := Lib.hid HN
      clear HN HLv
      go_wp2_with fail
      refine (refPowIsW HW.out Z m nn N4 cx X xs u4 (by simp) HZ100.out HMX.out HLX.out HNN.out HU4.out HN4.out).mono ?_
      rintro e v14 ⟨⟨A12, d12, rfl, hd12, HN⟩, HLv⟩
      have HW := Lib.hid HN
      clear HN HLv
      go_wp2_with fail
      refine (lsame_calls m nn m nn A11 A12 u4 u4 N4 N4 d11 d12 _ HN4.out HN4.out (HW.out.bytes (by simp)) (HW.out.bytes (by simp))).mono ?_
      rintro e v15 ⟨rfl, HB⟩
      rw [sameB_refl]
      have HW := Lib.hid (HW.out.below HB)
      clear HB
      go_wp2_with (go_at_call 12; (with_reducible refine (works_calls _).mono ?_); rintro e wz ⟨rfl, HZZ⟩)
      go_ret
      exact ⟨rfl, (HW.out.below HZZ).bel⟩
theorem walk (w : World) (R0 C0 : Int) (A0 : Option Addr) (l0 : List Nat) (c0 : Nat) (_hR0 : -9223372036854775808 ≤ R0 ∧ R0 < 9223372036854775808) (_hC0 : -9223372036854775808 ≤ C0 ∧ C0 < 9223372036854775808) (hb0 : Bytes w A0 l0) (hc0 : l0.length ≤ c0) (_hm0 : c0 ≤ 9223372036854775807) (A1 : Option Addr) (l1 : List Int) (c1 : Nat) (hb1 : Row w A1 (Mat.zv l1)) (A2 : Option Addr) (l2 : List Nat) (c2 : Nat) (hb2 : Bytes w A2 l2) (_hc2 : l2.length ≤ c2) (_hm2 : c2 ≤ 9223372036854775807) (n3 : Int) (hl3 : -9223372036854775808 ≤ n3) (hn3 : n3 < 9223372036854775808) :
    Calls Try.prog 3 #[.agg #[.int .i64 R0, .int .i64 C0, .slice A0 l0.length c0], .slice A1 l1.length c1, .slice A2 l2.length c2, .int .i64 n3] w fun e w' => e = .returned (.bool true) ∧ Below w.heap.size w w' := by
  obtain ⟨p0, rfl⟩ := of_bytes l0 hb0.lt
  obtain ⟨p2, rfl⟩ := of_bytes l2 hb2.lt
  exact core w R0 C0 A0 p0 _ c0 (bs_length p0).symm hb0 hc0 A1 l1 _ c1 rfl hb1 A2 p2 _ c2 (bs_length p2).symm hb2 n3 hl3 hn3
end Go.Proofs.Ytidelegamdibgaa.matrixMakes
