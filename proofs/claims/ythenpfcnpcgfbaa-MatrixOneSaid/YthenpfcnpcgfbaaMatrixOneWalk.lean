/- The walk of MatrixOne. -/
import Derived.Test.YthenpfcnpcgfbaaMatAny
import Derived.Deep.RegionWith
import Derived.BigQuiet
namespace Go.Proofs.Ythenpfcnpcgfbaa.matrixOne
open Go.RowKit F8 GF Poly Mat

set_option maxRecDepth 100000 in
set_option maxHeartbeats 8000000 in
theorem core (w : World) (Ra Ca : Int) (A : Option Addr) (s : List F8) (n1 c1 : Nat) (hl1 : s.length = n1) (hb1 : Bytes w A (bs s)) (hc1 : n1 ≤ c1) :
    Calls Try.prog 3 #[.agg #[.int .i64 Ra, .int .i64 Ca, .slice A n1 c1]] w fun e w' => e = .returned (.bool true) ∧ Below w.heap.size w w' := by
  obtain ⟨wa, hwa, HQ⟩ := st1 w Ra Ca A n1 c1
  have HL1 := Lib.hid hl1
  have HB1 := Lib.hid hb1
  obtain ⟨b1, HS1⟩ : ∃ b, Hid (smallB Ra Ca n1 12 = b) := ⟨_, Lib.hid rfl⟩
  clear hl1 hb1
  obtain ⟨qa0, qa1, qa2⟩ := HQ.at_ (b := w.heap.size) (R := Ra) (C := Ca) (A := A) (n := n1) (c := c1) (by simp)
  go_enter Try.func3, Try.ntmps3
  go_wp2_with fail
  clear hwa
  clear qa0 qa1 qa2
  refine (small12 Ra Ca A n1 c1 _).mono ?_
  rintro e v1 ⟨rfl, hB⟩
  have HQ := HQ.below hB
  clear hB
  rw [HS1.out]
  cases b1
  case false =>
    go_wp2_with (go_at_call 12; (with_reducible refine (works_calls _).mono ?_); rintro e wz ⟨rfl, HZ⟩)
    go_ret
    exact ⟨rfl, (HQ.below HZ).bel⟩
  case true =>
    go_wp2_with fail
    refine (HQ.new).mono ?_
    rintro e v2 ⟨rfl, HN⟩
    have HW := Lib.hid (HN.arg HB1.out)
    clear HN HQ
    obtain ⟨sra, sca, sna⟩ := small_le HS1.out
    obtain ⟨rr, cc, u, k, hi⟩ := turnIs_exists (Ra := Ra) (Ca := Ca) (n1 := n1) s (by omega) (by omega)
    have HT := Lib.hid hi
    clear hi
    obtain ⟨m, k1, hi⟩ := rkIs_exists (Ra := Ra) (Ca := Ca) (n1 := n1) s (by omega) (by omega)
    have HK := Lib.hid hi
    clear hi
    obtain ⟨rr2, cc2, u2, k2, hi⟩ := invIs_exists (Ra := Ra) (Ca := Ca) (n1 := n1) s (by omega)
    have HI := Lib.hid hi
    clear hi
    obtain ⟨u3, k3, hi⟩ := pkIs_exists (Ra := Ra) (Ca := Ca) (n1 := n1) s (by omega)
    have HP := Lib.hid hi
    clear hi
    obtain ⟨N, hN⟩ : ∃ N, u.length = N := ⟨_, rfl⟩
    have HN_ := Lib.hid hN
    clear hN
    obtain ⟨N2, hN⟩ : ∃ N, u2.length = N := ⟨_, rfl⟩
    have HN2 := Lib.hid hN
    clear hN
    obtain ⟨N3, hN⟩ : ∃ N, u3.length = N := ⟨_, rfl⟩
    have HN3 := Lib.hid hN
    clear hN
    have HRa : Hid (Ra ≤ 100) := Lib.hid (by omega)
    have HCa : Hid (Ca ≤ 100) := Lib.hid (by omega)
    clear sra sca sna
    obtain ⟨qa0, qa1, qa2⟩ := HW.out.at_ (b := w.heap.size) (R := Ra) (C := Ca) (A := A) (n := n1) (c := c1) (by simp)
    go_wp2_with fail
    clear qa0 qa1 qa2
    refine (copiedW HW.out Ra Ca A s n1 c1 (by simp) HL1.out).mono ?_
    rintro e v3 ⟨A5, d5, rfl, hd5, HN⟩
    obtain ⟨v3x, hvv3x, -, HN⟩ := HN.var Ra Ca A5 n1 d5
    have HW := Lib.hid HN
    clear HN
    obtain ⟨qx0, qx1, qx2⟩ := HW.out.at_ (b := v3.heap.size) (R := Ra) (C := Ca) (A := A5) (n := n1) (c := d5) (by simp)
    go_wp2_with fail
    clear hvv3x
    clear qx0 qx1 qx2
    refine (turnIsW HW.out Ra Ca n1 N d5 rr cc A5 s u k (by simp) hd5 HL1.out HN_.out HT.out).mono ?_
    rintro e v4 ⟨⟨A7, d7, rfl, hd7, HN⟩, HLv⟩
    clear HLv
    obtain ⟨v4x, hvv4x, -, HN⟩ := HN.var rr cc A7 N d7
    have HW := Lib.hid HN
    clear HN
    obtain ⟨qa0, qa1, qa2⟩ := HW.out.at_ (b := w.heap.size) (R := Ra) (C := Ca) (A := A) (n := n1) (c := c1) (by simp)
    go_wp2_with fail
    clear hvv4x
    clear qa0 qa1 qa2
    refine (plainW HW.out Ra Ca A n1 c1).mono ?_
    rintro e v5 ⟨rfl, HN, HLv⟩
    have HW := Lib.hid HN
    clear HN
    clear HLv
    go_wp2_with fail
    refine (refTurnIsW HW.out Ra Ca n1 N c1 rr cc A s u k (by simp) HL1.out HN_.out HT.out).mono ?_
    rintro e v6 ⟨⟨A8, d8, rfl, hd8, HN⟩, HLv⟩
    clear HLv
    obtain ⟨v6x, hvv6x⟩ : ∃ v, v6.alloc (.cells #[.int .i64 rr, .int .i64 cc, .slice A8 N d8] 33) = v := ⟨_, rfl⟩
    have HN := HN.alloc (.cells #[.int .i64 rr, .int .i64 cc, .slice A8 N d8] 33)
    rw [hvv6x] at HN
    have HW := Lib.hid HN
    clear HN
    have Htr := Lib.hid (show Block v6x v6.heap.size 33 #[.int .i64 rr, .int .i64 cc, .slice A8 N d8] by rw [← hvv6x]; exact Block.new _ _ _)
    obtain ⟨qx0, qx1, qx2⟩ := HW.out.at_ (b := v3.heap.size) (R := Ra) (C := Ca) (A := A5) (n := n1) (c := d5) (by simp)
    go_wp2_with fail
    clear hvv6x
    clear qx0 qx1 qx2
    refine (rkIsW HW.out Ra Ca n1 d5 m A5 s k1 (by simp) HL1.out HK.out).mono ?_
    rintro e v7 ⟨rfl, HN, HLv⟩
    have HW := Lib.hid HN
    clear HN
    have Htr := Lib.hid (HLv _ _ _ (by decide) Htr.out)
    clear HLv
    obtain ⟨qa0, qa1, qa2⟩ := HW.out.at_ (b := w.heap.size) (R := Ra) (C := Ca) (A := A) (n := n1) (c := c1) (by simp)
    go_wp2_with fail
    clear qa0 qa1 qa2
    refine (plainW HW.out Ra Ca A n1 c1).mono ?_
    rintro e v8 ⟨rfl, HN, HLv⟩
    have HW := Lib.hid HN
    clear HN
    have Htr := Lib.hid (HLv _ _ _ (by decide) Htr.out)
    clear HLv
    go_wp2_with fail
    refine (refRkIsW HW.out Ra Ca n1 c1 m A s k1 (by simp) HL1.out HK.out).mono ?_
    rintro e v9 ⟨rfl, HN, HLv⟩
    have HW := Lib.hid HN
    clear HN
    have Htr := Lib.hid (HLv _ _ _ (by decide) Htr.out)
    clear HLv
    obtain ⟨rb, hrb⟩ : ∃ b, RightB Ra Ca n1 = b := ⟨_, rfl⟩
    obtain ⟨qp0, qp1, qp2⟩ := HW.out.at_ (b := v4.heap.size) (R := rr) (C := cc) (A := A7) (n := N) (c := d7) (by simp)
    obtain ⟨qx0, qx1, qx2⟩ := HW.out.at_ (b := v3.heap.size) (R := Ra) (C := Ca) (A := A5) (n := n1) (c := d5) (by simp)
    obtain ⟨qa0, qa1, qa2⟩ := HW.out.at_ (b := w.heap.size) (R := Ra) (C := Ca) (A := A) (n := n1) (c := c1) (by simp)
    obtain ⟨qtr0, qtr1, qtr2⟩ := cells3 Htr.out
    have Xqp0 := cell_regrown qp0
    have Xqp1 := cell_regrown qp1
    have Xqp2 := cell_regrown qp2
    have Xqx0 := cell_regrown qx0
    have Xqx1 := cell_regrown qx1
    have Xqx2 := cell_regrown qx2
    have Xqa0 := cell_regrown qa0
    have Xqa1 := cell_regrown qa1
    have Xqa2 := cell_regrown qa2
    have Xqtr0 := cell_regrown qtr0
    have Xqtr1 := cell_regrown qtr1
    have Xqtr2 := cell_regrown qtr2
    clear qp0 qp1 qp2 qx0 qx1 qx2 qa0 qa1 qa2 qtr0 qtr1 qtr2
    obtain ⟨wl, hwl⟩ : ∃ V, v9 = V := ⟨_, rfl⟩
    have j1 : ∀ V, Below wl.heap.size wl V → Calls Try.prog 20 #[.agg #[.int .i64 rr, .int .i64 cc, .slice A7 N d7], .agg #[.int .i64 rr, .int .i64 cc, .slice A8 N d8]] V fun e w' => e = .returned (.bool true) ∧ Below V.heap.size V w' := fun V hV => by
      have h := lsame_calls rr cc rr cc A7 A8 u u N N d7 d8 V HN_.out HN_.out ((HW.out.bytes (A := A7) (p := u) (by simp)).below (hwl ▸ hV)) ((HW.out.bytes (A := A8) (p := u) (by simp)).below (hwl ▸ hV))
      rw [sameB_refl] at h
      exact h
    have j2 : ∀ V, Below wl.heap.size wl V → Calls Try.prog 21 #[.agg #[.int .i64 Ra, .int .i64 Ca, .slice A5 n1 d5]] V fun e w' => e = .returned (.bool rb) ∧ Below V.heap.size V w' := fun V hV => by
      have h := right_calls Ra Ca A5 n1 d5 V
      rw [hrb] at h
      exact h
    have j3 : ∀ V, Below wl.heap.size wl V → Calls Try.prog 22 #[.agg #[.int .i64 Ra, .int .i64 Ca, .slice A n1 c1]] V fun e w' => e = .returned (.bool rb) ∧ Below V.heap.size V w' := fun V hV => by
      have h := refRight_calls Ra Ca A n1 c1 V
      rw [hrb] at h
      exact h
    go_wp2_with fail
    refine wp_region_quiet_below (by kernel_rfl) (by kernel_rfl) ?_
    subst hwl
    repeat (go_big_quiet_step (first
      | (go_at_call 20; (with_reducible exact Calls.regrown_of (j1 _ (below_regrown _ _ _))))
      | (go_at_call 21; (with_reducible exact Calls.regrown_of (j2 _ (below_regrown _ _ _))))
      | (go_at_call 22; (with_reducible exact Calls.regrown_of (j3 _ (below_regrown _ _ _))))
      | (go_at_call 17; (with_reducible exact Calls.regrown_of (plain_calls _ _ _ _ _ _)))
      | (go_at_call 12; (with_reducible exact Calls.regrown_of (works_calls _)))))
    refine wpQuiet_nil ?_
    intro _ hw'
    obtain ⟨⟨dq, osq⟩, hw''⟩ := hw'
    subst hw''
    have HW := Lib.hid (HW.out.below (below_regrown _ dq osq))
    have Htr := Lib.hid (Htr.out.below (below_regrown _ dq osq) Htr.out.lt)
    clear Xqp0 Xqp1 Xqp2 Xqx0 Xqx1 Xqx2 Xqa0 Xqa1 Xqa2 Xqtr0 Xqtr1 Xqtr2 j1 j2 j3
    dsimp only
    generalize Sort.grow (redrawn _ dq) osq = wq at *
    clear hrb
    obtain ⟨qx0, qx1, qx2⟩ := HW.out.at_ (b := v3.heap.size) (R := Ra) (C := Ca) (A := A5) (n := n1) (c := d5) (by simp)
    go_wp2_with fail
    clear qx0 qx1 qx2
    refine (invIsW HW.out Ra Ca n1 N2 d5 rr2 cc2 A5 s u2 k2 (by simp) hd5 HL1.out HN2.out HI.out).mono ?_
    rintro e v21 ⟨⟨A9, d9, rfl, hd9, HN⟩, HLv⟩
    have Htr := Lib.hid (HLv _ _ _ (by decide) Htr.out)
    clear HLv
    obtain ⟨v21x, hvv21x, -, HN⟩ := HN.var rr2 cc2 A9 N2 d9
    have HW := Lib.hid HN
    clear HN
    have Htr := Lib.hid (show Block v21x _ _ _ by rw [← hvv21x]; exact Htr.out.alloc _)
    obtain ⟨qa0, qa1, qa2⟩ := HW.out.at_ (b := w.heap.size) (R := Ra) (C := Ca) (A := A) (n := n1) (c := c1) (by simp)
    go_wp2_with fail
    clear hvv21x
    clear qa0 qa1 qa2
    refine (plainW HW.out Ra Ca A n1 c1).mono ?_
    rintro e v22 ⟨rfl, HN, HLv⟩
    have HW := Lib.hid HN
    clear HN
    have Htr := Lib.hid (HLv _ _ _ (by decide) Htr.out)
    clear HLv
    go_wp2_with fail
    refine (refInvIsW HW.out Ra Ca n1 N2 c1 rr2 cc2 A s u2 k2 (by simp) hc1 HL1.out HN2.out HI.out).mono ?_
    rintro e v23 ⟨⟨A10, d10, rfl, hd10, HN⟩, HLv⟩
    have Htr := Lib.hid (HLv _ _ _ (by decide) Htr.out)
    clear HLv
    obtain ⟨v23x, hvv23x⟩ : ∃ v, v23.alloc (.cells #[.int .i64 rr2, .int .i64 cc2, .slice A10 N2 d10] 33) = v := ⟨_, rfl⟩
    have HN := HN.alloc (.cells #[.int .i64 rr2, .int .i64 cc2, .slice A10 N2 d10] 33)
    rw [hvv23x] at HN
    have HW := Lib.hid HN
    clear HN
    have Htr := Lib.hid (show Block v23x _ _ _ by rw [← hvv23x]; exact Htr.out.alloc _)
    have Hir := Lib.hid (show Block v23x v23.heap.size 33 #[.int .i64 rr2, .int .i64 cc2, .slice A10 N2 d10] by rw [← hvv23x]; exact Block.new _ _ _)
    obtain ⟨qx0, qx1, qx2⟩ := HW.out.at_ (b := v3.heap.size) (R := Ra) (C := Ca) (A := A5) (n := n1) (c := d5) (by simp)
    go_wp2_with fail
    clear hvv23x
    clear qx0 qx1 qx2
    refine (pkIsW HW.out Ra Ca n1 N3 d5 A5 s u3 k3 (by simp) HRa.out HCa.out hd5 HL1.out HN3.out HP.out).mono ?_
    rintro e v24 ⟨⟨A11, d11, rfl, hd11, HN⟩, HLv⟩
    have HW := Lib.hid HN
    clear HN
    have Htr := Lib.hid (HLv _ _ _ (by decide) Htr.out)
    have Hir := Lib.hid (HLv _ _ _ (by decide) Hir.out)
    clear HLv
    obtain ⟨qa0, qa1, qa2⟩ := HW.out.at_ (b := w.heap.size) (R := Ra) (C := Ca) (A := A) (n := n1) (c := c1) (by simp)
    go_wp2_with fail
    clear qa0 qa1 qa2
    refine (plainW HW.out Ra Ca A n1 c1).mono ?_
    rintro e v25 ⟨rfl, HN, HLv⟩
    have HW := Lib.hid HN
    clear HN
    have Htr := Lib.hid (HLv _ _ _ (by decide) Htr.out)
    have Hir := Lib.hid (HLv _ _ _ (by decide) Hir.out)
    clear HLv
    go_wp2_with fail
    refine (refPkIsW HW.out Ra Ca n1 N3 c1 A s u3 k3 (by simp) HL1.out HN3.out HP.out).mono ?_
    rintro e v26 ⟨⟨A12, d12, rfl, hd12, HN⟩, HLv⟩
    have HW := Lib.hid HN
    clear HN
    have Htr := Lib.hid (HLv _ _ _ (by decide) Htr.out)
    have Hir := Lib.hid (HLv _ _ _ (by decide) Hir.out)
    clear HLv
    obtain ⟨qinv0, qinv1, qinv2⟩ := HW.out.at_ (b := v21.heap.size) (R := rr2) (C := cc2) (A := A9) (n := N2) (c := d9) (by simp)
    obtain ⟨qir0, qir1, qir2⟩ := cells3 Hir.out
    go_wp2_with fail
    clear qinv0 qinv1 qinv2 qir0 qir1 qir2
    refine (lsame_calls rr2 cc2 rr2 cc2 A9 A10 u2 u2 N2 N2 d9 d10 _ HN2.out HN2.out (HW.out.bytes (by simp)) (HW.out.bytes (by simp))).mono ?_
    rintro e v27 ⟨rfl, HB⟩
    rw [sameB_refl]
    have HW := Lib.hid (HW.out.below HB)
    clear HB
    go_wp2_with fail
    refine (sameW HW.out A11 A12 u3 u3 N3 N3 d11 d12 (by simp) (by simp) HN3.out HN3.out true (by simp)).mono ?_
    rintro e v28 ⟨rfl, rfl⟩
    obtain ⟨qx0, qx1, qx2⟩ := HW.out.at_ (b := v3.heap.size) (R := Ra) (C := Ca) (A := A5) (n := n1) (c := d5) (by simp)
    obtain ⟨qa0, qa1, qa2⟩ := HW.out.at_ (b := w.heap.size) (R := Ra) (C := Ca) (A := A) (n := n1) (c := c1) (by simp)
    go_wp2_with fail
    clear qx0 qx1 qx2 qa0 qa1 qa2
    refine (msameW HW.out Ra Ca Ra Ca A5 A s s n1 n1 d5 c1 (by simp) (by simp) HL1.out HL1.out true (sameB_refl _ _ _)).mono ?_
    rintro e v29 ⟨rfl, HN, -⟩
    have HW := Lib.hid HN
    clear HN
    go_wp2_with (go_at_call 12; (with_reducible refine (works_calls _).mono ?_); rintro e wz ⟨rfl, HZ⟩)
    go_ret
    exact ⟨rfl, (HW.out.below HZ).bel⟩
theorem walk (w : World) (R0 C0 : Int) (A0 : Option Addr) (l0 : List Nat) (c0 : Nat) (_hR0 : -9223372036854775808 ≤ R0 ∧ R0 < 9223372036854775808) (_hC0 : -9223372036854775808 ≤ C0 ∧ C0 < 9223372036854775808) (hb0 : Bytes w A0 l0) (hc0 : l0.length ≤ c0) (_hm0 : c0 ≤ 9223372036854775807) :
    Calls Try.prog 3 #[.agg #[.int .i64 R0, .int .i64 C0, .slice A0 l0.length c0]] w fun e w' => e = .returned (.bool true) ∧ Below w.heap.size w w' := by
  obtain ⟨p0, rfl⟩ := of_bytes l0 hb0.lt
  exact core w R0 C0 A0 p0 _ c0 (bs_length p0).symm hb0 hc0
end Go.Proofs.Ythenpfcnpcgfbaa.matrixOne
