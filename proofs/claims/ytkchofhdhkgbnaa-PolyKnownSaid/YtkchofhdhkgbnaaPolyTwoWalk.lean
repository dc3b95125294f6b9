/- The walk of PolyTwo. -/
import Derived.Test.YtkchofhdhkgbnaaPolyRefSt
import Derived.BigQuiet
import Derived.RegionTactic
import Derived.BigRegion
namespace Go.Proofs.Ytkchofhdhkgbnaa.polyTwo
open Go.RowKit F8 GF Poly

theorem conv_b (p : List F8) (w : World) : (convert 9 22 (.string (str (bs p)))).run Try.prog w = .ok (.slice (some ⟨w.heap.size, 0, none⟩) p.length (grownCap w p.length 0 5)) (Lib.bytesWorld w 5 (str (bs p))) := by
  have h := conv_bytes (P := Try.prog) w (bs p) 9 22 5 Try.underlying9 Try.underlying22 Try.underlying5
  rw [bs_length] at h; exact h
theorem bw_below (w : World) (p : List F8) : Below w.heap.size w (Lib.bytesWorld w 5 (str (bs p))) := bytesWorld_below w _ _
theorem bw_bytes (w : World) (p : List F8) : Bytes (Lib.bytesWorld w 5 (str (bs p))) (some ⟨w.heap.size, 0, none⟩) (bs p) := bytesWorld_bytes w _ (bs p) (bs_lt p)

theorem le_grown (w : World) (n : Nat) : n ≤ grownCap w n 0 5 := by
  exact grownCap_ge w n 0 _
set_option maxRecDepth 100000 in
set_option maxHeartbeats 8000000 in
theorem core (S : Poly.Spec) (w : World) (A : Option Addr) (p : List F8) (m c : Nat) (B : Option Addr) (q : List F8) (n d : Nat) (hm : p.length = m) (hbp : Bytes w A (bs p)) (hc : m ≤ c) (hm9 : m ≤ 9223372036854775807) (hn : q.length = n) (hbq : Bytes w B (bs q)) (hd : n ≤ d) (hn9 : n ≤ 9223372036854775807) :
    Calls Try.prog 3 #[.slice A m c, .slice B n d] w fun e w' => e = .returned (.bool true) ∧ Below w.heap.size w w' := by
  by_cases g0 : 40 < m
  · go_enter Try.func3, Try.ntmps3
    go_wp2_with (go_at_call 12; (with_reducible refine (works_calls S _).mono ?_); rintro e w1 ⟨rfl, HN⟩)
    go_ret
    exact ⟨rfl, HN⟩
  have k0 : m ≤ 40 := by omega
  clear g0
  by_cases g1 : 40 < n
  · go_enter Try.func3, Try.ntmps3
    go_wp2_with (go_at_call 12; (with_reducible refine (works_calls S _).mono ?_); rintro e w1 ⟨rfl, HN⟩)
    go_ret
    exact ⟨rfl, HN⟩
  have k1 : n ≤ 40 := by omega
  clear g1
  have HB := Lib.hid hbp
  have HB2 := Lib.hid hbq
  have HM := Lib.hid hm
  have HNl := Lib.hid hn
  have hB0 : Below w.heap.size w w.drew := (Below.refl _ _).drew
  have c1 := conv_f (hbp.below hB0) m c hm
  have c2 := conv_f (hbq.below hB0) n d hn
  have c1' := conv_f (hbp.below (hB0.trans (bw_below w.drew q))) m c hm
  have c2' := conv_f (hbq.below (hB0.trans (bw_below w.drew p))) n d hn
  obtain ⟨s, h_s⟩ : ∃ s, trim (padd p q) = s := ⟨_, rfl⟩
  obtain ⟨t, h_t⟩ : ∃ t, trim (pmul p q) = t := ⟨_, rfl⟩
  obtain ⟨T, hT⟩ : ∃ T, trim p = T := ⟨_, rfl⟩
  have hTl : T.length ≤ 40 := by rw [← hT]; have := trim_len p; omega
  have HTT := Lib.hid hT
  have HTd : Hid ((len p : Int) - 1 = (T.length : Int) - 1) := Lib.hid (by unfold len; rw [hT])
  clear hT
  have kp := conv_b p
  have kq := conv_b q
  rw [hm] at kp
  rw [hn] at kq
  clear hbp hbq hm hn hB0
  go_enter Try.func3, Try.ntmps3
  go_wp2_with fail
  go_region
  all_goals go_wp2_with fail
  · have HX : Bytes _ (some ⟨w.heap.size, 0, none⟩) (bs p) := (bw_bytes w.drew p).below (bw_below (Lib.bytesWorld w.drew 5 (str (bs p))) q)
    have HY := bw_bytes (Lib.bytesWorld w.drew 5 (str (bs p))) q
    have HBel := (((Below.refl _ w).drew).trans (bw_below w.drew p)).trans ((bw_below (Lib.bytesWorld w.drew 5 (str (bs p))) q).mono (bw_below w.drew p).size)
    have hcx := le_grown w.drew m
    have hcy := le_grown (Lib.bytesWorld w.drew 5 (str (bs p))) n
    clear c1 c2 c1' c2' kp kq
    generalize grownCap w.drew m 0 5 = cx at *
    generalize grownCap (Lib.bytesWorld w.drew 5 (str (bs p))) n 0 5 = cy at *
    generalize Lib.bytesWorld (Lib.bytesWorld w.drew 5 (str (bs p))) 5 (str (bs q)) = wc at *
    generalize (Lib.bytesWorld w.drew 5 (str (bs p))).heap.size = ay at *
    refine (newS _ (St.refl wc)).mono ?_
    rintro e w1 ⟨rfl, HN⟩
    have HW := Lib.hid (((((W.start HN).arg (HB.out.below HBel)).arg (HB2.out.below HBel)).arg HX).arg HY)
    clear HN HX HY
    by_cases hz : len q = 0
    · have htz : Hid (trim q = []) := Lib.hid (by unfold len at hz; exact List.eq_nil_of_length_eq_zero hz)
      clear hz
      go_wp2_with fail
      refine (divW_zero S (some ⟨w.heap.size, 0, none⟩) (some ⟨ay, 0, none⟩) p q m n cx cy _ HW.out (by simp) (by simp) HM.out HNl.out hcx hcy (by omega) (by omega) htz.out).mono ?_
      rintro e w2 ⟨A1, c1, A2, c2, rfl, hc1, hc2, HN⟩
      have HW := Lib.hid HN
      clear HN
      go_wp2_with fail
      refine (refDivW_zero A B q m n c d _ HW.out (by simp) HNl.out hd (by omega) htz.out).mono ?_
      rintro e w3 ⟨A3, c3, A4, c4, rfl, hc3, hc4, HN⟩
      have HW := Lib.hid HN
      clear HN htz
      have HW5 := Lib.hid (HW.out.sub (ls' := [((some ⟨ay, 0, none⟩), q), ((some ⟨w.heap.size, 0, none⟩), p), (B, q), (A, p)]) (by simp))
      go_wp2_with fail
      refine (S.trimP (some ⟨w.heap.size, 0, none⟩) p m cx _ HM.out (HW5.out.bytes (A := (some ⟨w.heap.size, 0, none⟩)) (p := p) (by simp)) hcx (by omega)).mono ?_
      rintro e w6 ⟨At, ct, rfl, hct, hOt, hBt⟩
      rw [HTT.out] at hOt hct ⊢
      have HOt := Lib.hid hOt
      have HP := hBt
      have HW := Lib.hid (HW.out.below hBt)
      clear hOt hBt
      go_wp2_with fail
      refine (sameW A1 A3 ([] : List F8) ([] : List F8) 0 0 c1 c3 _ HW.out (by simp) (by simp) rfl rfl true (by simp)).mono ?_
      rintro e w7 ⟨rfl, rfl⟩
      go_wp2_with fail
      refine (sameW A2 A4 ([] : List F8) ([] : List F8) 0 0 c2 c4 _ HW.out (by simp) (by simp) rfl rfl true (by simp)).mono ?_
      rintro e w7 ⟨rfl, rfl⟩
      clear HW
      go_wp2_with fail
      refine (refTrim_len A p m c _ HM.out ((HW5.out.bytes (A := A) (p := p) (by simp)).below HP) hc (by omega)).mono ?_
      rintro e w7 ⟨A7, cA7, rfl, hcA7, hOr, hBr⟩
      rw [HTT.out] at hOr hcA7 ⊢
      replace HOt := Lib.hid (HOt.out.below hBr)
      replace HP := HP.trans (hBr.mono HP.size)
      have HRA7 := Lib.hid (Own.bytes hOr)
      clear hOr hBr
      go_wp2_with fail
      refine (same_calls At A7 T T T.length T.length ct cA7 _ rfl rfl (Own.bytes HOt.out) HRA7.out).mono ?_
      rw [show decide (T = T) = true by simp]
      rintro e w8 ⟨rfl, rfl⟩
      go_wp2_with fail
      refine (S.degreeP (some ⟨w.heap.size, 0, none⟩) p m cx _ HM.out ((HW5.out.bytes (A := (some ⟨w.heap.size, 0, none⟩)) (p := p) (by simp)).below HP) hcx (by omega)).mono ?_
      rintro e w8 ⟨rfl, hB8⟩
      rw [HTd.out]
      replace HOt := Lib.hid (HOt.out.below hB8)
      replace HP := HP.trans (hB8.mono HP.size)
      clear hB8
      go_wp2_with fail
      refine (refTrim_len A p m c _ HM.out ((HW5.out.bytes (A := A) (p := p) (by simp)).below HP) hc (by omega)).mono ?_
      rintro e w9 ⟨A8, cA8, rfl, hcA8, hOr, hBr⟩
      rw [HTT.out] at hOr hcA8 ⊢
      replace HOt := Lib.hid (HOt.out.below hBr)
      replace HP := HP.trans (hBr.mono HP.size)
      have HRA8 := Lib.hid (Own.bytes hOr)
      clear hOr hBr
      go_wp2
      go_loopw [15] (fun i wr => ∃ j : Nat, ∃ tv : List Nat, j ≤ T.length ∧ i = .int .i64 j ∧ Hid (tv.length = T.length) ∧ Hid (∀ x ∈ tv, x < 256) ∧ Hid (Own wr w3.heap.size 5 (.slice At T.length ct) (bv tv)) ∧ Below w3.heap.size w3 wr) (fun i _ => T.length - (intOf i).toNat)
      case atStart => exact ⟨0, bs T, by omega, rfl, Lib.hid (bs_length T), Lib.hid (bs_lt T), HOt, HP⟩
      case round =>
        clear HOt HP HRA7 HRA8
        obtain ⟨j, tv, hj, rfl, HTL, HT256, HOt, HP⟩ := hrel
        by_cases hjl : j < T.length
        · have hjt : j < (bv tv).length := by rw [bv_length, HTL.out]; exact hjl
          obtain ⟨gt, ct2, e1, hgt, hgt2, hct2⟩ := HOt.out.form1 (by omega)
          simp only [Value.slice.injEq] at e1
          obtain ⟨rfl, _, rfl⟩ := e1
          have hcell := HOt.out.cellAt (by rw [bv_length, HTL.out]) j hjt
          have hfr := HOt.out.frozenAt (by rw [bv_length, HTL.out]) j
          rw [bv_get] at hcell
          obtain ⟨xv, hxv⟩ : ∃ xv, tv[j]'(by rwa [bv_length] at hjt) = xv := ⟨_, rfl⟩
          have hx256 : xv < 256 := by rw [← hxv]; exact HT256.out _ (List.getElem_mem _)
          rw [hxv] at hcell
          obtain ⟨yv, hyv, hyv2⟩ : ∃ yv : Nat, (xv + 1) % 256 = yv ∧ ((xv : Int) + 1) % 256 = (yv : Int) := ⟨(xv + 1) % 256, rfl, by omega⟩
          have hy256 : yv < 256 := by omega
          have HS2 := Lib.hid (HOt.out.set_ (by rw [bv_length, HTL.out]) j (.int .u8 (yv : Int)))
          have HP2 := HP.setCell (p := ⟨gt, j, none⟩) hgt (.int .u8 (yv : Int))
          have HTL2 : Hid ((tv.set j yv).length = T.length) := Lib.hid (by rw [List.length_set]; exact HTL.out)
          have HT2 := Lib.hid (set_lt HT256.out (k := j) hy256)
          have hjI : (j : Int) < (T.length : Int) := by omega
          clear hxv hyv hjt HOt HTL HT256 HP
          go_wp2
          go_roundw
          case rel => exact ⟨j + 1, tv.set j yv, by omega, by go_num, HTL2, HT2, by rw [← bv_set]; exact HS2, HP2⟩
          case measure => simp [intOf]; omega
        · have HW := Lib.hid (HW5.out.below HP)
          obtain rfl : j = T.length := by omega
          clear HOt HTL HT256 hj hjl HP HW5
          go_wp2_with fail
          refine (addW S (some ⟨w.heap.size, 0, none⟩) (some ⟨ay, 0, none⟩) p q m n cx cy _ HW.out (by simp) (by simp) HM.out HNl.out hcx hcy (by omega) (by omega) s h_s).mono ?_
          rintro e w31 ⟨A11, c11, rfl, hc11, HN⟩
          have HW := Lib.hid HN
          clear HN
          go_wp2_with fail
          refine (refAddW A B p q m n c d _ HW.out (by simp) (by simp) HM.out HNl.out (by omega) (by omega) s h_s).mono ?_
          rintro e w32 ⟨A12, c12, rfl, hc12, HN⟩
          have HW := Lib.hid HN
          clear HN
          go_wp2_with fail
          refine (sameW A11 A12 s s s.length s.length c11 c12 _ HW.out (by simp) (by simp) rfl rfl true (by simp)).mono ?_
          rintro e w33 ⟨rfl, rfl⟩
          go_wp2_with fail
          refine (mulW S (some ⟨w.heap.size, 0, none⟩) (some ⟨ay, 0, none⟩) p q m n cx cy _ HW.out (by simp) (by simp) HM.out HNl.out hcx hcy (by omega) (by omega) t h_t).mono ?_
          rintro e w34 ⟨A13, c13, rfl, hc13, HN⟩
          have HW := Lib.hid HN
          clear HN
          go_wp2_with fail
          refine (refMulW A B p q m n c d _ HW.out (by simp) (by simp) HM.out HNl.out (by omega) (by omega) t h_t).mono ?_
          rintro e w35 ⟨A14, c14, rfl, hc14, HN⟩
          have HW := Lib.hid HN
          clear HN
          go_wp2_with fail
          refine (sameW A13 A14 t t t.length t.length c13 c14 _ HW.out (by simp) (by simp) rfl rfl true (by simp)).mono ?_
          rintro e w36 ⟨rfl, rfl⟩
          go_wp2_with fail
          refine (sameW (some ⟨w.heap.size, 0, none⟩) A p p m m cx c _ HW.out (by simp) (by simp) HM.out HM.out true (by simp)).mono ?_
          rintro e w37 ⟨rfl, rfl⟩
          go_wp2_with fail
          refine (sameW (some ⟨ay, 0, none⟩) B q q n n cy d _ HW.out (by simp) (by simp) HNl.out HNl.out true (by simp)).mono ?_
          rintro e w38 ⟨rfl, rfl⟩
          clear h_s h_t
          go_wp2_with (go_at_call 12; (with_reducible refine (works_calls S _).mono ?_); rintro e wz ⟨rfl, HZ⟩)
          go_ret
          exact ⟨rfl, HBel.trans (((HW.out.below HZ).bel).mono HBel.size)⟩
    · have hlq : Hid (0 < len q) := Lib.hid (by omega)
      clear hz
      go_wp2_with fail
      refine (divW S (some ⟨w.heap.size, 0, none⟩) (some ⟨ay, 0, none⟩) p q m n cx cy _ HW.out (by simp) (by simp) HM.out HNl.out hcx hcy (by omega) (by omega) hlq.out).mono ?_
      rintro e w2 ⟨u, v, hu, A1, c1, A2, c2, rfl, hc1, hc2, HN⟩
      have HW := Lib.hid HN
      have HU := Lib.hid hu
      clear HN hu
      go_wp2_with fail
      refine (refDivW A B p q m n c d _ HW.out (by simp) (by simp) HM.out HNl.out hc hd (by omega) (by omega) hlq.out u v HU.out).mono ?_
      rintro e w3 ⟨A3, c3, A4, c4, rfl, hc3, hc4, HN⟩
      have HW := Lib.hid HN
      clear HN hlq HU
      have HW5 := Lib.hid (HW.out.sub (ls' := [((some ⟨ay, 0, none⟩), q), ((some ⟨w.heap.size, 0, none⟩), p), (B, q), (A, p)]) (by simp))
      go_wp2_with fail
      refine (S.trimP (some ⟨w.heap.size, 0, none⟩) p m cx _ HM.out (HW5.out.bytes (A := (some ⟨w.heap.size, 0, none⟩)) (p := p) (by simp)) hcx (by omega)).mono ?_
      rintro e w6 ⟨At, ct, rfl, hct, hOt, hBt⟩
      rw [HTT.out] at hOt hct ⊢
      have HOt := Lib.hid hOt
      have HP := hBt
      have HW := Lib.hid (HW.out.below hBt)
      clear hOt hBt
      go_wp2_with fail
      refine (sameW A1 A3 u u u.length u.length c1 c3 _ HW.out (by simp) (by simp) rfl rfl true (by simp)).mono ?_
      rintro e w7 ⟨rfl, rfl⟩
      go_wp2_with fail
      refine (sameW A2 A4 v v v.length v.length c2 c4 _ HW.out (by simp) (by simp) rfl rfl true (by simp)).mono ?_
      rintro e w7 ⟨rfl, rfl⟩
      clear HW
      go_wp2_with fail
      refine (refTrim_len A p m c _ HM.out ((HW5.out.bytes (A := A) (p := p) (by simp)).below HP) hc (by omega)).mono ?_
      rintro e w7 ⟨A7, cA7, rfl, hcA7, hOr, hBr⟩
      rw [HTT.out] at hOr hcA7 ⊢
      replace HOt := Lib.hid (HOt.out.below hBr)
      replace HP := HP.trans (hBr.mono HP.size)
      have HRA7 := Lib.hid (Own.bytes hOr)
      clear hOr hBr
      go_wp2_with fail
      refine (same_calls At A7 T T T.length T.length ct cA7 _ rfl rfl (Own.bytes HOt.out) HRA7.out).mono ?_
      rw [show decide (T = T) = true by simp]
      rintro e w8 ⟨rfl, rfl⟩
      go_wp2_with fail
      refine (S.degreeP (some ⟨w.heap.size, 0, none⟩) p m cx _ HM.out ((HW5.out.bytes (A := (some ⟨w.heap.size, 0, none⟩)) (p := p) (by simp)).below HP) hcx (by omega)).mono ?_
      rintro e w8 ⟨rfl, hB8⟩
      rw [HTd.out]
      replace HOt := Lib.hid (HOt.out.below hB8)
      replace HP := HP.trans (hB8.mono HP.size)
      clear hB8
      go_wp2_with fail
      refine (refTrim_len A p m c _ HM.out ((HW5.out.bytes (A := A) (p := p) (by simp)).below HP) hc (by omega)).mono ?_
      rintro e w9 ⟨A8, cA8, rfl, hcA8, hOr, hBr⟩
      rw [HTT.out] at hOr hcA8 ⊢
      replace HOt := Lib.hid (HOt.out.below hBr)
      replace HP := HP.trans (hBr.mono HP.size)
      have HRA8 := Lib.hid (Own.bytes hOr)
      clear hOr hBr
      go_wp2
      go_loopw [15] (fun i wr => ∃ j : Nat, ∃ tv : List Nat, j ≤ T.length ∧ i = .int .i64 j ∧ Hid (tv.length = T.length) ∧ Hid (∀ x ∈ tv, x < 256) ∧ Hid (Own wr w3.heap.size 5 (.slice At T.length ct) (bv tv)) ∧ Below w3.heap.size w3 wr) (fun i _ => T.length - (intOf i).toNat)
      case atStart => exact ⟨0, bs T, by omega, rfl, Lib.hid (bs_length T), Lib.hid (bs_lt T), HOt, HP⟩
      case round =>
        clear HOt HP HRA7 HRA8
        obtain ⟨j, tv, hj, rfl, HTL, HT256, HOt, HP⟩ := hrel
        by_cases hjl : j < T.length
        · have hjt : j < (bv tv).length := by rw [bv_length, HTL.out]; exact hjl
          obtain ⟨gt, ct2, e1, hgt, hgt2, hct2⟩ := HOt.out.form1 (by omega)
          simp only [Value.slice.injEq] at e1
          obtain ⟨rfl, _, rfl⟩ := e1
          have hcell := HOt.out.cellAt (by rw [bv_length, HTL.out]) j hjt
          have hfr := HOt.out.frozenAt (by rw [bv_length, HTL.out]) j
          rw [bv_get] at hcell
          obtain ⟨xv, hxv⟩ : ∃ xv, tv[j]'(by rwa [bv_length] at hjt) = xv := ⟨_, rfl⟩
          have hx256 : xv < 256 := by rw [← hxv]; exact HT256.out _ (List.getElem_mem _)
          rw [hxv] at hcell
          obtain ⟨yv, hyv, hyv2⟩ : ∃ yv : Nat, (xv + 1) % 256 = yv ∧ ((xv : Int) + 1) % 256 = (yv : Int) := ⟨(xv + 1) % 256, rfl, by omega⟩
          have hy256 : yv < 256 := by omega
          have HS2 := Lib.hid (HOt.out.set_ (by rw [bv_length, HTL.out]) j (.int .u8 (yv : Int)))
          have HP2 := HP.setCell (p := ⟨gt, j, none⟩) hgt (.int .u8 (yv : Int))
          have HTL2 : Hid ((tv.set j yv).length = T.length) := Lib.hid (by rw [List.length_set]; exact HTL.out)
          have HT2 := Lib.hid (set_lt HT256.out (k := j) hy256)
          have hjI : (j : Int) < (T.length : Int) := by omega
          clear hxv hyv hjt HOt HTL HT256 HP
          go_wp2
          go_roundw
          case rel => exact ⟨j + 1, tv.set j yv, by omega, by go_num, HTL2, HT2, by rw [← bv_set]; exact HS2, HP2⟩
          case measure => simp [intOf]; omega
        · have HW := Lib.hid (HW5.out.below HP)
          obtain rfl : j = T.length := by omega
          clear HOt HTL HT256 hj hjl HP HW5
          go_wp2_with fail
          refine (addW S (some ⟨w.heap.size, 0, none⟩) (some ⟨ay, 0, none⟩) p q m n cx cy _ HW.out (by simp) (by simp) HM.out HNl.out hcx hcy (by omega) (by omega) s h_s).mono ?_
          rintro e w31 ⟨A11, c11, rfl, hc11, HN⟩
          have HW := Lib.hid HN
          clear HN
          go_wp2_with fail
          refine (refAddW A B p q m n c d _ HW.out (by simp) (by simp) HM.out HNl.out (by omega) (by omega) s h_s).mono ?_
          rintro e w32 ⟨A12, c12, rfl, hc12, HN⟩
          have HW := Lib.hid HN
          clear HN
          go_wp2_with fail
          refine (sameW A11 A12 s s s.length s.length c11 c12 _ HW.out (by simp) (by simp) rfl rfl true (by simp)).mono ?_
          rintro e w33 ⟨rfl, rfl⟩
          go_wp2_with fail
          refine (mulW S (some ⟨w.heap.size, 0, none⟩) (some ⟨ay, 0, none⟩) p q m n cx cy _ HW.out (by simp) (by simp) HM.out HNl.out hcx hcy (by omega) (by omega) t h_t).mono ?_
          rintro e w34 ⟨A13, c13, rfl, hc13, HN⟩
          have HW := Lib.hid HN
          clear HN
          go_wp2_with fail
          refine (refMulW A B p q m n c d _ HW.out (by simp) (by simp) HM.out HNl.out (by omega) (by omega) t h_t).mono ?_
          rintro e w35 ⟨A14, c14, rfl, hc14, HN⟩
          have HW := Lib.hid HN
          clear HN
          go_wp2_with fail
          refine (sameW A13 A14 t t t.length t.length c13 c14 _ HW.out (by simp) (by simp) rfl rfl true (by simp)).mono ?_
          rintro e w36 ⟨rfl, rfl⟩
          go_wp2_with fail
          refine (sameW (some ⟨w.heap.size, 0, none⟩) A p p m m cx c _ HW.out (by simp) (by simp) HM.out HM.out true (by simp)).mono ?_
          rintro e w37 ⟨rfl, rfl⟩
          go_wp2_with fail
          refine (sameW (some ⟨ay, 0, none⟩) B q q n n cy d _ HW.out (by simp) (by simp) HNl.out HNl.out true (by simp)).mono ?_
          rintro e w38 ⟨rfl, rfl⟩
          clear h_s h_t
          go_wp2_with (go_at_call 12; (with_reducible refine (works_calls S _).mono ?_); rintro e wz ⟨rfl, HZ⟩)
          go_ret
          exact ⟨rfl, HBel.trans (((HW.out.below HZ).bel).mono HBel.size)⟩
  · have HY : Bytes _ (some ⟨w.heap.size, 0, none⟩) (bs q) := (bw_bytes w.drew q).below (bw_below (Lib.bytesWorld w.drew 5 (str (bs q))) p)
    have HX := bw_bytes (Lib.bytesWorld w.drew 5 (str (bs q))) p
    have HBel := (((Below.refl _ w).drew).trans (bw_below w.drew q)).trans ((bw_below (Lib.bytesWorld w.drew 5 (str (bs q))) p).mono (bw_below w.drew q).size)
    have hcy := le_grown w.drew n
    have hcx := le_grown (Lib.bytesWorld w.drew 5 (str (bs q))) m
    clear c1 c2 c1' c2' kp kq
    generalize grownCap w.drew n 0 5 = cy at *
    generalize grownCap (Lib.bytesWorld w.drew 5 (str (bs q))) m 0 5 = cx at *
    generalize Lib.bytesWorld (Lib.bytesWorld w.drew 5 (str (bs q))) 5 (str (bs p)) = wc at *
    generalize (Lib.bytesWorld w.drew 5 (str (bs q))).heap.size = ax at *
    refine (newS _ (St.refl wc)).mono ?_
    rintro e w1 ⟨rfl, HN⟩
    have HW := Lib.hid (((((W.start HN).arg (HB.out.below HBel)).arg (HB2.out.below HBel)).arg HX).arg HY)
    clear HN HX HY
    by_cases hz : len q = 0
    · have htz : Hid (trim q = []) := Lib.hid (by unfold len at hz; exact List.eq_nil_of_length_eq_zero hz)
      clear hz
      go_wp2_with fail
      refine (divW_zero S (some ⟨ax, 0, none⟩) (some ⟨w.heap.size, 0, none⟩) p q m n cx cy _ HW.out (by simp) (by simp) HM.out HNl.out hcx hcy (by omega) (by omega) htz.out).mono ?_
      rintro e w2 ⟨A1, c1, A2, c2, rfl, hc1, hc2, HN⟩
      have HW := Lib.hid HN
      clear HN
      go_wp2_with fail
      refine (refDivW_zero A B q m n c d _ HW.out (by simp) HNl.out hd (by omega) htz.out).mono ?_
      rintro e w3 ⟨A3, c3, A4, c4, rfl, hc3, hc4, HN⟩
      have HW := Lib.hid HN
      clear HN htz
      have HW5 := Lib.hid (HW.out.sub (ls' := [((some ⟨w.heap.size, 0, none⟩), q), ((some ⟨ax, 0, none⟩), p), (B, q), (A, p)]) (by simp))
      go_wp2_with fail
      refine (S.trimP (some ⟨ax, 0, none⟩) p m cx _ HM.out (HW5.out.bytes (A := (some ⟨ax, 0, none⟩)) (p := p) (by simp)) hcx (by omega)).mono ?_
      rintro e w6 ⟨At, ct, rfl, hct, hOt, hBt⟩
      rw [HTT.out] at hOt hct ⊢
      have HOt := Lib.hid hOt
      have HP := hBt
      have HW := Lib.hid (HW.out.below hBt)
      clear hOt hBt
      go_wp2_with fail
      refine (sameW A1 A3 ([] : List F8) ([] : List F8) 0 0 c1 c3 _ HW.out (by simp) (by simp) rfl rfl true (by simp)).mono ?_
      rintro e w7 ⟨rfl, rfl⟩
      go_wp2_with fail
      refine (sameW A2 A4 ([] : List F8) ([] : List F8) 0 0 c2 c4 _ HW.out (by simp) (by simp) rfl rfl true (by simp)).mono ?_
      rintro e w7 ⟨rfl, rfl⟩
      clear HW
      go_wp2_with fail
      refine (refTrim_len A p m c _ HM.out ((HW5.out.bytes (A := A) (p := p) (by simp)).below HP) hc (by omega)).mono ?_
      rintro e w7 ⟨A7, cA7, rfl, hcA7, hOr, hBr⟩
      rw [HTT.out] at hOr hcA7 ⊢
      replace HOt := Lib.hid (HOt.out.below hBr)
      replace HP := HP.trans (hBr.mono HP.size)
      have HRA7 := Lib.hid (Own.bytes hOr)
      clear hOr hBr
      go_wp2_with fail
      refine (same_calls At A7 T T T.length T.length ct cA7 _ rfl rfl (Own.bytes HOt.out) HRA7.out).mono ?_
      rw [show decide (T = T) = true by simp]
      rintro e w8 ⟨rfl, rfl⟩
      go_wp2_with fail
      refine (S.degreeP (some ⟨ax, 0, none⟩) p m cx _ HM.out ((HW5.out.bytes (A := (some ⟨ax, 0, none⟩)) (p := p) (by simp)).below HP) hcx (by omega)).mono ?_
      rintro e w8 ⟨rfl, hB8⟩
      rw [HTd.out]
      replace HOt := Lib.hid (HOt.out.below hB8)
      replace HP := HP.trans (hB8.mono HP.size)
      clear hB8
      go_wp2_with fail
      refine (refTrim_len A p m c _ HM.out ((HW5.out.bytes (A := A) (p := p) (by simp)).below HP) hc (by omega)).mono ?_
      rintro e w9 ⟨A8, cA8, rfl, hcA8, hOr, hBr⟩
      rw [HTT.out] at hOr hcA8 ⊢
      replace HOt := Lib.hid (HOt.out.below hBr)
      replace HP := HP.trans (hBr.mono HP.size)
      have HRA8 := Lib.hid (Own.bytes hOr)
      clear hOr hBr
      go_wp2
      go_loopw [15] (fun i wr => ∃ j : Nat, ∃ tv : List Nat, j ≤ T.length ∧ i = .int .i64 j ∧ Hid (tv.length = T.length) ∧ Hid (∀ x ∈ tv, x < 256) ∧ Hid (Own wr w3.heap.size 5 (.slice At T.length ct) (bv tv)) ∧ Below w3.heap.size w3 wr) (fun i _ => T.length - (intOf i).toNat)
      case atStart => exact ⟨0, bs T, by omega, rfl, Lib.hid (bs_length T), Lib.hid (bs_lt T), HOt, HP⟩
      case round =>
        clear HOt HP HRA7 HRA8
        obtain ⟨j, tv, hj, rfl, HTL, HT256, HOt, HP⟩ := hrel
        by_cases hjl : j < T.length
        · have hjt : j < (bv tv).length := by rw [bv_length, HTL.out]; exact hjl
          obtain ⟨gt, ct2, e1, hgt, hgt2, hct2⟩ := HOt.out.form1 (by omega)
          simp only [Value.slice.injEq] at e1
          obtain ⟨rfl, _, rfl⟩ := e1
          have hcell := HOt.out.cellAt (by rw [bv_length, HTL.out]) j hjt
          have hfr := HOt.out.frozenAt (by rw [bv_length, HTL.out]) j
          rw [bv_get] at hcell
          obtain ⟨xv, hxv⟩ : ∃ xv, tv[j]'(by rwa [bv_length] at hjt) = xv := ⟨_, rfl⟩
          have hx256 : xv < 256 := by rw [← hxv]; exact HT256.out _ (List.getElem_mem _)
          rw [hxv] at hcell
          obtain ⟨yv, hyv, hyv2⟩ : ∃ yv : Nat, (xv + 1) % 256 = yv ∧ ((xv : Int) + 1) % 256 = (yv : Int) := ⟨(xv + 1) % 256, rfl, by omega⟩
          have hy256 : yv < 256 := by omega
          have HS2 := Lib.hid (HOt.out.set_ (by rw [bv_length, HTL.out]) j (.int .u8 (yv : Int)))
          have HP2 := HP.setCell (p := ⟨gt, j, none⟩) hgt (.int .u8 (yv : Int))
          have HTL2 : Hid ((tv.set j yv).length = T.length) := Lib.hid (by rw [List.length_set]; exact HTL.out)
          have HT2 := Lib.hid (set_lt HT256.out (k := j) hy256)
          have hjI : (j : Int) < (T.length : Int) := by omega
          clear hxv hyv hjt HOt HTL HT256 HP
          go_wp2
          go_roundw
          case rel => exact ⟨j + 1, tv.set j yv, by omega, by go_num, HTL2, HT2, by rw [← bv_set]; exact HS2, HP2⟩
          case measure => simp [intOf]; omega
        · have HW := Lib.hid (HW5.out.below HP)
          obtain rfl : j = T.length := by omega
          clear HOt HTL HT256 hj hjl HP HW5
          go_wp2_with fail
          refine (addW S (some ⟨ax, 0, none⟩) (some ⟨w.heap.size, 0, none⟩) p q m n cx cy _ HW.out (by simp) (by simp) HM.out HNl.out hcx hcy (by omega) (by omega) s h_s).mono ?_
          rintro e w31 ⟨A11, c11, rfl, hc11, HN⟩
          have HW := Lib.hid HN
          clear HN
          go_wp2_with fail
          refine (refAddW A B p q m n c d _ HW.out (by simp) (by simp) HM.out HNl.out (by omega) (by omega) s h_s).mono ?_
          rintro e w32 ⟨A12, c12, rfl, hc12, HN⟩
          have HW := Lib.hid HN
          clear HN
          go_wp2_with fail
          refine (sameW A11 A12 s s s.length s.length c11 c12 _ HW.out (by simp) (by simp) rfl rfl true (by simp)).mono ?_
          rintro e w33 ⟨rfl, rfl⟩
          go_wp2_with fail
          refine (mulW S (some ⟨ax, 0, none⟩) (some ⟨w.heap.size, 0, none⟩) p q m n cx cy _ HW.out (by simp) (by simp) HM.out HNl.out hcx hcy (by omega) (by omega) t h_t).mono ?_
          rintro e w34 ⟨A13, c13, rfl, hc13, HN⟩
          have HW := Lib.hid HN
          clear HN
          go_wp2_with fail
          refine (refMulW A B p q m n c d _ HW.out (by simp) (by simp) HM.out HNl.out (by omega) (by omega) t h_t).mono ?_
          rintro e w35 ⟨A14, c14, rfl, hc14, HN⟩
          have HW := Lib.hid HN
          clear HN
          go_wp2_with fail
          refine (sameW A13 A14 t t t.length t.length c13 c14 _ HW.out (by simp) (by simp) rfl rfl true (by simp)).mono ?_
          rintro e w36 ⟨rfl, rfl⟩
          go_wp2_with fail
          refine (sameW (some ⟨ax, 0, none⟩) A p p m m cx c _ HW.out (by simp) (by simp) HM.out HM.out true (by simp)).mono ?_
          rintro e w37 ⟨rfl, rfl⟩
          go_wp2_with fail
          refine (sameW (some ⟨w.heap.size, 0, none⟩) B q q n n cy d _ HW.out (by simp) (by simp) HNl.out HNl.out true (by simp)).mono ?_
          rintro e w38 ⟨rfl, rfl⟩
          clear h_s h_t
          go_wp2_with (go_at_call 12; (with_reducible refine (works_calls S _).mono ?_); rintro e wz ⟨rfl, HZ⟩)
          go_ret
          exact ⟨rfl, HBel.trans (((HW.out.below HZ).bel).mono HBel.size)⟩
    · have hlq : Hid (0 < len q) := Lib.hid (by omega)
      clear hz
      go_wp2_with fail
      refine (divW S (some ⟨ax, 0, none⟩) (some ⟨w.heap.size, 0, none⟩) p q m n cx cy _ HW.out (by simp) (by simp) HM.out HNl.out hcx hcy (by omega) (by omega) hlq.out).mono ?_
      rintro e w2 ⟨u, v, hu, A1, c1, A2, c2, rfl, hc1, hc2, HN⟩
      have HW := Lib.hid HN
      have HU := Lib.hid hu
      clear HN hu
      go_wp2_with fail
      refine (refDivW A B p q m n c d _ HW.out (by simp) (by simp) HM.out HNl.out hc hd (by omega) (by omega) hlq.out u v HU.out).mono ?_
      rintro e w3 ⟨A3, c3, A4, c4, rfl, hc3, hc4, HN⟩
      have HW := Lib.hid HN
      clear HN hlq HU
      have HW5 := Lib.hid (HW.out.sub (ls' := [((some ⟨w.heap.size, 0, none⟩), q), ((some ⟨ax, 0, none⟩), p), (B, q), (A, p)]) (by simp))
      go_wp2_with fail
      refine (S.trimP (some ⟨ax, 0, none⟩) p m cx _ HM.out (HW5.out.bytes (A := (some ⟨ax, 0, none⟩)) (p := p) (by simp)) hcx (by omega)).mono ?_
      rintro e w6 ⟨At, ct, rfl, hct, hOt, hBt⟩
      rw [HTT.out] at hOt hct ⊢
      have HOt := Lib.hid hOt
      have HP := hBt
      have HW := Lib.hid (HW.out.below hBt)
      clear hOt hBt
      go_wp2_with fail
      refine (sameW A1 A3 u u u.length u.length c1 c3 _ HW.out (by simp) (by simp) rfl rfl true (by simp)).mono ?_
      rintro e w7 ⟨rfl, rfl⟩
      go_wp2_with fail
      refine (sameW A2 A4 v v v.length v.length c2 c4 _ HW.out (by simp) (by simp) rfl rfl true (by simp)).mono ?_
      rintro e w7 ⟨rfl, rfl⟩
      clear HW
      go_wp2_with fail
      refine (refTrim_len A p m c _ HM.out ((HW5.out.bytes (A := A) (p := p) (by simp)).below HP) hc (by omega)).mono ?_
      rintro e w7 ⟨A7, cA7, rfl, hcA7, hOr, hBr⟩
      rw [HTT.out] at hOr hcA7 ⊢
      replace HOt := Lib.hid (HOt.out.below hBr)
      replace HP := HP.trans (hBr.mono HP.size)
      have HRA7 := Lib.hid (Own.bytes hOr)
      clear hOr hBr
      go_wp2_with fail
      refine (same_calls At A7 T T T.length T.length ct cA7 _ rfl rfl (Own.bytes HOt.out) HRA7.out).mono ?_
      rw [show decide (T = T) = true by simp]
      rintro e w8 ⟨rfl, rfl⟩
      go_wp2_with fail
      refine (S.degreeP (some ⟨ax, 0, none⟩) p m cx _ HM.out ((HW5.out.bytes (A := (some ⟨ax, 0, none⟩)) (p := p) (by simp)).below HP) hcx (by omega)).mono ?_
      rintro e w8 ⟨rfl, hB8⟩
      rw [HTd.out]
      replace HOt := Lib.hid (HOt.out.below hB8)
      replace HP := HP.trans (hB8.mono HP.size)
      clear hB8
      go_wp2_with fail
      refine (refTrim_len A p m c _ HM.out ((HW5.out.bytes (A := A) (p := p) (by simp)).below HP) hc (by omega)).mono ?_
      rintro e w9 ⟨A8, cA8, rfl, hcA8, hOr, hBr⟩
      rw [HTT.out] at hOr hcA8 ⊢
      replace HOt := Lib.hid (HOt.out.below hBr)
      replace HP := HP.trans (hBr.mono HP.size)
      have HRA8 := Lib.hid (Own.bytes hOr)
      clear hOr hBr
      go_wp2
      go_loopw [15] (fun i wr => ∃ j : Nat, ∃ tv : List Nat, j ≤ T.length ∧ i = .int .i64 j ∧ Hid (tv.length = T.length) ∧ Hid (∀ x ∈ tv, x < 256) ∧ Hid (Own wr w3.heap.size 5 (.slice At T.length ct) (bv tv)) ∧ Below w3.heap.size w3 wr) (fun i _ => T.length - (intOf i).toNat)
      case atStart => exact ⟨0, bs T, by omega, rfl, Lib.hid (bs_length T), Lib.hid (bs_lt T), HOt, HP⟩
      case round =>
        clear HOt HP HRA7 HRA8
        obtain ⟨j, tv, hj, rfl, HTL, HT256, HOt, HP⟩ := hrel
        by_cases hjl : j < T.length
        · have hjt : j < (bv tv).length := by rw [bv_length, HTL.out]; exact hjl
          obtain ⟨gt, ct2, e1, hgt, hgt2, hct2⟩ := HOt.out.form1 (by omega)
          simp only [Value.slice.injEq] at e1
          obtain ⟨rfl, _, rfl⟩ := e1
          have hcell := HOt.out.cellAt (by rw [bv_length, HTL.out]) j hjt
          have hfr := HOt.out.frozenAt (by rw [bv_length, HTL.out]) j
          rw [bv_get] at hcell
          obtain ⟨xv, hxv⟩ : ∃ xv, tv[j]'(by rwa [bv_length] at hjt) = xv := ⟨_, rfl⟩
          have hx256 : xv < 256 := by rw [← hxv]; exact HT256.out _ (List.getElem_mem _)
          rw [hxv] at hcell
          obtain ⟨yv, hyv, hyv2⟩ : ∃ yv : Nat, (xv + 1) % 256 = yv ∧ ((xv : Int) + 1) % 256 = (yv : Int) := ⟨(xv + 1) % 256, rfl, by omega⟩
          have hy256 : yv < 256 := by omega
          have HS2 := Lib.hid (HOt.out.set_ (by rw [bv_length, HTL.out]) j (.int .u8 (yv : Int)))
          have HP2 := HP.setCell (p := ⟨gt, j, none⟩) hgt (.int .u8 (yv : Int))
          have HTL2 : Hid ((tv.set j yv).length = T.length) := Lib.hid (by rw [List.length_set]; exact HTL.out)
          have HT2 := Lib.hid (set_lt HT256.out (k := j) hy256)
          have hjI : (j : Int) < (T.length : Int) := by omega
          clear hxv hyv hjt HOt HTL HT256 HP
          go_wp2
          go_roundw
          case rel => exact ⟨j + 1, tv.set j yv, by omega, by go_num, HTL2, HT2, by rw [← bv_set]; exact HS2, HP2⟩
          case measure => simp [intOf]; omega
        · have HW := Lib.hid (HW5.out.below HP)
          obtain rfl : j = T.length := by omega
          clear HOt HTL HT256 hj hjl HP HW5
          go_wp2_with fail
          refine (addW S (some ⟨ax, 0, none⟩) (some ⟨w.heap.size, 0, none⟩) p q m n cx cy _ HW.out (by simp) (by simp) HM.out HNl.out hcx hcy (by omega) (by omega) s h_s).mono ?_
          rintro e w31 ⟨A11, c11, rfl, hc11, HN⟩
          have HW := Lib.hid HN
          clear HN
          go_wp2_with fail
          refine (refAddW A B p q m n c d _ HW.out (by simp) (by simp) HM.out HNl.out (by omega) (by omega) s h_s).mono ?_
          rintro e w32 ⟨A12, c12, rfl, hc12, HN⟩
          have HW := Lib.hid HN
          clear HN
          go_wp2_with fail
          refine (sameW A11 A12 s s s.length s.length c11 c12 _ HW.out (by simp) (by simp) rfl rfl true (by simp)).mono ?_
          rintro e w33 ⟨rfl, rfl⟩
          go_wp2_with fail
          refine (mulW S (some ⟨ax, 0, none⟩) (some ⟨w.heap.size, 0, none⟩) p q m n cx cy _ HW.out (by simp) (by simp) HM.out HNl.out hcx hcy (by omega) (by omega) t h_t).mono ?_
          rintro e w34 ⟨A13, c13, rfl, hc13, HN⟩
          have HW := Lib.hid HN
          clear HN
          go_wp2_with fail
          refine (refMulW A B p q m n c d _ HW.out (by simp) (by simp) HM.out HNl.out (by omega) (by omega) t h_t).mono ?_
          rintro e w35 ⟨A14, c14, rfl, hc14, HN⟩
          have HW := Lib.hid HN
          clear HN
          go_wp2_with fail
          refine (sameW A13 A14 t t t.length t.length c13 c14 _ HW.out (by simp) (by simp) rfl rfl true (by simp)).mono ?_
          rintro e w36 ⟨rfl, rfl⟩
          go_wp2_with fail
          refine (sameW (some ⟨ax, 0, none⟩) A p p m m cx c _ HW.out (by simp) (by simp) HM.out HM.out true (by simp)).mono ?_
          rintro e w37 ⟨rfl, rfl⟩
          go_wp2_with fail
          refine (sameW (some ⟨w.heap.size, 0, none⟩) B q q n n cy d _ HW.out (by simp) (by simp) HNl.out HNl.out true (by simp)).mono ?_
          rintro e w38 ⟨rfl, rfl⟩
          clear h_s h_t
          go_wp2_with (go_at_call 12; (with_reducible refine (works_calls S _).mono ?_); rintro e wz ⟨rfl, HZ⟩)
          go_ret
          exact ⟨rfl, HBel.trans (((HW.out.below HZ).bel).mono HBel.size)⟩
theorem walk (S : Poly.Spec) (w : World) (A0 : Option Addr) (l0 : List Nat) (c0 : Nat) (hb0 : Bytes w A0 l0) (hc0 : l0.length ≤ c0) (hm0 : c0 ≤ 9223372036854775807) (A1 : Option Addr) (l1 : List Nat) (c1 : Nat) (hb1 : Bytes w A1 l1) (hc1 : l1.length ≤ c1) (hm1 : c1 ≤ 9223372036854775807) :
    Calls Try.prog 3 #[.slice A0 l0.length c0, .slice A1 l1.length c1] w fun e w' => e = .returned (.bool true) ∧ Below w.heap.size w w' := by
  obtain ⟨p0, rfl⟩ := of_bytes l0 hb0.lt
  obtain ⟨p1, rfl⟩ := of_bytes l1 hb1.lt
  exact core S w A0 p0 _ c0 A1 p1 _ c1 (bs_length p0).symm hb0 hc0 (by omega) (bs_length p1).symm hb1 hc1 (by omega)
end Go.Proofs.Ytkchofhdhkgbnaa.polyTwo
