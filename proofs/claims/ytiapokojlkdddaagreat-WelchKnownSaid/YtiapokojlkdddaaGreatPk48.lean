/- Of the program and its document, joined: WelchFarWalk, WelchDecodeWalk. -/
import Derived.Test.YtiapokojlkdddaaGreatPk22
import Derived.Test.YtiapokojlkdddaaGreatPk21
import Derived.Test.YtiapokojlkdddaaGreatPk47
/- The walk of WelchFar. -/
namespace Go.Proofs.YtiapokojlkdddaaGreat.welchFar
open Go.RowKit F8 GF Poly Rd Wl

set_option maxRecDepth 100000 in
set_option maxHeartbeats 4000000 in
theorem core (T : Wl.Spec) (w : World) (A : Option Addr) (p : List F8) (m c : Nat) (B : Option Addr) (q : List F8) (n d : Nat) (C : Option Addr) (r : List F8) (o b : Nat) (hm : p.length = m) (hbp : Bytes w A (bs p)) (hc : m ≤ c) (hn : q.length = n) (hbq : Bytes w B (bs q)) (hd : n ≤ d) (ho : r.length = o) (hbr : Bytes w C (bs r)) (hb : o ≤ b) (hm9 : m ≤ 9223372036854775807) (hn9 : n ≤ 9223372036854775807) (ho9 : o ≤ 9223372036854775807) :
    Calls Tryz.prog 18 #[.slice A m c, .slice B n d, .slice C o b] w fun e w' => e = .returned (.bool true) ∧ Below w.heap.size w w' := by
  by_cases g0 : 200 < m
  · go_enter Tryz.func18, Tryz.ntmps18
    go_wp2_with (go_at_call 19; (with_reducible refine (works_calls T _).mono ?_); rintro e w1 ⟨rfl, HN⟩)
    go_ret
    exact ⟨rfl, HN⟩
  have k0 : m ≤ 200 := by omega
  clear g0
  by_cases g1 : 200 < n
  · go_enter Tryz.func18, Tryz.ntmps18
    go_wp2_with (go_at_call 19; (with_reducible refine (works_calls T _).mono ?_); rintro e w1 ⟨rfl, HN⟩)
    go_ret
    exact ⟨rfl, HN⟩
  have k1 : n ≤ 200 := by omega
  clear g1
  by_cases g2 : 200 < o
  · go_enter Tryz.func18, Tryz.ntmps18
    go_wp2_with (go_at_call 19; (with_reducible refine (works_calls T _).mono ?_); rintro e w1 ⟨rfl, HN⟩)
    go_ret
    exact ⟨rfl, HN⟩
  have k2 : o ≤ 200 := by omega
  clear g2
  obtain ⟨x, hx⟩ : ∃ x, far p q = x := ⟨_, rfl⟩
  obtain ⟨y, hy⟩ : ∃ y, far p r = y := ⟨_, rfl⟩
  obtain ⟨z, hz⟩ : ∃ z, far r q = z := ⟨_, rfl⟩
  have hx2 : far q p = x := by rw [far_comm, hx]
  have htri : x ≤ y + z := by rw [← hx, ← hy, ← hz]; exact far_tri p q r
  have hzero : decide (p = q) = decide (x = 0) := by rw [decide_eq_decide, ← hx, far_zero]
  have lx := far_le p q
  have ly := far_le p r
  have lz := far_le r q
  rw [hx, hm, hn] at lx
  rw [hy, hm, ho] at ly
  rw [hz, ho, hn] at lz
  have hx3 : x ≤ 200 := by omega
  have hy3 : y ≤ 200 := by omega
  have hz3 : z ≤ 200 := by omega
  have KF1 := Lib.hid (fun v hv => T.farP A p m c B q n d v hm (hbp.below hv) hc (by omega) hn (hbq.below hv) hd (by omega))
  have KF2 := Lib.hid (fun v hv => refFar_calls A p m c B q n d v hm (hbp.below hv) (by omega) hn (hbq.below hv) (by omega))
  have KF3 := Lib.hid (fun v hv => T.farP B q n d A p m c v hn (hbq.below hv) hd (by omega) hm (hbp.below hv) hc (by omega))
  have KF4 := Lib.hid (fun v hv => T.farP A p m c C r o b v hm (hbp.below hv) hc (by omega) ho (hbr.below hv) hb (by omega))
  have KF5 := Lib.hid (fun v hv => T.farP C r o b B q n d v ho (hbr.below hv) hb (by omega) hn (hbq.below hv) hd (by omega))
  have KS := Lib.hid (fun v hv => same_calls A B p q m n c d v hm hn (hbp.below hv) (hbq.below hv))
  rw [hx] at KF1 KF2
  rw [hx2] at KF3
  rw [hy] at KF4
  rw [hz] at KF5
  rw [hzero] at KS
  have hxx : ((x : Int) == (x : Int)) = true := by simp
  have htri2 : (x : Int) ≤ (y : Int) + (z : Int) := by omega
  clear hbp hbq hbr hx hy hz hx2 hzero lx ly lz hm hn ho hc hd hb
  go_enter Tryz.func18, Tryz.ntmps18
  go_wp2_with fail
  refine (KF1.out _ (Below.refl _ _)).mono ?_
  rintro e w1 ⟨rfl, hB⟩
  have HB := Lib.hid hB
  clear hB
  go_wp2_with fail
  refine (KF2.out _ HB.out).mono ?_
  rintro e w2 ⟨rfl, hB⟩
  replace HB := Lib.hid (HB.out.trans (hB.mono HB.out.size))
  clear hB
  go_wp2_with fail
  refine (KF3.out _ HB.out).mono ?_
  rintro e w3 ⟨rfl, hB⟩
  replace HB := Lib.hid (HB.out.trans (hB.mono HB.out.size))
  clear hB
  by_cases hx0 : x = 0
  all_goals
    first | (have hb0 : ((x : Int) == 0) = true := by simp [hx0]) | (have hb0 : ((x : Int) == 0) = false := by simp; omega)
    first | (have hd0 : decide (x = 0) = true := by simp [hx0]) | (have hd0 : decide (x = 0) = false := by simp [hx0])
    rw [hd0] at KS
    clear hx0 hd0
    go_wp2_with fail
    refine (KS.out _ HB.out).mono ?_
    rintro e w4 ⟨rfl, rfl⟩
    go_wp2_with fail
    refine (KF4.out _ HB.out).mono ?_
    rintro e w4 ⟨rfl, hB⟩
    replace HB := Lib.hid (HB.out.trans (hB.mono HB.out.size))
    clear hB
    go_wp2_with fail
    refine (KF5.out _ HB.out).mono ?_
    rintro e w5 ⟨rfl, hB⟩
    replace HB := Lib.hid (HB.out.trans (hB.mono HB.out.size))
    clear hB
    go_wp2_with (go_at_call 19; (with_reducible refine (works_calls T _).mono ?_); rintro e w6 ⟨rfl, HN⟩)
    go_ret
    exact ⟨rfl, HB.out.trans (HN.mono HB.out.size)⟩
theorem walk (T : Wl.Spec) (w : World) (A0 : Option Addr) (l0 : List Nat) (c0 : Nat) (hb0 : Bytes w A0 l0) (hc0 : l0.length ≤ c0) (hm0 : c0 ≤ 9223372036854775807) (A1 : Option Addr) (l1 : List Nat) (c1 : Nat) (hb1 : Bytes w A1 l1) (hc1 : l1.length ≤ c1) (hm1 : c1 ≤ 9223372036854775807) (A2 : Option Addr) (l2 : List Nat) (c2 : Nat) (hb2 : Bytes w A2 l2) (hc2 : l2.length ≤ c2) (hm2 : c2 ≤ 9223372036854775807) :
    Calls Tryz.prog 18 #[.slice A0 l0.length c0, .slice A1 l1.length c1, .slice A2 l2.length c2] w fun e w' => e = .returned (.bool true) ∧ Below w.heap.size w w' := by
  obtain ⟨p0, rfl⟩ := of_bytes l0 hb0.lt
  obtain ⟨p1, rfl⟩ := of_bytes l1 hb1.lt
  obtain ⟨p2, rfl⟩ := of_bytes l2 hb2.lt
  exact core T w A0 p0 _ c0 A1 p1 _ c1 A2 p2 _ c2 (bs_length p0).symm hb0 hc0 (bs_length p1).symm hb1 hc1 (bs_length p2).symm hb2 hc2 (by omega) (by omega) (by omega)
end Go.Proofs.YtiapokojlkdddaaGreat.welchFar

/- The walk of WelchDecode. -/
namespace Go.Proofs.YtiapokojlkdddaaGreat.welchDecode
open Go.RowKit F8 GF Poly Rd Wl

set_option maxRecDepth 100000 in
set_option maxHeartbeats 4000000 in
theorem core (T : Wl.Spec) (w : World) (A : Option Addr) (p : List F8) (m c : Nat) (kz : Int) (P : Option Addr) (pl : List Int) (u v : Nat) (B : Option Addr) (q : List F8) (n d : Nat) (t : Int) (hm : p.length = m) (hbp : Bytes w A (bs p)) (hc : m ≤ c) (hu : pl.length = u) (hrp : Row w P (zs pl)) (hn : q.length = n) (hbq : Bytes w B (bs q)) (hd : n ≤ d) (hm9 : m ≤ 9223372036854775807) (hn9 : n ≤ 9223372036854775807) (ht : -9223372036854775808 ≤ t) (ht2 : t < 9223372036854775808) :
    Calls Tryz.prog 17 #[.slice A m c, .int .i64 kz, .slice P u v, .slice B n d, .int .i64 t] w fun e w' => e = .returned (.bool true) ∧ Below w.heap.size w w' := by
  by_cases g0 : 9 < m
  · go_enter Tryz.func17, Tryz.ntmps17
    go_wp2_with (go_at_call 19; (with_reducible refine (works_calls T _).mono ?_); rintro e w1 ⟨rfl, HN⟩)
    go_ret
    exact ⟨rfl, HN⟩
  have k0 : m ≤ 9 := by omega
  clear g0
  by_cases g1 : 9 < u
  · go_enter Tryz.func17, Tryz.ntmps17
    go_wp2_with (go_at_call 19; (with_reducible refine (works_calls T _).mono ?_); rintro e w1 ⟨rfl, HN⟩)
    go_ret
    exact ⟨rfl, HN⟩
  have k1 : u ≤ 9 := by omega
  clear g1
  by_cases g2 : 9 < n
  · go_enter Tryz.func17, Tryz.ntmps17
    go_wp2_with (go_at_call 19; (with_reducible refine (works_calls T _).mono ?_); rintro e w1 ⟨rfl, HN⟩)
    go_ret
    exact ⟨rfl, HN⟩
  have k2 : n ≤ 9 := by omega
  clear g2
  have HB := Lib.hid hbp
  have HB2 := Lib.hid hbq
  have HRow := Lib.hid hrp
  have HM := Lib.hid hm
  have HU := Lib.hid hu
  have HNl := Lib.hid hn
  have HS := St.refl w
  clear hbp hbq hm hn hu hrp
  go_enter Tryz.func17, Tryz.ntmps17
  go_wp2_with fail
  refine (newS _ HS).mono ?_
  rintro e w1 ⟨rfl, HN⟩
  have HW := Lib.hid ((((W.start HN).arg HB.out)).arg HB2.out)
  clear HS HN
  go_wp2_with fail
  refine (newW HW.out A p m c kz (by simp) HM.out hc (by omega)).mono ?_
  rintro e w2 (⟨-, b, A2, c2, k, hk, rfl, -, -, HN⟩ | ⟨-, rfl, HN⟩)
  rotate_left
  · have HR := Lib.hid HN
    clear HN HW
    go_wp2_with (go_at_call 19; (with_reducible refine (works_calls T _).mono ?_); rintro e wz ⟨rfl, HZ⟩)
    go_ret
    exact ⟨rfl, (HR.out.below HZ).bel⟩
  have hkn : k ≤ m := HN.cd.kn
  have hk1 : 1 ≤ k := HN.cd.k1
  have hy1 := conv_f (HN.kw.bytes (A := B) (p := q) (by simp)) n d HNl.out
  have hy2 := conv_b q n HNl.out w2
  have hcy := le_grown w2 n
  have H3 := HN.conv q
  clear HN HW
  subst hk
  go_wp2_with fail
  clear hy1 hy2
  generalize grownCap w2 n 0 5 = cy at *
  generalize Lib.bytesWorld w2 5 (str (bs q)) = w3 at *
  refine (wdecodeW T H3 P pl u v HU.out (HRow.out.below H3.kw.bel) (by omega) _ q n cy (by simp) HNl.out hcy (by omega) t ht ht2).mono ?_
  rintro e w4 ⟨r, wl, z, hD, A4, c4, B4, d4, rfl, hc4, hd4, hO4, HN, -⟩
  have HR := Lib.hid HN
  have HD := Lib.hid hD
  have hlen := hD.len
  have hrl : r.length ≤ 9 := by omega
  have hwl : wl.length ≤ 9 := by have := HU.out; omega
  have hcode := hD.code
  have hyy : ((z : Int) == z) = true := by simp
  have HOw := Lib.hid hO4
  have hgO : w.heap.size < w3.heap.size := H3.kw.glt
  clear HN H3 hD hO4 hlen
  go_wp2_with fail
  refine (refWDecodeW HR.out A p m c P pl u v B q n d (by simp) (by simp) HM.out (by omega) HR.out.cd.nd (by omega) hk1 HU.out (HRow.out.below HR.out.kw.bel) (by omega) HNl.out (by omega) t r wl z HD.out).mono ?_
  rintro e w5 ⟨A5, c5, B5, d5, rfl, hc5, hd5, hO5, HN, hB5⟩
  replace HR := Lib.hid HN
  replace HOw := Lib.hid (HOw.out.below hB5)
  have HOv := Lib.hid hO5
  clear HN hO5 hB5
  go_wp2_with fail
  refine (sameW A4 A5 r r r.length r.length c4 c5 _ HR.out.kw (by simp) (by simp) rfl rfl true (by simp)).mono ?_
  rintro e w6 ⟨rfl, rfl⟩
  go_wp2_with fail
  refine (samez_calls B4 B5 wl wl wl.length wl.length d4 d5 _ rfl rfl (by omega) (own_row HOw.out) (own_row HOv.out) true (by simp)).mono ?_
  rintro e w6 ⟨rfl, hB6⟩
  replace HR := Lib.hid (HR.out.below hB6)
  clear HOw HOv hB6
  go_wp2_with fail
  refine (sameW (some ⟨w2.heap.size, 0, none⟩) B q q n n cy d _ HR.out.kw (by simp) (by simp) HNl.out HNl.out true (by simp)).mono ?_
  rintro e w7 ⟨rfl, rfl⟩
  go_wp2_with fail
  obtain ⟨x, hx⟩ : ∃ x, wordOf p r z = x := ⟨_, rfl⟩
  have HX := Lib.hid hx
  have hxl : x.length ≤ 9 := by
    have := HM.out
    rw [← hx]
    unfold wordOf
    split
    · rw [word_length]; omega
    · simp
  refine (wwordW T HR.out P pl u v HU.out (HRow.out.below HR.out.kw.bel) (by omega) B q n d (by simp) HNl.out hd (by omega) t ht ht2 r wl z HD.out x hx).mono ?_
  rintro e w8 ⟨A8, c8, rfl, hc8, HN⟩
  replace HR := Lib.hid HN
  clear HN hx
  by_cases hz : z = 0
  · have hr := (HD.out.few hz).2.1
    have hxx : word r p = x := by rw [← HX.out, wordOf, if_pos hz]
    have HE : Hid (encR p k r = (x, 0)) := Lib.hid (by rw [← hxx]; exact if_pos hr)
    subst hz
    clear hxx hr hcode HX HD
    go_wp2_with fail
    refine (refEncodeW HR.out A p m c A5 r r.length c5 (by simp) (by simp) HM.out (by omega) rfl (by omega) x 0 HE.out).mono ?_
    rintro e w9 ⟨A9, c9, rfl, hc9, HN⟩
    replace HR := Lib.hid HN
    clear HN
    go_wp2_with fail
    refine (sameW A8 A9 x x x.length x.length c8 c9 _ HR.out.kw (by simp) (by simp) rfl rfl true (by simp)).mono ?_
    rintro e w10 ⟨rfl, rfl⟩
    go_wp2_with (go_at_call 19; (with_reducible refine (works_calls T _).mono ?_); rintro e wz ⟨rfl, HZ⟩)
    go_ret
    exact ⟨rfl, (HR.out.kw.below HZ).bel⟩
  · have hxx : x = [] := by rw [← HX.out, wordOf, if_neg hz]
    subst hxx
    have hz1 : ((z : Int) == 0) = false := by simpa using hz
    have hz2 : ((z : Int) != 0) = true := by simpa using hz
    clear hcode HX HD hz
    go_wp2_with (go_at_call 19; (with_reducible refine (works_calls T _).mono ?_); rintro e wz ⟨rfl, HZ⟩)
    go_ret
    exact ⟨rfl, (HR.out.kw.below HZ).bel⟩
theorem walk (T : Wl.Spec) (w : World) (A0 : Option Addr) (l0 : List Nat) (c0 : Nat) (hb0 : Bytes w A0 l0) (hc0 : l0.length ≤ c0) (hm0 : c0 ≤ 9223372036854775807) (n1 : Int) (_hl1 : -9223372036854775808 ≤ n1) (_hn1 : n1 < 9223372036854775808) (A2 : Option Addr) (l2 : List Int) (c2 : Nat) (hb2 : Row w A2 (Rd.zs l2)) (A3 : Option Addr) (l3 : List Nat) (c3 : Nat) (hb3 : Bytes w A3 l3) (hc3 : l3.length ≤ c3) (hm3 : c3 ≤ 9223372036854775807) (n4 : Int) (hl4 : -9223372036854775808 ≤ n4) (hn4 : n4 < 9223372036854775808) :
    Calls Tryz.prog 17 #[.slice A0 l0.length c0, .int .i64 n1, .slice A2 l2.length c2, .slice A3 l3.length c3, .int .i64 n4] w fun e w' => e = .returned (.bool true) ∧ Below w.heap.size w w' := by
  obtain ⟨p0, rfl⟩ := of_bytes l0 hb0.lt
  obtain ⟨p3, rfl⟩ := of_bytes l3 hb3.lt
  exact core T w A0 p0 _ c0 n1 A2 l2 _ c2 A3 p3 _ c3 n4 (bs_length p0).symm hb0 hc0 rfl hb2 (bs_length p3).symm hb3 hc3 (by omega) (by omega) hl4 hn4
end Go.Proofs.YtiapokojlkdddaaGreat.welchDecode
