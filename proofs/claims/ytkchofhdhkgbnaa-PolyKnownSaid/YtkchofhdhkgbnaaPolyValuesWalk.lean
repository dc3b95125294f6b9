/- The walk of PolyValues. -/
import Derived.Test.YtkchofhdhkgbnaaPolyWorks
namespace Go.Proofs.Ytkchofhdhkgbnaa.polyValues
open Go.RowKit F8 GF Poly

set_option maxRecDepth 100000 in
set_option maxHeartbeats 4000000 in
theorem core (S : Poly.Spec) (w : World) (A : Option Addr) (p : List F8) (m c : Nat) (B : Option Addr) (q : List F8) (n d : Nat) (x : F8) (hm : p.length = m) (hbp : Bytes w A (bs p)) (hc : m ≤ c) (hm9 : m ≤ 9223372036854775807) (hn : q.length = n) (hbq : Bytes w B (bs q)) (hd : n ≤ d) (hn9 : n ≤ 9223372036854775807) :
    Calls Try.prog 5 #[.slice A m c, .slice B n d, .int .u8 x.n] w fun e w' => e = .returned (.bool true) ∧ Below w.heap.size w w' := by
  by_cases g0 : 40 < m
  · go_enter Try.func5, Try.ntmps5
    go_wp2_with (go_at_call 12; (with_reducible refine (works_calls S _).mono ?_); rintro e w1 ⟨rfl, HN⟩)
    go_ret
    exact ⟨rfl, HN⟩
  have k0 : m ≤ 40 := by omega
  clear g0
  by_cases g1 : 40 < n
  · go_enter Try.func5, Try.ntmps5
    go_wp2_with (go_at_call 12; (with_reducible refine (works_calls S _).mono ?_); rintro e w1 ⟨rfl, HN⟩)
    go_ret
    exact ⟨rfl, HN⟩
  have k1 : n ≤ 40 := by omega
  clear g1
  have HB := Lib.hid hbp
  have HB2 := Lib.hid hbq
  have HS := St.refl w
  obtain ⟨s, hs⟩ : ∃ s, trim (padd p q) = s := ⟨_, rfl⟩
  obtain ⟨t, ht⟩ : ∃ t, trim (pmul p q) = t := ⟨_, rfl⟩
  have hsl : s.length ≤ 40 := by rw [← hs]; have := trim_le (padd p q); rw [padd_length] at this; omega
  have htl : t.length ≤ 80 := by rw [← ht]; have := trim_le (pmul p q); have := pmul_length_le p q; omega
  obtain ⟨u, hu⟩ : ∃ u, eval p x = u := ⟨_, rfl⟩
  obtain ⟨v, hv⟩ : ∃ v, eval q x = v := ⟨_, rfl⟩
  have hsx : eval s x = u + v := by rw [← hs, eval_trim, eval_padd, hu, hv]
  have htx : eval t x = u * v := by rw [← ht, eval_trim, eval_pmul, hu, hv]
  obtain ⟨dp, hdp⟩ : ∃ dp : Int, (len p : Int) - 1 = dp := ⟨_, rfl⟩
  obtain ⟨dq, hdq⟩ : ∃ dq : Int, (len q : Int) - 1 = dq := ⟨_, rfl⟩
  have lp := len_le p
  have lq := len_le q
  have hdp1 : -1 ≤ dp ∧ dp ≤ 40 := by omega
  have hdq1 : -1 ≤ dq ∧ dq ≤ 40 := by omega
  go_enter Try.func5, Try.ntmps5
  go_wp2_with fail
  refine (newS _ HS).mono ?_
  rintro e w1 ⟨rfl, HN⟩
  have HW := Lib.hid (((W.start HN).arg HB.out).arg HB2.out)
  clear HS HN
  go_wp2_with fail
  refine (addW S A B p q m n c d _ HW.out (by simp) (by simp) hm hn hc hd (by omega) (by omega) s hs).mono ?_
  rintro e w2 ⟨A1, c1, rfl, hc1, HN⟩
  have HW := Lib.hid HN
  clear HN
  go_wp2_with fail
  refine (mulW S A B p q m n c d _ HW.out (by simp) (by simp) hm hn hc hd (by omega) (by omega) t ht).mono ?_
  rintro e w3 ⟨A2, c2, rfl, hc2, HN⟩
  have HW := Lib.hid HN
  clear HN
  go_wp2_with fail
  refine (atW S A p m c _ HW.out (by simp) hm hc (by omega) x u hu).mono ?_
  rintro e w4 ⟨rfl, HN⟩
  have HW := Lib.hid HN
  clear HN
  go_wp2_with fail
  refine (atW S B q n d _ HW.out (by simp) hn hd (by omega) x v hv).mono ?_
  rintro e w5 ⟨rfl, HN⟩
  have HW := Lib.hid HN
  clear HN
  go_wp2_with fail
  refine (atW S A1 s s.length c1 _ HW.out (by simp) rfl hc1 (by omega) x (u + v) hsx).mono ?_
  rintro e w6 ⟨rfl, HN⟩
  have HW := Lib.hid HN
  clear HN
  go_wp2_with fail
  refine (faddW u v (u + v) rfl _).mono ?_
  rintro e w7 ⟨rfl, rfl⟩
  go_wp2_with fail
  refine (atW S A2 t t.length c2 _ HW.out (by simp) rfl hc2 (by omega) x (u * v) htx).mono ?_
  rintro e w8 ⟨rfl, HN⟩
  have HW := Lib.hid HN
  clear HN
  go_wp2_with fail
  refine (fmulW _ HW.out u v (u * v) rfl).mono ?_
  rintro e w9 ⟨rfl, HN⟩
  have HW := Lib.hid HN
  clear HN
  go_wp2_with fail
  refine (degreeW S A p m c _ HW.out (by simp) hm hc (by omega) dp hdp).mono ?_
  rintro e w10 ⟨rfl, HN⟩
  have HW := Lib.hid HN
  clear HN
  go_wp2_with fail
  refine (degreeW S B q n d _ HW.out (by simp) hn hd (by omega) dq hdq).mono ?_
  rintro e w11 ⟨rfl, HN⟩
  have HW := Lib.hid HN
  clear HN
  have HT := Lib.hid ht
  have HP := Lib.hid hdp
  have HQ := Lib.hid hdq
  clear hs ht hu hv hsx htx hdp hdq
  by_cases hz : dp < 0
  · have htz : t = [] := by
      rw [← HT.out, trim_nil_iff]
      exact pmul_zero_left q (len_zero.1 (by have := HP.out; omega))
    subst htz
    go_wp2_with (go_at_call 12; (with_reducible refine (works_calls S _).mono ?_); rintro e wz ⟨rfl, HZ⟩)
    go_ret
    exact ⟨rfl, (HW.out.below HZ).bel⟩
  have hz1 : 0 ≤ dp := by omega
  by_cases hy : dq < 0
  · have htz : t = [] := by
      rw [← HT.out, trim_nil_iff]
      exact (pmul_congr_right p (len_zero.1 (by have := HQ.out; omega))).trans (pmul_nil p)
    subst htz
    go_wp2_with (go_at_call 12; (with_reducible refine (works_calls S _).mono ?_); rintro e wz ⟨rfl, HZ⟩)
    go_ret
    exact ⟨rfl, (HW.out.below HZ).bel⟩
  have hy1 : 0 ≤ dq := by omega
  have hlp : 0 < len p := by have := HP.out; omega
  have hlq : 0 < len q := by have := HQ.out; omega
  have hlt : (len t : Int) - 1 = dp + dq := by
    rw [← HT.out, len_trim, len_pmul hlp hlq]
    have := HP.out
    have := HQ.out
    omega
  have hdv : DivBy t q (trim p) [] := by
    refine ⟨trim_trim _, rfl, ?_, hlq⟩
    rw [← HT.out]
    exact (trim_eqv _).trans (fun i => by rw [padd_nil]; exact (pmul_congr_left q (trim_eqv p) i).symm)
  obtain ⟨p', hp'⟩ : ∃ p', trim p = p' := ⟨_, rfl⟩
  rw [hp'] at hdv
  have hpl : p'.length ≤ 40 := by rw [← hp']; have := trim_le p; omega
  have HD := Lib.hid hdv
  clear hz hy hdv
  go_wp2_with fail
  refine (divW S A2 B t q t.length n c2 d _ HW.out (by simp) (by simp) rfl hn hc2 hd (by omega) (by omega) hlq).mono ?_
  rintro e w20 ⟨u1, v1, hu1, A3, c3, A4, c4, rfl, hc3, hc4, HN⟩
  obtain ⟨rfl, rfl⟩ := hu1.only HD.out
  clear hu1
  have HW := Lib.hid HN
  clear HN
  go_wp2_with fail
  refine (degreeW S A2 t t.length c2 _ HW.out (by simp) rfl hc2 (by omega) (dp + dq) hlt).mono ?_
  rintro e w21 ⟨rfl, HN⟩
  have HW := Lib.hid HN
  clear HN
  go_wp2_with fail
  refine (trimW S A p m c _ HW.out (by simp) hm hc (by omega) u1 hp').mono ?_
  rintro e w22 ⟨A5, c5, rfl, hc5, HN⟩
  have HW := Lib.hid HN
  clear HN
  go_wp2_with fail
  refine (sameW A3 A5 u1 u1 u1.length u1.length c3 c5 _ HW.out (by simp) (by simp) rfl rfl true (by simp)).mono ?_
  rintro e w23 ⟨rfl, rfl⟩
  go_wp2_with (go_at_call 12; (with_reducible refine (works_calls S _).mono ?_); rintro e wz ⟨rfl, HZ⟩)
  go_ret
  exact ⟨rfl, (HW.out.below HZ).bel⟩
theorem walk (S : Poly.Spec) (w : World) (A0 : Option Addr) (l0 : List Nat) (c0 : Nat) (hb0 : Bytes w A0 l0) (hc0 : l0.length ≤ c0) (hm0 : c0 ≤ 9223372036854775807) (A1 : Option Addr) (l1 : List Nat) (c1 : Nat) (hb1 : Bytes w A1 l1) (hc1 : l1.length ≤ c1) (hm1 : c1 ≤ 9223372036854775807) (n2 : Nat) (hn2 : n2 < 256) :
    Calls Try.prog 5 #[.slice A0 l0.length c0, .slice A1 l1.length c1, .int .u8 (n2 : Nat)] w fun e w' => e = .returned (.bool true) ∧ Below w.heap.size w w' := by
  obtain ⟨p0, rfl⟩ := of_bytes l0 hb0.lt
  obtain ⟨p1, rfl⟩ := of_bytes l1 hb1.lt
  obtain ⟨x2, rfl⟩ := of_byte n2 hn2
  exact core S w A0 p0 _ c0 A1 p1 _ c1 x2 (bs_length p0).symm hb0 hc0 (by omega) (bs_length p1).symm hb1 hc1 (by omega)
end Go.Proofs.Ytkchofhdhkgbnaa.polyValues
