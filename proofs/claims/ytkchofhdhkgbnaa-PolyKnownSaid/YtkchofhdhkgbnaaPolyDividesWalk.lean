/- The walk of PolyDivides. -/
import Derived.Test.YtkchofhdhkgbnaaPolyWorks
namespace Go.Proofs.Ytkchofhdhkgbnaa.polyDivides
open Go.RowKit F8 GF Poly

set_option maxRecDepth 100000 in
set_option maxHeartbeats 4000000 in
theorem core (S : Poly.Spec) (w : World) (A : Option Addr) (p : List F8) (m c : Nat) (B : Option Addr) (q : List F8) (n d : Nat) (x : F8) (hm : p.length = m) (hbp : Bytes w A (bs p)) (hc : m ≤ c) (hm9 : m ≤ 9223372036854775807) (hn : q.length = n) (hbq : Bytes w B (bs q)) (hd : n ≤ d) (hn9 : n ≤ 9223372036854775807) :
    Calls Try.prog 6 #[.slice A m c, .slice B n d, .int .u8 x.n] w fun e w' => e = .returned (.bool true) ∧ Below w.heap.size w w' := by
  by_cases g0 : 40 < m
  · go_enter Try.func6, Try.ntmps6
    go_wp2_with (go_at_call 12; (with_reducible refine (works_calls S _).mono ?_); rintro e w1 ⟨rfl, HN⟩)
    go_ret
    exact ⟨rfl, HN⟩
  have k0 : m ≤ 40 := by omega
  clear g0
  by_cases g1 : 40 < n
  · go_enter Try.func6, Try.ntmps6
    go_wp2_with (go_at_call 12; (with_reducible refine (works_calls S _).mono ?_); rintro e w1 ⟨rfl, HN⟩)
    go_ret
    exact ⟨rfl, HN⟩
  have k1 : n ≤ 40 := by omega
  clear g1
  have HB := Lib.hid hbp
  have HB2 := Lib.hid hbq
  have HS := St.refl w
  obtain ⟨dq, hdq⟩ : ∃ dq : Int, (len q : Int) - 1 = dq := ⟨_, rfl⟩
  obtain ⟨y, hy⟩ : ∃ y, eval p x = y := ⟨_, rfl⟩
  have lq := len_le q
  have hdq1 : -1 ≤ dq ∧ dq ≤ 40 := by omega
  go_enter Try.func6, Try.ntmps6
  go_wp2_with fail
  refine (newS _ HS).mono ?_
  rintro e w1 ⟨rfl, HN⟩
  have HW := Lib.hid (((W.start HN).arg HB.out).arg HB2.out)
  clear HS HN
  go_wp2_with fail
  have HW := Lib.hid (HW.out.lit #[.int .u8 x.n, .int .u8 1] [x, 1] rfl)
  refine (divW S A (some ⟨w1.heap.size, 0, none⟩) p [x, 1] m 2 c 2 _ HW.out (by simp) (by simp) hm rfl hc (by decide) (by omega) (by decide) (by rw [len_lin]; decide)).mono ?_
  rintro e w2 ⟨u1, v1, hu1, A1, c1, A2, c2, rfl, hc1, hc2, HN⟩
  have HW := Lib.hid (HN.sub (ls' := [(A2, v1), (B, q), (A, p)]) (by simp))
  have hrest := hu1.rest
  clear HN hu1 hc1
  rcases hrest with ⟨rfl, he⟩ | ⟨y1, rfl, hy1, he⟩
  · have hey : y = 0 := by rw [← hy, he]
    subst hey
    clear he
    go_wp2_with fail
    refine (atW S A p m c _ HW.out (by simp) hm hc (by omega) x 0 hy).mono ?_
    rintro e w3 ⟨rfl, HN⟩
    have HW := Lib.hid HN
    clear HN
    clear hy
    by_cases hz : len q = 0
    · have htz : trim q = [] := by unfold len at hz; exact List.eq_nil_of_length_eq_zero hz
      have hdn : dq < 0 := by omega
      go_wp2_with fail
      refine (divW_zero S A B p q m n c d _ HW.out (by simp) (by simp) hm hn hc hd (by omega) (by omega) htz).mono ?_
      clear hz htz
      rintro e w4 ⟨A3, c3, A4, c4, rfl, hc3, hc4, HN⟩
      have HW := Lib.hid HN
      clear HN
      go_wp2_with fail
      refine (degreeW S B q n d _ HW.out (by simp) hn hd (by omega) dq hdq).mono ?_
      rintro e w5 ⟨rfl, HN⟩
      have HW := Lib.hid HN
      clear HN
      clear hdq
      go_wp2_with (go_at_call 12; (with_reducible refine (works_calls S _).mono ?_); rintro e wz ⟨rfl, HZ⟩)
      go_ret
      exact ⟨rfl, (HW.out.below HZ).bel⟩
    · have hlq : 0 < len q := by omega
      go_wp2_with fail
      refine (divW S A B p q m n c d _ HW.out (by simp) (by simp) hm hn hc hd (by omega) (by omega) hlq).mono ?_
      rintro e w4 ⟨u2, v2, hu2, A3, c3, A4, c4, rfl, hc3, hc4, HN⟩
      have HW := Lib.hid HN
      clear HN
      have hul := hu2.len_q
      have hvl := hu2.len_r
      have hbk := hu2.back
      obtain ⟨t, ht⟩ : ∃ t, trim (pmul u2 q) = t := ⟨_, rfl⟩
      have htl := pmul_len u2 q
      rw [ht] at hbk htl
      obtain ⟨p', hp'⟩ : ∃ p', trim p = p' := ⟨_, rfl⟩
      have hpl := trim_len p
      rw [hp'] at hbk hpl
      obtain ⟨dv, hdv⟩ : ∃ dv : Int, (len v2 : Int) - 1 = dv := ⟨_, rfl⟩
      have hlt := hu2.lt
      have hdvq : dv < dq := by omega
      have hdv1 : -1 ≤ dv := by omega
      clear hu2 hz hlt
      go_wp2_with fail
      refine (mulW S A3 B u2 q u2.length n c3 d _ HW.out (by simp) (by simp) rfl hn hc3 hd (by omega) (by omega) t ht).mono ?_
      rintro e w5 ⟨A5, c5, rfl, hc5, HN⟩
      have HW := Lib.hid HN
      clear HN
      go_wp2_with fail
      refine (addW S A5 A4 t v2 t.length v2.length c5 c4 _ HW.out (by simp) (by simp) rfl rfl hc5 hc4 (by omega) (by omega) p' hbk).mono ?_
      rintro e w6 ⟨A6, c6, rfl, hc6, HN⟩
      have HW := Lib.hid HN
      clear HN
      go_wp2_with fail
      refine (trimW S A p m c _ HW.out (by simp) hm hc (by omega) p' hp').mono ?_
      rintro e w7 ⟨A7, c7, rfl, hc7, HN⟩
      have HW := Lib.hid HN
      clear HN
      go_wp2_with fail
      refine (sameW A6 A7 p' p' p'.length p'.length c6 c7 _ HW.out (by simp) (by simp) rfl rfl true (by simp)).mono ?_
      rintro e w8 ⟨rfl, rfl⟩
      go_wp2_with fail
      refine (degreeW S A4 v2 v2.length c4 _ HW.out (by simp) rfl hc4 (by omega) dv hdv).mono ?_
      rintro e w9 ⟨rfl, HN⟩
      have HW := Lib.hid HN
      clear HN
      go_wp2_with fail
      refine (degreeW S B q n d _ HW.out (by simp) hn hd (by omega) dq hdq).mono ?_
      rintro e w10 ⟨rfl, HN⟩
      have HW := Lib.hid HN
      clear HN
      clear hdq hdv ht hp' hbk
      go_wp2_with (go_at_call 12; (with_reducible refine (works_calls S _).mono ?_); rintro e wz ⟨rfl, HZ⟩)
      go_ret
      exact ⟨rfl, (HW.out.below HZ).bel⟩
  · have hey : y = y1 := by rw [← hy, he]
    subst hey
    clear he
    obtain ⟨b2, o2, rfl⟩ := where_ (HW.out.bytes (A := A2) (p := [y]) (by simp)) (by simp)
    have hcell := cellAt (HW.out.bytes (A := some ⟨b2, o2, none⟩) (p := [y]) (by simp)) 0 (by simp)
    rw [coef_cons_zero, Nat.add_zero] at hcell
    go_wp2_with fail
    refine (atW S A p m c _ HW.out (by simp) hm hc (by omega) x y hy).mono ?_
    rintro e w3 ⟨rfl, HN⟩
    have HW := Lib.hid HN
    clear HN
    clear hy
    by_cases hz : len q = 0
    · have htz : trim q = [] := by unfold len at hz; exact List.eq_nil_of_length_eq_zero hz
      have hdn : dq < 0 := by omega
      go_wp2_with fail
      refine (divW_zero S A B p q m n c d _ HW.out (by simp) (by simp) hm hn hc hd (by omega) (by omega) htz).mono ?_
      clear hz htz
      rintro e w4 ⟨A3, c3, A4, c4, rfl, hc3, hc4, HN⟩
      have HW := Lib.hid HN
      clear HN
      go_wp2_with fail
      refine (degreeW S B q n d _ HW.out (by simp) hn hd (by omega) dq hdq).mono ?_
      rintro e w5 ⟨rfl, HN⟩
      have HW := Lib.hid HN
      clear HN
      clear hdq
      go_wp2_with (go_at_call 12; (with_reducible refine (works_calls S _).mono ?_); rintro e wz ⟨rfl, HZ⟩)
      go_ret
      exact ⟨rfl, (HW.out.below HZ).bel⟩
    · have hlq : 0 < len q := by omega
      go_wp2_with fail
      refine (divW S A B p q m n c d _ HW.out (by simp) (by simp) hm hn hc hd (by omega) (by omega) hlq).mono ?_
      rintro e w4 ⟨u2, v2, hu2, A3, c3, A4, c4, rfl, hc3, hc4, HN⟩
      have HW := Lib.hid HN
      clear HN
      have hul := hu2.len_q
      have hvl := hu2.len_r
      have hbk := hu2.back
      obtain ⟨t, ht⟩ : ∃ t, trim (pmul u2 q) = t := ⟨_, rfl⟩
      have htl := pmul_len u2 q
      rw [ht] at hbk htl
      obtain ⟨p', hp'⟩ : ∃ p', trim p = p' := ⟨_, rfl⟩
      have hpl := trim_len p
      rw [hp'] at hbk hpl
      obtain ⟨dv, hdv⟩ : ∃ dv : Int, (len v2 : Int) - 1 = dv := ⟨_, rfl⟩
      have hlt := hu2.lt
      have hdvq : dv < dq := by omega
      have hdv1 : -1 ≤ dv := by omega
      clear hu2 hz hlt
      go_wp2_with fail
      refine (mulW S A3 B u2 q u2.length n c3 d _ HW.out (by simp) (by simp) rfl hn hc3 hd (by omega) (by omega) t ht).mono ?_
      rintro e w5 ⟨A5, c5, rfl, hc5, HN⟩
      have HW := Lib.hid HN
      clear HN
      go_wp2_with fail
      refine (addW S A5 A4 t v2 t.length v2.length c5 c4 _ HW.out (by simp) (by simp) rfl rfl hc5 hc4 (by omega) (by omega) p' hbk).mono ?_
      rintro e w6 ⟨A6, c6, rfl, hc6, HN⟩
      have HW := Lib.hid HN
      clear HN
      go_wp2_with fail
      refine (trimW S A p m c _ HW.out (by simp) hm hc (by omega) p' hp').mono ?_
      rintro e w7 ⟨A7, c7, rfl, hc7, HN⟩
      have HW := Lib.hid HN
      clear HN
      go_wp2_with fail
      refine (sameW A6 A7 p' p' p'.length p'.length c6 c7 _ HW.out (by simp) (by simp) rfl rfl true (by simp)).mono ?_
      rintro e w8 ⟨rfl, rfl⟩
      go_wp2_with fail
      refine (degreeW S A4 v2 v2.length c4 _ HW.out (by simp) rfl hc4 (by omega) dv hdv).mono ?_
      rintro e w9 ⟨rfl, HN⟩
      have HW := Lib.hid HN
      clear HN
      go_wp2_with fail
      refine (degreeW S B q n d _ HW.out (by simp) hn hd (by omega) dq hdq).mono ?_
      rintro e w10 ⟨rfl, HN⟩
      have HW := Lib.hid HN
      clear HN
      clear hdq hdv ht hp' hbk
      go_wp2_with (go_at_call 12; (with_reducible refine (works_calls S _).mono ?_); rintro e wz ⟨rfl, HZ⟩)
      go_ret
      exact ⟨rfl, (HW.out.below HZ).bel⟩
theorem walk (S : Poly.Spec) (w : World) (A0 : Option Addr) (l0 : List Nat) (c0 : Nat) (hb0 : Bytes w A0 l0) (hc0 : l0.length ≤ c0) (hm0 : c0 ≤ 9223372036854775807) (A1 : Option Addr) (l1 : List Nat) (c1 : Nat) (hb1 : Bytes w A1 l1) (hc1 : l1.length ≤ c1) (hm1 : c1 ≤ 9223372036854775807) (n2 : Nat) (hn2 : n2 < 256) :
    Calls Try.prog 6 #[.slice A0 l0.length c0, .slice A1 l1.length c1, .int .u8 (n2 : Nat)] w fun e w' => e = .returned (.bool true) ∧ Below w.heap.size w w' := by
  obtain ⟨p0, rfl⟩ := of_bytes l0 hb0.lt
  obtain ⟨p1, rfl⟩ := of_bytes l1 hb1.lt
  obtain ⟨x2, rfl⟩ := of_byte n2 hn2
  exact core S w A0 p0 _ c0 A1 p1 _ c1 x2 (bs_length p0).symm hb0 hc0 (by omega) (bs_length p1).symm hb1 hc1 (by omega)
end Go.Proofs.Ytkchofhdhkgbnaa.polyDivides
