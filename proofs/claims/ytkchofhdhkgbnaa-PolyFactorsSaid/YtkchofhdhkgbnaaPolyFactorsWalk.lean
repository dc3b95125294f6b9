/- The walk of PolyFactors. -/
import Derived.Test.YtkchofhdhkgbnaaPolyWorks
namespace Go.Proofs.Ytkchofhdhkgbnaa.polyFactors
open Go.RowKit F8 GF Poly

set_option maxRecDepth 100000 in
set_option maxHeartbeats 4000000 in
theorem core (S : Poly.Spec) (w : World) (A : Option Addr) (p : List F8) (m c : Nat) (B : Option Addr) (q : List F8) (n d : Nat) (x : F8) (hm : p.length = m) (hbp : Bytes w A (bs p)) (hc : m ≤ c) (hm9 : m ≤ 9223372036854775807) (hn : q.length = n) (hbq : Bytes w B (bs q)) (hd : n ≤ d) (hn9 : n ≤ 9223372036854775807) :
    Calls Try.prog 10 #[.slice A m c, .slice B n d, .int .u8 x.n] w fun e w' => e = .returned (.bool true) ∧ Below w.heap.size w w' := by
  by_cases g0 : 30 < m
  · go_enter Try.func10, Try.ntmps10
    go_wp2_with (go_at_call 12; (with_reducible refine (works_calls S _).mono ?_); rintro e w1 ⟨rfl, HN⟩)
    go_ret
    exact ⟨rfl, HN⟩
  have k0 : m ≤ 30 := by omega
  clear g0
  by_cases g1 : 30 < n
  · go_enter Try.func10, Try.ntmps10
    go_wp2_with (go_at_call 12; (with_reducible refine (works_calls S _).mono ?_); rintro e w1 ⟨rfl, HN⟩)
    go_ret
    exact ⟨rfl, HN⟩
  have k1 : n ≤ 30 := by omega
  clear g1
  have HB := Lib.hid hbp
  have HB2 := Lib.hid hbq
  have HS := St.refl w
  obtain ⟨y, hy⟩ : ∃ y, eval p x = y := ⟨_, rfl⟩
  obtain ⟨z, hz⟩ : ∃ z, eval q x = z := ⟨_, rfl⟩
  obtain ⟨t, ht⟩ : ∃ t, trim (pmul p q) = t := ⟨_, rfl⟩
  have htl := pmul_len p q
  rw [ht] at htl
  have htx : eval t x = y * z := by rw [← ht, eval_trim, eval_pmul, hy, hz]
  go_enter Try.func10, Try.ntmps10
  go_wp2_with fail
  refine (newS _ HS).mono ?_
  rintro e w1 ⟨rfl, HN⟩
  have HW := Lib.hid (((W.start HN).arg HB.out).arg HB2.out)
  clear HS HN
  go_wp2_with fail
  have HW := Lib.hid (HW.out.lit #[.int .u8 x.n] [x] rfl)
  refine (rootsW S (some ⟨w1.heap.size, 0, none⟩) [x] 1 1 _ HW.out (by simp) rfl (by decide) (by decide) [x, 1] (roots_one x)).mono ?_
  rintro e w2 ⟨A1, c1, rfl, hc1, HN⟩
  have HW := Lib.hid HN
  clear HN
  go_wp2_with fail
  refine (divW S A A1 p [x, 1] m 2 c c1 _ HW.out (by simp) (by simp) hm rfl hc hc1 (by omega) (by decide) (by rw [len_lin]; decide)).mono ?_
  rintro e w3 ⟨u1, v1, hu1, A3, c3, A2, c2, rfl, hc3, hc2, HN⟩
  have HW := Lib.hid (HN.sub (ls' := [(A2, v1), (B, q), (A, p)]) (by simp))
  have hrest := hu1.rest
  clear HN hu1 hc3
  rcases hrest with ⟨rfl, he⟩ | ⟨y1, rfl, hy1, he⟩
  · have hey : y = 0 := by rw [← hy, he]
    subst hey
    rw [zero_mul] at htx
    clear he
    go_wp2_with fail
    refine (atW S A p m c _ HW.out (by simp) hm hc (by omega) x 0 hy).mono ?_
    rintro e w4 ⟨rfl, HN⟩
    have HW := Lib.hid HN
    clear HN
    go_wp2_with fail
    refine (mulW S A B p q m n c d _ HW.out (by simp) (by simp) hm hn hc hd (by omega) (by omega) t ht).mono ?_
    rintro e w5 ⟨A4, c4, rfl, hc4, HN⟩
    have HW := Lib.hid HN
    clear HN
    go_wp2_with fail
    refine (atW S A4 t t.length c4 _ HW.out (by simp) rfl hc4 (by omega) x 0 htx).mono ?_
    rintro e w6 ⟨rfl, HN⟩
    have HW := Lib.hid HN
    clear HN
    clear hy ht htx hz
    go_wp2_with (go_at_call 12; (with_reducible refine (works_calls S _).mono ?_); rintro e wz ⟨rfl, HZ⟩)
    go_ret
    exact ⟨rfl, (HW.out.below HZ).bel⟩
  · have hey : y = y1 := by rw [← hy, he]
    subst hey
    have hn0 := n_beq0 hy1
    clear he
    by_cases hz0 : z = 0
    · subst hz0
      rw [mul_zero] at htx
      go_wp2_with fail
      refine (atW S A p m c _ HW.out (by simp) hm hc (by omega) x y hy).mono ?_
      rintro e w4 ⟨rfl, HN⟩
      have HW := Lib.hid HN
      clear HN
      go_wp2_with fail
      refine (mulW S A B p q m n c d _ HW.out (by simp) (by simp) hm hn hc hd (by omega) (by omega) t ht).mono ?_
      rintro e w5 ⟨A4, c4, rfl, hc4, HN⟩
      have HW := Lib.hid HN
      clear HN
      go_wp2_with fail
      refine (atW S A4 t t.length c4 _ HW.out (by simp) rfl hc4 (by omega) x 0 htx).mono ?_
      rintro e w6 ⟨rfl, HN⟩
      have HW := Lib.hid HN
      clear HN
      go_wp2_with fail
      refine (atW S B q n d _ HW.out (by simp) hn hd (by omega) x 0 hz).mono ?_
      rintro e w7 ⟨rfl, HN⟩
      have HW := Lib.hid HN
      clear HN
      clear hy ht htx hz
      go_wp2_with (go_at_call 12; (with_reducible refine (works_calls S _).mono ?_); rintro e wz ⟨rfl, HZ⟩)
      go_ret
      exact ⟨rfl, (HW.out.below HZ).bel⟩
    · have hn1 := n_beq0 hz0
      obtain ⟨k, hk⟩ : ∃ k, y * z = k := ⟨_, rfl⟩
      have hn2 : ((k.n : Int) == 0) = false := n_beq0 (by rw [← hk]; exact mul_ne_zero hy1 hz0)
      rw [hk] at htx
      go_wp2_with fail
      refine (atW S A p m c _ HW.out (by simp) hm hc (by omega) x y hy).mono ?_
      rintro e w4 ⟨rfl, HN⟩
      have HW := Lib.hid HN
      clear HN
      go_wp2_with fail
      refine (mulW S A B p q m n c d _ HW.out (by simp) (by simp) hm hn hc hd (by omega) (by omega) t ht).mono ?_
      rintro e w5 ⟨A4, c4, rfl, hc4, HN⟩
      have HW := Lib.hid HN
      clear HN
      go_wp2_with fail
      refine (atW S A4 t t.length c4 _ HW.out (by simp) rfl hc4 (by omega) x k htx).mono ?_
      rintro e w6 ⟨rfl, HN⟩
      have HW := Lib.hid HN
      clear HN
      go_wp2_with fail
      refine (atW S B q n d _ HW.out (by simp) hn hd (by omega) x z hz).mono ?_
      rintro e w7 ⟨rfl, HN⟩
      have HW := Lib.hid HN
      clear HN
      clear hy ht htx hz hk
      go_wp2_with (go_at_call 12; (with_reducible refine (works_calls S _).mono ?_); rintro e wz ⟨rfl, HZ⟩)
      go_ret
      exact ⟨rfl, (HW.out.below HZ).bel⟩
theorem walk (S : Poly.Spec) (w : World) (A0 : Option Addr) (l0 : List Nat) (c0 : Nat) (hb0 : Bytes w A0 l0) (hc0 : l0.length ≤ c0) (hm0 : c0 ≤ 9223372036854775807) (A1 : Option Addr) (l1 : List Nat) (c1 : Nat) (hb1 : Bytes w A1 l1) (hc1 : l1.length ≤ c1) (hm1 : c1 ≤ 9223372036854775807) (n2 : Nat) (hn2 : n2 < 256) :
    Calls Try.prog 10 #[.slice A0 l0.length c0, .slice A1 l1.length c1, .int .u8 (n2 : Nat)] w fun e w' => e = .returned (.bool true) ∧ Below w.heap.size w w' := by
  obtain ⟨p0, rfl⟩ := of_bytes l0 hb0.lt
  obtain ⟨p1, rfl⟩ := of_bytes l1 hb1.lt
  obtain ⟨x2, rfl⟩ := of_byte n2 hn2
  exact core S w A0 p0 _ c0 A1 p1 _ c1 x2 (bs_length p0).symm hb0 hc0 (by omega) (bs_length p1).symm hb1 hc1 (by omega)
end Go.Proofs.Ytkchofhdhkgbnaa.polyFactors
