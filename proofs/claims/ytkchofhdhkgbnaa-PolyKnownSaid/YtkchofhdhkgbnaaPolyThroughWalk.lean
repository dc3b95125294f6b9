/- The walk of PolyThrough. -/
import Derived.Test.YtkchofhdhkgbnaaPolyRefSt
namespace Go.Proofs.Ytkchofhdhkgbnaa.polyThrough
open Go.RowKit F8 GF Poly

set_option maxRecDepth 100000 in
set_option maxHeartbeats 4000000 in
theorem core (S : Poly.Spec) (w : World) (A : Option Addr) (p : List F8) (m c : Nat) (B : Option Addr) (q : List F8) (n d : Nat) (C : Option Addr) (r : List F8) (o b : Nat) (x : F8) (hm : p.length = m) (hbp : Bytes w A (bs p)) (hc : m ≤ c) (hm9 : m ≤ 9223372036854775807) (hn : q.length = n) (hbq : Bytes w B (bs q)) (hd : n ≤ d) (hn9 : n ≤ 9223372036854775807) (ho : r.length = o) (hbr : Bytes w C (bs r)) (hb : o ≤ b) (ho9 : o ≤ 9223372036854775807) :
    Calls Try.prog 4 #[.slice A m c, .slice B n d, .slice C o b, .int .u8 x.n] w fun e w' => e = .returned (.bool true) ∧ Below w.heap.size w w' := by
  by_cases g0 : 16 < m
  · go_enter Try.func4, Try.ntmps4
    go_wp2_with (go_at_call 12; (with_reducible refine (works_calls S _).mono ?_); rintro e w1 ⟨rfl, HN⟩)
    go_ret
    exact ⟨rfl, HN⟩
  have k0 : m ≤ 16 := by omega
  clear g0
  by_cases g1 : 16 < n
  · go_enter Try.func4, Try.ntmps4
    go_wp2_with (go_at_call 12; (with_reducible refine (works_calls S _).mono ?_); rintro e w1 ⟨rfl, HN⟩)
    go_ret
    exact ⟨rfl, HN⟩
  have k1 : n ≤ 16 := by omega
  clear g1
  by_cases g2 : 40 < o
  · go_enter Try.func4, Try.ntmps4
    go_wp2_with (go_at_call 12; (with_reducible refine (works_calls S _).mono ?_); rintro e w1 ⟨rfl, HN⟩)
    go_ret
    exact ⟨rfl, HN⟩
  have k2 : o ≤ 40 := by omega
  clear g2
  have HB := Lib.hid hbp
  have HB2 := Lib.hid hbq
  have HB3 := Lib.hid hbr
  have HS := St.refl w
  obtain ⟨y, hy⟩ : ∃ y, eval r x = y := ⟨_, rfl⟩
  obtain ⟨ro, h_ro⟩ : ∃ ro, trim (roots p) = ro := ⟨_, rfl⟩
  have l_ro : ro.length ≤ 17 := by rw [← h_ro, roots_length]; omega
  go_enter Try.func4, Try.ntmps4
  go_wp2_with fail
  refine (newS _ HS).mono ?_
  rintro e w1 ⟨rfl, HN⟩
  have HW := Lib.hid ((((W.start HN).arg HB.out).arg HB2.out).arg HB3.out)
  clear HS HN
  by_cases hbad : m ≠ n ∨ ¬ p.Nodup
  · go_wp2_with fail
    refine (throughW_bad S A B p q m n c d _ HW.out (by simp) (by simp) hm hn hc hd (by omega) (by omega) hbad).mono ?_
    rintro e w2 ⟨A1, c1, rfl, hc1, HN⟩
    have HW := Lib.hid HN
    clear HN
    go_wp2_with fail
    refine (refThroughW_bad A B p q m n c d _ HW.out (by simp) (by simp) hm hn hc (by omega) hbad).mono ?_
    rintro e w3 ⟨A2, c2, rfl, hc2, HN⟩
    have HW := Lib.hid HN
    clear HN
    clear hbad
    go_wp2_with fail
    refine (sameW A1 A2 ([] : List F8) ([] : List F8) 0 0 c1 c2 _ HW.out (by simp) (by simp) rfl rfl true (by simp)).mono ?_
    rintro e w4 ⟨rfl, rfl⟩
    go_wp2_with fail
    refine (atW S C r o b _ HW.out (by simp) ho hb (by omega) x y hy).mono ?_
    rintro e w5 ⟨rfl, HN⟩
    have HW := Lib.hid HN
    clear HN
    go_wp2_with fail
    refine (refAtW C r o b _ HW.out (by simp) ho (by omega) x y hy).mono ?_
    rintro e wq ⟨rfl, rfl⟩
    go_wp2_with fail
    refine (rootsW S A p m c _ HW.out (by simp) hm hc (by omega) ro h_ro).mono ?_
    rintro e w6 ⟨A5, c5, rfl, hc5, HN⟩
    have HW := Lib.hid HN
    clear HN
    go_wp2_with fail
    refine (refRootsW A p m c _ HW.out (by simp) hm (by omega) ro h_ro).mono ?_
    rintro e w7 ⟨A6, c6, rfl, hc6, HN⟩
    have HW := Lib.hid HN
    clear HN
    go_wp2_with fail
    refine (sameW A5 A6 ro ro ro.length ro.length c5 c6 _ HW.out (by simp) (by simp) rfl rfl true (by simp)).mono ?_
    rintro e w8 ⟨rfl, rfl⟩
    clear hy h_ro
    go_wp2_with (go_at_call 12; (with_reducible refine (works_calls S _).mono ?_); rintro e wz ⟨rfl, HZ⟩)
    go_ret
    exact ⟨rfl, (HW.out.below HZ).bel⟩
  · have hmn : m = n := Decidable.byContradiction fun h => hbad (.inl h)
    have hnd : p.Nodup := Decidable.byContradiction fun h => hbad (.inr h)
    have HMN := Lib.hid hmn
    have HND := Lib.hid hnd
    clear hbad hmn hnd
    go_wp2_with fail
    refine (throughW S A B p q m n c d _ HW.out (by simp) (by simp) hm hn hc hd (by omega) (by omega) HMN.out HND.out).mono ?_
    rintro e w2 ⟨s, hs, A1, c1, rfl, hc1, HN⟩
    have HW := Lib.hid HN
    clear HN
    have hsl := hs.len
    have HS := Lib.hid hs
    clear hs
    go_wp2_with fail
    refine (refThroughW A B p q m n c d _ HW.out (by simp) (by simp) hm hn hc (by omega) HMN.out HND.out s HS.out).mono ?_
    rintro e w3 ⟨A2, c2, rfl, hc2, HN⟩
    have HW := Lib.hid HN
    clear HN
    go_wp2_with fail
    refine (sameW A1 A2 s s s.length s.length c1 c2 _ HW.out (by simp) (by simp) rfl rfl true (by simp)).mono ?_
    rintro e w4 ⟨rfl, rfl⟩
    go_wp2_with fail
    refine (atW S C r o b _ HW.out (by simp) ho hb (by omega) x y hy).mono ?_
    rintro e w5 ⟨rfl, HN⟩
    have HW := Lib.hid HN
    clear HN
    go_wp2_with fail
    refine (refAtW C r o b _ HW.out (by simp) ho (by omega) x y hy).mono ?_
    rintro e wq ⟨rfl, rfl⟩
    go_wp2_with fail
    refine (rootsW S A p m c _ HW.out (by simp) hm hc (by omega) ro h_ro).mono ?_
    rintro e w6 ⟨A5, c5, rfl, hc5, HN⟩
    have HW := Lib.hid HN
    clear HN
    go_wp2_with fail
    refine (refRootsW A p m c _ HW.out (by simp) hm (by omega) ro h_ro).mono ?_
    rintro e w7 ⟨A6, c6, rfl, hc6, HN⟩
    have HW := Lib.hid HN
    clear HN
    go_wp2_with fail
    refine (sameW A5 A6 ro ro ro.length ro.length c5 c6 _ HW.out (by simp) (by simp) rfl rfl true (by simp)).mono ?_
    rintro e w8 ⟨rfl, rfl⟩
    clear hy h_ro
    go_wp2_with (go_at_call 12; (with_reducible refine (works_calls S _).mono ?_); rintro e wz ⟨rfl, HZ⟩)
    go_ret
    exact ⟨rfl, (HW.out.below HZ).bel⟩
theorem walk (S : Poly.Spec) (w : World) (A0 : Option Addr) (l0 : List Nat) (c0 : Nat) (hb0 : Bytes w A0 l0) (hc0 : l0.length ≤ c0) (hm0 : c0 ≤ 9223372036854775807) (A1 : Option Addr) (l1 : List Nat) (c1 : Nat) (hb1 : Bytes w A1 l1) (hc1 : l1.length ≤ c1) (hm1 : c1 ≤ 9223372036854775807) (A2 : Option Addr) (l2 : List Nat) (c2 : Nat) (hb2 : Bytes w A2 l2) (hc2 : l2.length ≤ c2) (hm2 : c2 ≤ 9223372036854775807) (n3 : Nat) (hn3 : n3 < 256) :
    Calls Try.prog 4 #[.slice A0 l0.length c0, .slice A1 l1.length c1, .slice A2 l2.length c2, .int .u8 (n3 : Nat)] w fun e w' => e = .returned (.bool true) ∧ Below w.heap.size w w' := by
  obtain ⟨p0, rfl⟩ := of_bytes l0 hb0.lt
  obtain ⟨p1, rfl⟩ := of_bytes l1 hb1.lt
  obtain ⟨p2, rfl⟩ := of_bytes l2 hb2.lt
  obtain ⟨x3, rfl⟩ := of_byte n3 hn3
  exact core S w A0 p0 _ c0 A1 p1 _ c1 A2 p2 _ c2 x3 (bs_length p0).symm hb0 hc0 (by omega) (bs_length p1).symm hb1 hc1 (by omega) (bs_length p2).symm hb2 hc2 (by omega)
end Go.Proofs.Ytkchofhdhkgbnaa.polyThrough
