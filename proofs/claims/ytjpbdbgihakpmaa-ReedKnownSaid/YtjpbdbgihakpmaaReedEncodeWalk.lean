/- The walk of ReedEncode. -/
import Derived.Test.YtjpbdbgihakpmaaRdLaw
namespace Go.Proofs.Ytjpbdbgihakpmaa.reedEncode
open Go.RowKit F8 GF Poly Rd

set_option maxRecDepth 100000 in
set_option maxHeartbeats 4000000 in
theorem core (S : Poly.Spec) (w : World) (A : Option Addr) (p : List F8) (m c : Nat) (z : Int) (B : Option Addr) (q : List F8) (n d : Nat) (hm : p.length = m) (hbp : Bytes w A (bs p)) (hc : m ≤ c) (hm9 : m ≤ 9223372036854775807) (hn : q.length = n) (hbq : Bytes w B (bs q))  (hn9 : n ≤ 9223372036854775807) :
    Calls Try.prog 5 #[.slice A m c, .int .i64 z, .slice B n d] w fun e w' => e = .returned (.bool true) ∧ Below w.heap.size w w' := by
  by_cases g0 : 40 < m
  · go_enter Try.func5, Try.ntmps5
    go_wp2_with (go_at_call 24; (with_reducible refine (works_calls S _).mono ?_); rintro e w1 ⟨rfl, HN⟩)
    go_ret
    exact ⟨rfl, HN⟩
  have k0 : m ≤ 40 := by omega
  clear g0
  by_cases g1 : 60 < n
  · go_enter Try.func5, Try.ntmps5
    go_wp2_with (go_at_call 24; (with_reducible refine (works_calls S _).mono ?_); rintro e w1 ⟨rfl, HN⟩)
    go_ret
    exact ⟨rfl, HN⟩
  have k1 : n ≤ 60 := by omega
  clear g1
  have HB := Lib.hid hbp
  have HB2 := Lib.hid hbq
  have HM := Lib.hid hm
  have HNl := Lib.hid hn
  have HS := St.refl w
  clear hbp hbq hm hn
  go_enter Try.func5, Try.ntmps5
  go_wp2_with fail
  refine (newS _ HS).mono ?_
  rintro e w1 ⟨rfl, HN⟩
  have HW := Lib.hid ((((W.start HN).arg HB.out)).arg HB2.out)
  clear HS HN
  go_wp2_with fail
  refine (newW HW.out A p m c z (by simp) HM.out hc (by omega)).mono ?_
  rintro e w2 (⟨-, b, A2, c2, k, hk, rfl, -, -, HN⟩ | ⟨-, rfl, HN⟩)
  · have HR := Lib.hid HN
    have hy1 := conv_f (HN.kw.bytes (A := B) (p := q) (by simp)) n d HNl.out
    have hy2 := conv_b q n HNl.out w2
    have hcy := le_grown w2 n
    have H3 := HN.conv q
    obtain ⟨r, y, hr⟩ : ∃ r y, encR p k q = (r, y) := ⟨_, _, rfl⟩
    have HE := Lib.hid hr
    have hrl : r.length ≤ 40 := by
      have h1 := HM.out
      have h2 := HE.out
      unfold encR at h2
      split at h2 <;> · cases h2; simp [word_length] <;> omega
    have hyy : ((y : Int) == y) = true := by simp
    clear HN HW hr
    subst hk
    go_wp2_with fail
    clear hy1 hy2
    generalize grownCap w2 n 0 5 = cy at *
    generalize Lib.bytesWorld w2 5 (str (bs q)) = w3 at *
    refine (encodeW S H3 _ q n cy (by simp) HNl.out hcy (by omega) r y HE.out).mono ?_
    rintro e w4 ⟨A4, c4, rfl, hc4, HN⟩
    have HR := Lib.hid HN
    clear HN H3
    go_wp2_with fail
    refine (refEncodeW HR.out A p m c B q n d (by simp) (by simp) HM.out (by omega) HNl.out (by omega) r y HE.out).mono ?_
    rintro e w5 ⟨A5, c5, rfl, hc5, HN⟩
    have HR := Lib.hid HN
    clear HN
    go_wp2_with fail
    refine (sameW A4 A5 r r r.length r.length c4 c5 _ HR.out.kw (by simp) (by simp) rfl rfl true (by simp)).mono ?_
    rintro e w6 ⟨rfl, rfl⟩
    go_wp2_with fail
    refine (sameW (some ⟨w2.heap.size, 0, none⟩) B q q n n cy d _ HR.out.kw (by simp) (by simp) HNl.out HNl.out true (by simp)).mono ?_
    rintro e w6 ⟨rfl, rfl⟩
    go_wp2_with (go_at_call 24; (with_reducible refine (works_calls S _).mono ?_); rintro e wz ⟨rfl, HZ⟩)
    go_ret
    exact ⟨rfl, (HR.out.kw.below HZ).bel⟩
  · have HR := Lib.hid HN
    clear HN HW
    go_wp2_with (go_at_call 24; (with_reducible refine (works_calls S _).mono ?_); rintro e wz ⟨rfl, HZ⟩)
    go_ret
    exact ⟨rfl, (HR.out.below HZ).bel⟩
theorem walk (S : Poly.Spec) (w : World) (A0 : Option Addr) (l0 : List Nat) (c0 : Nat) (hb0 : Bytes w A0 l0) (hc0 : l0.length ≤ c0) (hm0 : c0 ≤ 9223372036854775807) (n1 : Int) (_hl1 : -9223372036854775808 ≤ n1) (_hn1 : n1 < 9223372036854775808) (A2 : Option Addr) (l2 : List Nat) (c2 : Nat) (hb2 : Bytes w A2 l2) (hc2 : l2.length ≤ c2) (hm2 : c2 ≤ 9223372036854775807) :
    Calls Try.prog 5 #[.slice A0 l0.length c0, .int .i64 n1, .slice A2 l2.length c2] w fun e w' => e = .returned (.bool true) ∧ Below w.heap.size w w' := by
  obtain ⟨p0, rfl⟩ := of_bytes l0 hb0.lt
  obtain ⟨p2, rfl⟩ := of_bytes l2 hb2.lt
  exact core S w A0 p0 _ c0 n1 A2 p2 _ c2 (bs_length p0).symm hb0 hc0 (by omega) (bs_length p2).symm hb2 (by omega)
end Go.Proofs.Ytjpbdbgihakpmaa.reedEncode
