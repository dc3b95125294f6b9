/- The walk of ReedDecode. -/
import Derived.Test.YtjpbdbgihakpmaaRdLaw
namespace Go.Proofs.Ytjpbdbgihakpmaa.reedDecode
open Go.RowKit F8 GF Poly Rd

theorem dec_len {xs : List F8} {k : Nat} {pl : List Int} {ys l : List F8} {z : Int} (h : DecIs xs k pl ys l z) : l.length ≤ k := by
  rcases h with ⟨_, h, _⟩ | ⟨_, _, h, _⟩ | ⟨_, _, _, h, _⟩ | ⟨_, _, _, h, _⟩ <;> simp_all
set_option maxRecDepth 100000 in
set_option maxHeartbeats 4000000 in
theorem core (S : Poly.Spec) (w : World) (A : Option Addr) (p : List F8) (m c : Nat) (z : Int) (P : Option Addr) (pl : List Int) (u v : Nat) (B : Option Addr) (q : List F8) (n d : Nat) (hm : p.length = m) (hbp : Bytes w A (bs p)) (hc : m ≤ c) (hu : pl.length = u) (hrp : Row w P (zs pl)) (hn : q.length = n) (hbq : Bytes w B (bs q))  (hm9 : m ≤ 9223372036854775807) (hn9 : n ≤ 9223372036854775807) :
    Calls Try.prog 6 #[.slice A m c, .int .i64 z, .slice P u v, .slice B n d] w fun e w' => e = .returned (.bool true) ∧ Below w.heap.size w w' := by
  by_cases g0 : 16 < m
  · go_enter Try.func6, Try.ntmps6
    go_wp2_with (go_at_call 24; (with_reducible refine (works_calls S _).mono ?_); rintro e w1 ⟨rfl, HN⟩)
    go_ret
    exact ⟨rfl, HN⟩
  have k0 : m ≤ 16 := by omega
  clear g0
  by_cases g1 : 20 < u
  · go_enter Try.func6, Try.ntmps6
    go_wp2_with (go_at_call 24; (with_reducible refine (works_calls S _).mono ?_); rintro e w1 ⟨rfl, HN⟩)
    go_ret
    exact ⟨rfl, HN⟩
  have k1 : u ≤ 20 := by omega
  clear g1
  by_cases g2 : 20 < n
  · go_enter Try.func6, Try.ntmps6
    go_wp2_with (go_at_call 24; (with_reducible refine (works_calls S _).mono ?_); rintro e w1 ⟨rfl, HN⟩)
    go_ret
    exact ⟨rfl, HN⟩
  have k2 : n ≤ 20 := by omega
  clear g2
  have HB := Lib.hid hbp
  have HB2 := Lib.hid hbq
  have HRow := Lib.hid hrp
  have HM := Lib.hid hm
  have HU := Lib.hid hu
  have HNl := Lib.hid hn
  have HS := St.refl w
  clear hbp hbq hm hn hu hrp
  go_enter Try.func6, Try.ntmps6
  go_wp2_with fail
  refine (newS _ HS).mono ?_
  rintro e w1 ⟨rfl, HN⟩
  have HW := Lib.hid ((((W.start HN).arg HB.out)).arg HB2.out)
  clear HS HN
  go_wp2_with fail
  refine (newW HW.out A p m c z (by simp) HM.out hc (by omega)).mono ?_
  rintro e w2 (⟨-, b, A2, c2, k, hk, rfl, -, -, HN⟩ | ⟨-, rfl, HN⟩)
  · have HR := Lib.hid HN
    have hkn : k ≤ m := HN.cd.kn
    have hy1 := conv_f (HN.kw.bytes (A := B) (p := q) (by simp)) n d HNl.out
    have hy2 := conv_b q n HNl.out w2
    have hcy := le_grown w2 n
    have H3 := HN.conv q
    clear HN HW
    subst hk
    go_wp2_with fail
    clear hy1 hy2
    generalize grownCap w2 n 0 5 = cy at *
    generalize Lib.bytesWorld w2 5 (str (bs q)) = w3 at *
    refine (decodeW S H3 P pl u v HU.out (HRow.out.below H3.kw.bel) (by omega) _ q n cy (by simp) HNl.out hcy (by omega)).mono ?_
    rintro e w4 ⟨r, y, hD, A4, c4, rfl, hc4, HN⟩
    have HR := Lib.hid HN
    have HD := Lib.hid hD
    have hrl : r.length ≤ k := dec_len hD
    have hyy : ((y : Int) == y) = true := by simp
    clear HN H3 hD
    go_wp2_with fail
    refine (refDecodeW HR.out A p m c P pl u v B q n d (by simp) (by simp) HM.out (by omega) HR.out.cd.nd (by omega) HU.out (HRow.out.below HR.out.kw.bel) (by omega) HNl.out r y HD.out).mono ?_
    rintro e w5 ⟨A5, c5, rfl, hc5, HN⟩
    have HR := Lib.hid HN
    clear HN
    go_wp2_with fail
    refine (sameW A4 A5 r r r.length r.length c4 c5 _ HR.out.kw (by simp) (by simp) rfl rfl true (by simp)).mono ?_
    rintro e w6 ⟨rfl, rfl⟩
    go_wp2_with fail
    refine (sameW (some ⟨w2.heap.size, 0, none⟩) B q q n n cy d _ HR.out.kw (by simp) (by simp) HNl.out HNl.out true (by simp)).mono ?_
    rintro e w6 ⟨rfl, rfl⟩
    go_wp2_with (go_at_call 24; (with_reducible refine (works_calls S _).mono ?_); rintro e wz ⟨rfl, HZ⟩)
    go_ret
    exact ⟨rfl, (HR.out.kw.below HZ).bel⟩
  · have HR := Lib.hid HN
    clear HN HW
    go_wp2_with (go_at_call 24; (with_reducible refine (works_calls S _).mono ?_); rintro e wz ⟨rfl, HZ⟩)
    go_ret
    exact ⟨rfl, (HR.out.below HZ).bel⟩
theorem walk (S : Poly.Spec) (w : World) (A0 : Option Addr) (l0 : List Nat) (c0 : Nat) (hb0 : Bytes w A0 l0) (hc0 : l0.length ≤ c0) (hm0 : c0 ≤ 9223372036854775807) (n1 : Int) (_hl1 : -9223372036854775808 ≤ n1) (_hn1 : n1 < 9223372036854775808) (A2 : Option Addr) (l2 : List Int) (c2 : Nat) (hb2 : Row w A2 (zs l2)) (A3 : Option Addr) (l3 : List Nat) (c3 : Nat) (hb3 : Bytes w A3 l3) (hc3 : l3.length ≤ c3) (hm3 : c3 ≤ 9223372036854775807) :
    Calls Try.prog 6 #[.slice A0 l0.length c0, .int .i64 n1, .slice A2 l2.length c2, .slice A3 l3.length c3] w fun e w' => e = .returned (.bool true) ∧ Below w.heap.size w w' := by
  obtain ⟨p0, rfl⟩ := of_bytes l0 hb0.lt
  obtain ⟨p3, rfl⟩ := of_bytes l3 hb3.lt
  exact core S w A0 p0 _ c0 n1 A2 l2 _ c2 A3 p3 _ c3 (bs_length p0).symm hb0 hc0 rfl hb2 (bs_length p3).symm hb3 (by omega) (by omega)
end Go.Proofs.Ytjpbdbgihakpmaa.reedDecode
