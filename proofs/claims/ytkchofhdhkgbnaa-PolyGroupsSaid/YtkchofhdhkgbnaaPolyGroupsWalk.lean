/- The walk of PolyGroups. -/
import Derived.Test.YtkchofhdhkgbnaaPolyWorks
namespace Go.Proofs.Ytkchofhdhkgbnaa.polyGroups
open Go.RowKit F8 GF Poly

set_option maxRecDepth 100000 in
set_option maxHeartbeats 4000000 in
theorem core (S : Poly.Spec) (w : World) (A : Option Addr) (p : List F8) (m c : Nat) (B : Option Addr) (q : List F8) (n d : Nat) (C : Option Addr) (r : List F8) (o b : Nat) (x : F8) (hm : p.length = m) (hbp : Bytes w A (bs p)) (hc : m ≤ c) (hm9 : m ≤ 9223372036854775807) (hn : q.length = n) (hbq : Bytes w B (bs q)) (hd : n ≤ d) (hn9 : n ≤ 9223372036854775807) (ho : r.length = o) (hbr : Bytes w C (bs r)) (hb : o ≤ b) (ho9 : o ≤ 9223372036854775807) :
    Calls Try.prog 9 #[.slice A m c, .slice B n d, .slice C o b, .int .u8 x.n] w fun e w' => e = .returned (.bool true) ∧ Below w.heap.size w w' := by
  by_cases g0 : 30 < m
  · go_enter Try.func9, Try.ntmps9
    go_wp2_with (go_at_call 12; (with_reducible refine (works_calls S _).mono ?_); rintro e w1 ⟨rfl, HN⟩)
    go_ret
    exact ⟨rfl, HN⟩
  have k0 : m ≤ 30 := by omega
  clear g0
  by_cases g1 : 30 < n
  · go_enter Try.func9, Try.ntmps9
    go_wp2_with (go_at_call 12; (with_reducible refine (works_calls S _).mono ?_); rintro e w1 ⟨rfl, HN⟩)
    go_ret
    exact ⟨rfl, HN⟩
  have k1 : n ≤ 30 := by omega
  clear g1
  by_cases g2 : 30 < o
  · go_enter Try.func9, Try.ntmps9
    go_wp2_with (go_at_call 12; (with_reducible refine (works_calls S _).mono ?_); rintro e w1 ⟨rfl, HN⟩)
    go_ret
    exact ⟨rfl, HN⟩
  have k2 : o ≤ 30 := by omega
  clear g2
  have HB := Lib.hid hbp
  have HB2 := Lib.hid hbq
  have HB3 := Lib.hid hbr
  have HS := St.refl w
  obtain ⟨s, h_s⟩ : ∃ s, trim (padd p q) = s := ⟨_, rfl⟩
  have l_s : s.length ≤ 30 := by have := padd_len p q; rw [h_s] at this; omega
  obtain ⟨t, h_t⟩ : ∃ t, trim (padd s r) = t := ⟨_, rfl⟩
  have l_t : t.length ≤ 30 := by have := padd_len s r; rw [h_t] at this; omega
  obtain ⟨u, h_u⟩ : ∃ u, trim (padd q r) = u := ⟨_, rfl⟩
  have l_u : u.length ≤ 30 := by have := padd_len q r; rw [h_u] at this; omega
  obtain ⟨k, h_k⟩ : ∃ k, trim (pmul p q) = k := ⟨_, rfl⟩
  have l_k : k.length ≤ 60 := by have := pmul_len p q; rw [h_k] at this; omega
  obtain ⟨l, h_l⟩ : ∃ l, trim (pmul q r) = l := ⟨_, rfl⟩
  have l_l : l.length ≤ 60 := by have := pmul_len q r; rw [h_l] at this; omega
  obtain ⟨g1, h_g1⟩ : ∃ g1, trim (pmul k r) = g1 := ⟨_, rfl⟩
  have l_g1 : g1.length ≤ 90 := by have := pmul_len k r; rw [h_g1] at this; omega
  obtain ⟨v, h_v⟩ : ∃ v, trim (pmul p u) = v := ⟨_, rfl⟩
  have l_v : v.length ≤ 60 := by have := pmul_len p u; rw [h_v] at this; omega
  obtain ⟨z, h_z⟩ : ∃ z, trim (pmul p r) = z := ⟨_, rfl⟩
  have l_z : z.length ≤ 60 := by have := pmul_len p r; rw [h_z] at this; omega
  obtain ⟨ro, h_ro⟩ : ∃ ro, trim (roots p) = ro := ⟨_, rfl⟩
  have l_ro : ro.length ≤ 31 := by rw [← h_ro, show (trim (roots p)).length = _ from len_roots _]; simp; omega
  obtain ⟨r2, h_r2⟩ : ∃ r2, trim (roots (x :: p)) = r2 := ⟨_, rfl⟩
  have l_r2 : r2.length ≤ 32 := by rw [← h_r2, show (trim (roots (x :: p))).length = _ from len_roots _]; simp; omega
  have e_s : trim (padd q p) = s := by rw [← h_s]; exact trim_congr (padd_comm q p)
  have e_t : trim (padd p u) = t := by
    rw [← h_t, ← h_u, ← h_s]
    exact trim_congr (((padd_congr (Eqv.refl p) (trim_eqv _)).trans (padd_assoc p q r).symm).trans (padd_congr (trim_eqv _).symm (Eqv.refl r)))
  have e_0 : trim (padd p p) = [] := trim_nil_iff.2 (padd_self p)
  have e_k : trim (pmul q p) = k := by rw [← h_k]; exact trim_congr (pmul_comm q p)
  have e_g : trim (pmul p l) = g1 := by
    rw [← h_g1, ← h_l, ← h_k]
    exact trim_congr (((pmul_congr_right p (trim_eqv _)).trans (pmul_assoc p q r).symm).trans (pmul_congr_left r (trim_eqv _).symm))
  have e_v : trim (padd k z) = v := by
    rw [← h_v, ← h_u, ← h_k, ← h_z]
    exact trim_congr (((padd_congr (trim_eqv _) (trim_eqv _)).trans (pmul_padd p q r).symm).trans (pmul_congr_right p (trim_eqv _).symm))
  have e_r : trim (pmul ro [x, 1]) = r2 := by rw [← h_r2, ← h_ro, roots_more]
  go_enter Try.func9, Try.ntmps9
  go_wp2_with fail
  refine (newS _ HS).mono ?_
  rintro e w1 ⟨rfl, HN⟩
  have HW := Lib.hid ((((W.start HN).arg HB.out).arg HB2.out).arg HB3.out)
  clear HS HN
  go_wp2_with fail
  refine (addW S A B p q m n c d _ HW.out (by simp) (by simp) hm hn hc hd (by omega) (by omega) s h_s).mono ?_
  rintro e w2 ⟨A1, c1, rfl, hc1, HN⟩
  have HW := Lib.hid HN
  clear HN
  go_wp2_with fail
  refine (addW S B A q p n m d c _ HW.out (by simp) (by simp) hn hm hd hc (by omega) (by omega) s e_s).mono ?_
  rintro e w3 ⟨A2, c2, rfl, hc2, HN⟩
  have HW := Lib.hid HN
  clear HN
  go_wp2_with fail
  refine (sameW A1 A2 s s s.length s.length c1 c2 _ HW.out (by simp) (by simp) rfl rfl true (by simp)).mono ?_
  rintro e w4 ⟨rfl, rfl⟩
  go_wp2_with fail
  refine (addW S A B p q m n c d _ HW.out (by simp) (by simp) hm hn hc hd (by omega) (by omega) s h_s).mono ?_
  rintro e w5 ⟨A3, c3, rfl, hc3, HN⟩
  have HW := Lib.hid HN
  clear HN
  go_wp2_with fail
  refine (addW S A3 C s r s.length o c3 b _ HW.out (by simp) (by simp) rfl ho hc3 hb (by omega) (by omega) t h_t).mono ?_
  rintro e w6 ⟨A4, c4, rfl, hc4, HN⟩
  have HW := Lib.hid HN
  clear HN
  go_wp2_with fail
  refine (addW S B C q r n o d b _ HW.out (by simp) (by simp) hn ho hd hb (by omega) (by omega) u h_u).mono ?_
  rintro e w7 ⟨A5, c5, rfl, hc5, HN⟩
  have HW := Lib.hid HN
  clear HN
  go_wp2_with fail
  refine (addW S A A5 p u m u.length c c5 _ HW.out (by simp) (by simp) hm rfl hc hc5 (by omega) (by omega) t e_t).mono ?_
  rintro e w8 ⟨A6, c6, rfl, hc6, HN⟩
  have HW := Lib.hid HN
  clear HN
  go_wp2_with fail
  refine (sameW A4 A6 t t t.length t.length c4 c6 _ HW.out (by simp) (by simp) rfl rfl true (by simp)).mono ?_
  rintro e w9 ⟨rfl, rfl⟩
  go_wp2_with fail
  refine (addW S A A p p m m c c _ HW.out (by simp) (by simp) hm hm hc hc (by omega) (by omega) [] e_0).mono ?_
  rintro e w10 ⟨A7, c7, rfl, hc7, HN⟩
  have HW := Lib.hid HN
  clear HN
  go_wp2_with fail
  refine (mulW S A B p q m n c d _ HW.out (by simp) (by simp) hm hn hc hd (by omega) (by omega) k h_k).mono ?_
  rintro e w11 ⟨A8, c8, rfl, hc8, HN⟩
  have HW := Lib.hid HN
  clear HN
  go_wp2_with fail
  refine (mulW S B C q r n o d b _ HW.out (by simp) (by simp) hn ho hd hb (by omega) (by omega) l h_l).mono ?_
  rintro e w12 ⟨A9, c9, rfl, hc9, HN⟩
  have HW := Lib.hid HN
  clear HN
  go_wp2_with fail
  refine (mulW S B A q p n m d c _ HW.out (by simp) (by simp) hn hm hd hc (by omega) (by omega) k e_k).mono ?_
  rintro e w13 ⟨A10, c10, rfl, hc10, HN⟩
  have HW := Lib.hid HN
  clear HN
  go_wp2_with fail
  refine (sameW A8 A10 k k k.length k.length c8 c10 _ HW.out (by simp) (by simp) rfl rfl true (by simp)).mono ?_
  rintro e w14 ⟨rfl, rfl⟩
  go_wp2_with fail
  refine (mulW S A8 C k r k.length o c8 b _ HW.out (by simp) (by simp) rfl ho hc8 hb (by omega) (by omega) g1 h_g1).mono ?_
  rintro e w15 ⟨A11, c11, rfl, hc11, HN⟩
  have HW := Lib.hid HN
  clear HN
  go_wp2_with fail
  refine (mulW S A A9 p l m l.length c c9 _ HW.out (by simp) (by simp) hm rfl hc hc9 (by omega) (by omega) g1 e_g).mono ?_
  rintro e w16 ⟨A12, c12, rfl, hc12, HN⟩
  have HW := Lib.hid HN
  clear HN
  go_wp2_with fail
  refine (sameW A11 A12 g1 g1 g1.length g1.length c11 c12 _ HW.out (by simp) (by simp) rfl rfl true (by simp)).mono ?_
  rintro e w17 ⟨rfl, rfl⟩
  go_wp2_with fail
  refine (addW S B C q r n o d b _ HW.out (by simp) (by simp) hn ho hd hb (by omega) (by omega) u h_u).mono ?_
  rintro e w18 ⟨A13, c13, rfl, hc13, HN⟩
  have HW := Lib.hid HN
  clear HN
  go_wp2_with fail
  refine (mulW S A A13 p u m u.length c c13 _ HW.out (by simp) (by simp) hm rfl hc hc13 (by omega) (by omega) v h_v).mono ?_
  rintro e w19 ⟨A14, c14, rfl, hc14, HN⟩
  have HW := Lib.hid HN
  clear HN
  go_wp2_with fail
  refine (mulW S A C p r m o c b _ HW.out (by simp) (by simp) hm ho hc hb (by omega) (by omega) z h_z).mono ?_
  rintro e w20 ⟨A15, c15, rfl, hc15, HN⟩
  have HW := Lib.hid HN
  clear HN
  go_wp2_with fail
  refine (addW S A8 A15 k z k.length z.length c8 c15 _ HW.out (by simp) (by simp) rfl rfl hc8 hc15 (by omega) (by omega) v e_v).mono ?_
  rintro e w21 ⟨A16, c16, rfl, hc16, HN⟩
  have HW := Lib.hid HN
  clear HN
  go_wp2_with fail
  refine (sameW A14 A16 v v v.length v.length c14 c16 _ HW.out (by simp) (by simp) rfl rfl true (by simp)).mono ?_
  rintro e w22 ⟨rfl, rfl⟩
  have HW := Lib.hid (HW.out.sub (ls' := [(C, r), (B, q), (A, p)]) (by simp))
  obtain ⟨xp, hxp⟩ : ∃ xp, x :: p = xp := ⟨_, rfl⟩
  have l_xp : xp.length ≤ 31 := by rw [← hxp]; simp; omega
  rw [hxp] at h_r2
  have HMl : Hid ((bv (bs p)).length = m) := Lib.hid (by rw [bvs_length]; exact hm)
  have HXP := Lib.hid hxp
  clear h_s h_t h_u h_k h_l h_g1 h_v h_z e_s e_t e_0 e_k e_g e_v hxp
  go_wp2_with (at_builtin; refine wpList_app _ rfl (.tmp 102) (.tmp 103) _ rfl w21.heap.size 5 _ 1 Try.underlying22 info_u8 rfl (by omega) _ _ rfl (ownx w21 x) A m c (bv (bs p)) rfl HMl.out ((HW.out.bytes (A := A) (p := p) (by simp)).alloc _).row (bv_one _) (by rw [bvs_length]; simp; omega) (by simp) ?_; intro vm wm hown hg _; have B1 := ((Below.refl _ w21).alloc (Nat.le_refl _) _).trans ((ownx w21 x).grew (by simp) hg); have HO := ownx_app _ _ x p xp HXP.out _ hown; obtain ⟨Am, cm, rfl, hcm⟩ := Own.shape HO; have HN := (HW.out.below B1).own HO HW.out.glt; clear hown hg B1 HO HW; have HW := Lib.hid HN; clear HN)
  go_wp2_with fail
  refine (rootsW S Am xp xp.length cm _ HW.out (by simp) rfl hcm (by omega) r2 h_r2).mono ?_
  rintro e w41 ⟨A17, c17, rfl, hc17, HN⟩
  have HW := Lib.hid HN
  clear HN
  go_wp2_with fail
  refine (rootsW S A p m c _ HW.out (by simp) hm hc (by omega) ro h_ro).mono ?_
  rintro e w42 ⟨A18, c18, rfl, hc18, HN⟩
  have HW := Lib.hid HN
  clear HN
  go_wp2_with fail
  have HW := Lib.hid (HW.out.lit #[.int .u8 x.n, .int .u8 1] [x, 1] rfl)
  refine (mulW S A18 (some ⟨w42.heap.size, 0, none⟩) ro [x, 1] ro.length 2 c18 2 _ HW.out (by simp) (by simp) rfl rfl hc18 (by decide) (by omega) (by decide) r2 e_r).mono ?_
  rintro e w60 ⟨A19, c19, rfl, hc19, HN⟩
  have HW := Lib.hid HN
  clear HN
  go_wp2_with fail
  refine (sameW A17 A19 r2 r2 r2.length r2.length c17 c19 _ HW.out (by simp) (by simp) rfl rfl true (by simp)).mono ?_
  rintro e w61 ⟨rfl, rfl⟩
  go_wp2_with (go_at_call 12; (with_reducible refine (works_calls S _).mono ?_); rintro e wz ⟨rfl, HZ⟩)
  go_ret
  exact ⟨rfl, (HW.out.below HZ).bel⟩
theorem walk (S : Poly.Spec) (w : World) (A0 : Option Addr) (l0 : List Nat) (c0 : Nat) (hb0 : Bytes w A0 l0) (hc0 : l0.length ≤ c0) (hm0 : c0 ≤ 9223372036854775807) (A1 : Option Addr) (l1 : List Nat) (c1 : Nat) (hb1 : Bytes w A1 l1) (hc1 : l1.length ≤ c1) (hm1 : c1 ≤ 9223372036854775807) (A2 : Option Addr) (l2 : List Nat) (c2 : Nat) (hb2 : Bytes w A2 l2) (hc2 : l2.length ≤ c2) (hm2 : c2 ≤ 9223372036854775807) (n3 : Nat) (hn3 : n3 < 256) :
    Calls Try.prog 9 #[.slice A0 l0.length c0, .slice A1 l1.length c1, .slice A2 l2.length c2, .int .u8 (n3 : Nat)] w fun e w' => e = .returned (.bool true) ∧ Below w.heap.size w w' := by
  obtain ⟨p0, rfl⟩ := of_bytes l0 hb0.lt
  obtain ⟨p1, rfl⟩ := of_bytes l1 hb1.lt
  obtain ⟨p2, rfl⟩ := of_bytes l2 hb2.lt
  obtain ⟨x3, rfl⟩ := of_byte n3 hn3
  exact core S w A0 p0 _ c0 A1 p1 _ c1 A2 p2 _ c2 x3 (bs_length p0).symm hb0 hc0 (by omega) (bs_length p1).symm hb1 hc1 (by omega) (bs_length p2).symm hb2 hc2 (by omega)
end Go.Proofs.Ytkchofhdhkgbnaa.polyGroups
