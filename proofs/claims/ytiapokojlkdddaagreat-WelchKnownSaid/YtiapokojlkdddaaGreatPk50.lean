/- Of the program and its document, joined: WelchMendsWalk. -/
import Derived.Test.YtiapokojlkdddaaGreatPk46
/- The walk of WelchMends. -/
namespace Go.Proofs.YtiapokojlkdddaaGreat.welchMends
open Go.RowKit Go.Shelf F8 GF Poly Rd Wl
attribute [local go_sem] Oper.semAt_some

theorem wwordP {w0 w : World} {g b : Nat} {A : Option Addr} {xs : List F8} {n c k : Nat} {ls : List (Option Addr × List F8)} (T : Wl.Spec) (h : R w0 g b A xs n c k ls w) (P : Option Addr) (pl : List Int) (m d : Nat) (hl : pl.length = m) (hr : Row w P (zs pl)) (hm : m ≤ 1000) (B : Option Addr) (q : List F8) (o e : Nat) (hB : (B, q) ∈ ls) (ho : q.length = o) (he : o ≤ e) (ho2 : o ≤ 1000) (t : Int) (ht : -9223372036854775808 ≤ t) (ht2 : t < 9223372036854775808) (r : List F8) (wl : List Int) (z : Int) (hd : WIs xs k pl q t r wl z) (v : List F8) (hv : wordOf xs r z = v) :
    Calls Tryz.prog 14 #[.pointer (some ⟨b, 0, none⟩), .slice P m d, .slice B o e, .int .i64 t] w fun e w' => MoreP w0 g b A xs n c k ls v z w e w' :=
  (T.wordP h.cd P pl m d hl hr hm B q o e ho (h.kw.bytes hB) he ho2 (h.kw.far hB) t ht ht2).mono fun e w' ⟨r', wl', z', hx, hy⟩ => by
    obtain ⟨rfl, rfl, rfl⟩ := hx.only h.cd.nd hd
    rw [hv] at hy
    obtain ⟨B, d, h1, h2, h3, h4, h5⟩ := hy
    exact ⟨B, d, h1, h2, h3, h.past h4 h5, h5⟩
set_option maxRecDepth 100000 in
set_option maxHeartbeats 8000000 in
theorem core (S : Poly.Spec) (T : Wl.Spec) (w : World) (n0 n1 : Nat) (h0 : n0 < 256) (h1 : n1 < 256) (B : Option Addr) (q : List F8) (o d : Nat) (bit : Nat) (P1 : Option Addr) (p1 : List F8) (o1 d1 : Nat) (P2 : Option Addr) (p2 : List F8) (o2 d2 : Nat) (ho : q.length = o) (hbq : Bytes w B (bs q)) (ho1 : p1.length = o1) (hb1 : Bytes w P1 (bs p1)) (ho2 : p2.length = o2) (hb2 : Bytes w P2 (bs p2)) (hm2 : o2 ≤ 9223372036854775807) (hm1 : o1 ≤ 9223372036854775807) :
    Calls Tryz.prog 15 #[.int .u8 (n0 : Nat), .int .u8 (n1 : Nat), .slice B o d, .int .u64 (bit : Nat), .slice P1 o1 d1, .slice P2 o2 d2] w fun e w' => e = .returned (.bool true) ∧ Below w.heap.size w w' := by
  obtain ⟨N, hN⟩ : ∃ N : Nat, 1 + n0 % 20 = N := ⟨_, rfl⟩
  obtain ⟨K, hK⟩ : ∃ K : Nat, 1 + n1 % 20 = K := ⟨_, rfl⟩
  have eN : (1 : Int) + (n0 : Int) % 20 = (N : Int) := by omega
  have eK : (1 : Int) + (n1 : Int) % 20 = (K : Int) := by omega
  have hN20 : N ≤ 20 := by omega
  have hK20 : K ≤ 20 := by omega
  have hK1 : 1 ≤ K := by omega
  have HB := Lib.hid hbq
  have HB1 := Lib.hid hb1
  have HB2 := Lib.hid hb2
  have HO := Lib.hid ho
  have HO1 := Lib.hid ho1
  have HO2 := Lib.hid ho2
  clear hbq ho hN hK ho1 ho2 hb1 hb2
  go_enter Tryz.func15, Tryz.ntmps15
  go_wp2_with fail
  refine (reed_calls N K (by omega) hK1 w).mono ?_
  clear eN eK h0 h1
  rintro e w1 hKR
  rcases hKR.start with ⟨hkn, b, A, c, rfl, -, -, HN⟩ | ⟨-, rfl, HBz⟩
  rotate_left
  · clear hKR
    go_wp2_with (go_at_call 19; (with_reducible refine (works_calls T _).mono ?_); rintro e wz ⟨rfl, HZ⟩)
    go_ret
    exact ⟨rfl, HBz.trans (HZ.mono HBz.size)⟩
  have HR := Lib.hid (((HN.arg HB2.out).arg HB1.out).arg HB.out)
  clear hKR HN
  by_cases h3 : 10 < o1
  · go_wp2_with (go_at_call 19; (with_reducible refine (works_calls T _).mono ?_); rintro e wz ⟨rfl, HZ⟩)
    go_ret
    exact ⟨rfl, (HR.out.kw.below HZ).bel⟩
  have h3' : ¬ ((10 : Int) < (o1 : Int)) := by omega
  have h13 : o1 ≤ 10 := by omega
  clear h3
  -- m := Full(msg, c.K())
  go_wp2_with fail
  refine (k_calls HR.out.cd).mono ?_
  rintro e w2 ⟨rfl, rfl⟩
  go_wp2_with fail
  refine (kfull_calls B q o d K w1 HO.out (HR.out.kw.bytes (by simp)) (by omega)).mono ?_
  rintro e w2 ⟨A2, c2, rfl, hc2, hO2, hB2⟩
  obtain ⟨m, hm⟩ : ∃ m, full q K = m := ⟨_, rfl⟩
  have hml : m.length = K := by rw [← hm, full_length]
  rw [hm] at hO2
  have HR2 := Lib.hid (HR.out.made hml hO2 hB2)
  have HML := Lib.hid hml
  clear hO2 hB2 hm hml HR
  -- w, e := c.Encode(m)
  go_wp2_with fail
  obtain ⟨wd, hwd⟩ : ∃ wd, word m (pts N) = wd := ⟨_, rfl⟩
  have hwl : wd.length = N := by rw [← hwd, word_length, pts_length]
  have HWD := Lib.hid hwd
  have HWL := Lib.hid hwl
  have hen : encR (pts N) K m = (wd, 0) := by rw [← hwd]; exact if_pos HML.out
  refine (encodeW S HR2.out A2 m K c2 (by simp) HML.out hc2 (by omega) wd 0 hen).mono ?_
  rintro e w3 ⟨A3, c3, rfl, hc3, HN⟩
  have HR3 := Lib.hid HN
  rw [HWL.out] at hc3 ⊢
  clear hwd hwl hen HN HR2
  -- places := Some(bits, len(w), len(w))
  go_wp2_with fail
  refine (somer_calls bit N N (by omega) (by omega) w3).mono ?_
  rintro e w4 ⟨l, A4, c4, hok, hpw, hlm, rfl, hc4, hO4, hB4⟩
  obtain ⟨L, hL⟩ : ∃ L, l.length = L := ⟨_, rfl⟩
  rw [hL] at hlm hc4 hO4 ⊢
  have HL := Lib.hid hL
  have HOK : Hid (OkP (pts N).length l) := Lib.hid (by rw [pts_length]; exact hok)
  have HPW := Lib.hid hpw
  have HR4 := Lib.hid (HR3.out.below hB4)
  have HRow4 := Lib.hid (own_row hO4)
  have hz4 := HR4.out.kw.glt
  have HO4p := Lib.hid hO4
  have hz3 := HR3.out.kw.glt
  clear hL hok hpw hO4 hB4 HR3
  go_wp2_with fail
  refine (k_calls HR4.out.cd).mono ?_
  rintro e w5 ⟨rfl, rfl⟩
  by_cases hLK : L < K
  · have hLK2 : (L : Int) < (K : Int) := by omega
    go_wp2_with fail
    refine (k_calls HR4.out.cd).mono ?_
    rintro e w5 ⟨rfl, rfl⟩
    go_wp2_with (go_at_call 19; (with_reducible refine (works_calls T _).mono ?_); rintro e wz ⟨rfl, HZ⟩)
    go_ret
    exact ⟨rfl, (HR4.out.kw.below HZ).bel⟩
  have hKL : K ≤ L := by omega
  have hLK2 : decide ((L : Int) < (K : Int)) = false := by simp; omega
  have hLK3 : decide (L < K) = false := by simp; omega
  obtain ⟨t, ht1, ht2⟩ : ∃ t : Nat, K + 2 * t ≤ L ∧ L < K + 2 * (t + 1) := ⟨(L - K) / 2, by omega, by omega⟩
  have htd : ((L : Int) - (K : Int)).tdiv 2 = (t : Int) := by rw [Int.tdiv_eq_ediv_of_nonneg (by omega)]; omega
  have htd2 : ((L : Int) - (K : Int)) / 2 = (t : Int) := by omega
  clear hLK
  go_wp2_with fail
  refine (k_calls HR4.out.cd).mono ?_
  rintro e w5 ⟨rfl, rfl⟩
  go_wp2_with fail
  clear htd htd2
  go_loopw [19, 21] (fun ysl i wr => ∃ j : Nat, j ≤ L ∧ i = .int .i64 j ∧ Hid (Own wr w4.heap.size 5 ysl (bv (bs (ptsAt wd (l.take j))))) ∧ Hid (Below w4.heap.size w4 wr)) (fun _ i _ => L - (intOf i).toNat)
  case atStart => exact ⟨0, by omega, rfl, Lib.hid (Own.nil _ _ _), Lib.hid (Below.refl _ _)⟩
  case round =>
    obtain ⟨j, hj, rfl, HY, HV⟩ := hrel
    have hsz := HV.out.size
    by_cases hjL : j < L
    · have hjl : j < l.length := by rw [HL.out]; exact hjL
      obtain ⟨bp, op, rfl, hcp⟩ := zs_at (HRow4.out.below HV.out) hjl
      have hin := HOK.out.1 l[j] (List.getElem_mem hjl)
      have HSn := Lib.hid (ptsAt_snoc (p := wd) hjl)
      obtain ⟨xz, hxz⟩ : ∃ xz, l[j] = xz := ⟨_, rfl⟩
      rw [pts_length, hxz] at hin
      rw [hxz] at hcp HSn
      obtain ⟨x, rfl⟩ : ∃ x : Nat, xz = (x : Int) := ⟨xz.toNat, by omega⟩
      have hxN : (x : Int) < (N : Int) := by omega
      have hbw := (HR4.out.below HV.out).kw.bytes (A := A3) (p := wd) (by simp)
      obtain ⟨bw, ow, rfl⟩ := where_ hbw (by rw [HWL.out]; omega)
      have hcw := cellAt hbw x (by rw [HWL.out]; omega)
      obtain ⟨yv, hyv⟩ : ∃ yv, coef wd x = yv := ⟨_, rfl⟩
      rw [Int.toNat_natCast, hyv] at HSn
      rw [hyv] at hcw
      have HYL : Hid ((bv (bs (ptsAt wd (l.take j)))).length ≤ 20) := Lib.hid (by rw [bvs_length, ptsAt_length, List.length_take]; omega)
      clear hjl hin hxz hbw hyv
      go_wp2_with (at_builtin; refine wpList_app _ rfl _ _ _ rfl w4.heap.size 5 _ 1 Tryz.underlying22 info_u8 rfl (by omega) _ _ rfl (HY.out.alloc _) (some ⟨wr.heap.size, 0, none⟩) 1 1 (bv [yv.n]) rfl rfl (Row.new _ _ _ _) (bv_one _) (by have := HYL.out; omega) (by simp; omega) ?_; rintro v3 w6 hown hg6 -)
      rw [← HSn.out] at hown
      have HY6 := Lib.hid hown
      have HV6 := Lib.hid ((HV.out.alloc hsz (.cells #[.int .u8 (yv.n : Nat)] 5)).trans ((HY.out.alloc _).grew (by simp; omega) hg6))
      clear hown hg6
      go_roundw
      case rel => exact ⟨j + 1, by omega, by go_num, HY6, HV6⟩
      case measure => simp [intOf]; omega
    · obtain rfl : L = j := by omega
      rw [List.take_of_length_le (by rw [HL.out]; exact Nat.le_refl _)] at HY
      obtain ⟨y0, hy0⟩ : ∃ y0, ptsAt wd l = y0 := ⟨_, rfl⟩
      have hy0l : y0.length = L := by rw [← hy0, ptsAt_length, HL.out]
      rw [hy0] at HY
      obtain ⟨A7, c7, rfl, hc7⟩ := Own.shape HY.out
      rw [hy0l] at HY hc7 ⊢
      obtain ⟨gt, ct, e1, hgt, hgt2, hct⟩ := HY.out.form1 (by rw [bvs_length, hy0l]; omega)
      simp only [Value.slice.injEq] at e1
      obtain ⟨rfl, -, rfl⟩ := e1
      have HYL := Lib.hid hy0l
      have HW0 : Hid (word m (ptsAt (pts N) l) = y0) := Lib.hid (by rw [← ptsAt_word m HOK.out, HWD.out, hy0])
      obtain ⟨w5, hw5⟩ : ∃ w5, wr = w5 := ⟨_, rfl⟩
      rw [hw5] at HY HV hsz hgt2 ⊢
      have HBV : Hid ((bv (bs y0)).length = L) := Lib.hid (by rw [bvs_length, hy0l])
      clear hw5 hy0 hy0l hj hjL
      go_wp2_with (at_builtin; refine wpList_app _ rfl _ _ _ rfl w5.heap.size 5 _ 1 Tryz.underlying22 info_u8 rfl (by omega) _ [] rfl (Own.nil _ _ _) (some ⟨gt, 0, none⟩) L c7 (bv (bs y0)) rfl HBV.out (Own.bytes HY.out).row (bv_one _) (by simp; omega) (Nat.le_refl _) ?_; rintro v2 w6 hown hg6 -)
      rw [List.nil_append] at hown
      have hB6 := (Own.nil w5 w5.heap.size 5).grew (Nat.le_refl _) hg6
      have HY6 := Lib.hid (HY.out.below hB6)
      have HV6 := Lib.hid (HV.out.trans (hB6.mono hsz))
      have hs56 := hB6.size
      obtain ⟨A8, c8, rfl, hc8⟩ := Own.shape hown
      rw [HYL.out] at hown hc8 ⊢
      have hne8 : (Value.slice A8 L c8).ownBlock ≠ some gt := by
        obtain ⟨-, -, -, -, hlt⟩ := hown.form
        intro e
        have := (hlt _ e).1
        omega
      have HWas := Lib.hid hown
      have HNE := Lib.hid hne8
      clear hown hg6 hB6 hne8 HY HV HBV
      go_wp2_with fail
      go_loopw [22] (fun i wr => ∃ (j : Nat) (Y : List F8), j ≤ o1 ∧ j ≤ t ∧ i = .int .i64 j ∧ Hid (Y.length = L) ∧ Hid (Wl.wr m (ptsAt (pts N) l) Y ≤ j) ∧ Hid (Own wr w4.heap.size 5 (.slice (some ⟨gt, 0, none⟩) L c7) (bv (bs Y))) ∧ Hid (Own wr w5.heap.size 5 (.slice A8 L c8) (bv (bs y0))) ∧ Hid (Below w4.heap.size w4 wr)) (fun i _ => o1 - (intOf i).toNat)
      case atStart => exact ⟨0, y0, by omega, by omega, rfl, HYL, Lib.hid (Nat.le_of_eq ((wr_zero (by rw [ptsAt_length, HL.out, HYL.out])).2 HW0.out)), HY6, HWas, HV6⟩
      case round =>
        clear HY6 HWas HV6
        obtain ⟨j, Y, hj, hjt, rfl, HYl, HCn, HY, HWas, HV⟩ := hrel
        have hL0 : ((L : Int) == 0) = false := by simp; omega
        rcases (by omega : (j < o1 ∧ j < t ∧ j < o2) ∨ (j < o1 ∧ j < t ∧ ¬ j < o2) ∨ (j < o1 ∧ ¬ j < t) ∨ ¬ j < o1) with ⟨hj1, hj2, hj3⟩ | ⟨hj1, hj2, hj3⟩ | ⟨hj1, hj2⟩ | hj1
        · have hbP1 := (HR4.out.below HV.out).kw.bytes (A := P1) (p := p1) (by simp)
          have hbP2 := (HR4.out.below HV.out).kw.bytes (A := P2) (p := p2) (by simp)
          obtain ⟨b1, f1, rfl⟩ := where_ hbP1 (by rw [HO1.out]; omega)
          obtain ⟨b2, f2, rfl⟩ := where_ hbP2 (by rw [HO2.out]; omega)
          have hc1 := cellAt hbP1 j (by rw [HO1.out]; exact hj1)
          have hc2' := cellAt hbP2 j (by rw [HO2.out]; exact hj3)
          obtain ⟨a, ha⟩ : ∃ a, coef p1 j = a := ⟨_, rfl⟩
          obtain ⟨y, hy⟩ : ∃ y, coef p2 j = y := ⟨_, rfl⟩
          rw [ha] at hc1
          rw [hy] at hc2'
          have ha256 := a.h
          obtain ⟨x, hx⟩ : ∃ x : Nat, a.n % L = x := ⟨_, rfl⟩
          have hxL : x < L := by rw [← hx]; exact Nat.mod_lt _ (by omega)
          have ex : (a.n : Int) % (L : Int) = (x : Int) := by rw [← hx]; simp
          have ex2 : (a.n : Int).tmod (L : Int) = (x : Int) := by rw [Int.tmod_eq_emod_of_nonneg (by omega)]; exact ex
          have hxL2 : (x : Int) < (L : Int) := by omega
          have hcY := cellAt (Own.bytes HY.out) x (by rw [HYl.out]; exact hxL)
          rw [Nat.zero_add] at hcY
          obtain ⟨xv, hxv⟩ : ∃ xv, coef Y x = xv := ⟨_, rfl⟩
          rw [hxv] at hcY
          have hfr := HY.out.frozenAt (by rw [bvs_length, HYl.out]) x
          have HY2 := HY.out.set_ (by rw [bvs_length, HYl.out]) x (.int .u8 ((y.n : Nat) : Int))
          rw [bvs_put] at HY2
          have HYl2 : Hid ((Y.set x y).length = L) := Lib.hid (by rw [List.length_set]; exact HYl.out)
          have HCn2 : Hid (Wl.wr m (ptsAt (pts N) l) (Y.set x y) ≤ j + 1) := Lib.hid (by
            have h1 := wr_set m y (ptsAt (pts N) l) Y x
            have h2 := HCn.out
            omega)
          have HYd := Lib.hid HY2
          have HWas2 := Lib.hid (HWas.out.far (p := ⟨gt, x, none⟩) HNE.out (.int .u8 ((y.n : Nat) : Int)))
          have HV2 := Lib.hid (HV.out.setCell (p := ⟨gt, x, none⟩) hgt (.int .u8 ((y.n : Nat) : Int)))
          clear hbP1 hbP2 ha hy hx hxv HY2
          go_wp2
          go_region
          have hD := (Below.refl (wr.setCell ⟨gt, x, none⟩ (.int .u8 ((y.n : Nat) : Int))).heap.size (wr.setCell ⟨gt, x, none⟩ (.int .u8 ((y.n : Nat) : Int)))).drew
          have HYe := Lib.hid (HYd.out.below hD)
          have HWase := Lib.hid (HWas2.out.below hD)
          have HVe := Lib.hid HV2.out.drew
          clear hD HYd HWas2 HV2
          generalize (wr.setCell ⟨gt, x, none⟩ (.int .u8 ((y.n : Nat) : Int))).drew = w8 at *
          go_wp2
          go_roundw
          case rel => exact ⟨j + 1, Y.set x y, by omega, by omega, by go_num, HYl2, HCn2, HYe, HWase, HVe⟩
          case measure => simp [intOf]; omega
        all_goals
          obtain ⟨w7, hw7⟩ : ∃ w7, wr = w7 := ⟨_, rfl⟩
          rw [hw7] at HY HWas HV ⊢
          have HCt : Hid (Wl.wr m (ptsAt (pts N) l) Y ≤ t) := Lib.hid (Nat.le_trans HCn.out hjt)
          have hsz7 := HV.out.size
          have HR7 := Lib.hid ((HR4.out.below HV.out).own (B := some ⟨gt, 0, none⟩) (p := Y) (c' := c7) (by rw [HYl.out]; exact HY.out) hz4)
          have HBw := Lib.hid (Own.bytes HWas.out)
          have HRw7 := Lib.hid (HRow4.out.below HV.out)
          have HOp7 := Lib.hid (HO4p.out.below HV.out)
          have hz7 : w.heap.size < w7.heap.size := by omega
          clear hw7 HCn hj hjt HY HWas HV hL0 hs56 hgt hgt2
          go_wp2_with fail
          go_loopw [23, 24] (fun oz i wr => ∃ s : Nat, s ≤ L ∧ i = .int .i64 s ∧ Hid (Own wr w7.heap.size 3 oz (zs (others (l.take s) (y0.take s) (Y.take s)))) ∧ Hid (Below w7.heap.size w7 wr)) (fun _ i _ => L - (intOf i).toNat)
          case atStart => exact ⟨0, by omega, rfl, Lib.hid (Own.nil _ _ _), Lib.hid (Below.refl _ _)⟩
          case round =>
            obtain ⟨s, hs, rfl, HOz, HV⟩ := hrel
            have hsz8 := HV.out.size
            by_cases hsL : s < L
            · have hsl : s < l.length := by rw [HL.out]; exact hsL
              have hsY : s < Y.length := by rw [HYl.out]; exact hsL
              have hs0 : s < y0.length := by rw [HYL.out]; exact hsL
              have hbY := (HR7.out.below HV.out).kw.bytes (A := some ⟨gt, 0, none⟩) (p := Y) (by simp)
              have hcY := cellAt hbY s hsY
              rw [Nat.zero_add] at hcY
              have hb8 := HBw.out.below HV.out
              obtain ⟨b8, f8, rfl⟩ := where_ hb8 (by omega)
              have hc0 := cellAt hb8 s hs0
              obtain ⟨bp, op, rfl, hcp⟩ := zs_at (HRw7.out.below HV.out) hsl
              obtain ⟨zp, hzp⟩ : ∃ zp, l[s] = zp := ⟨_, rfl⟩
              obtain ⟨yv, hyv⟩ : ∃ yv, coef Y s = yv := ⟨_, rfl⟩
              obtain ⟨wv, hwv⟩ : ∃ wv, coef y0 s = wv := ⟨_, rfl⟩
              rw [hzp] at hcp
              rw [hyv] at hcY
              rw [hwv] at hc0
              have HOt : Hid (others (l.take (s + 1)) (y0.take (s + 1)) (Y.take (s + 1)) = others (l.take s) (y0.take s) (Y.take s) ++ if wv = yv then [] else [zp]) := Lib.hid (by
                rw [take_succ' l hsl, take_succ' y0 hs0, take_succ' Y hsY, others_snoc _ _ _ (by rw [List.length_take, List.length_take]; omega) (by rw [List.length_take, List.length_take]; omega), hzp, ← coef_of_lt hs0, ← coef_of_lt hsY, hwv, hyv])
              have HOl : Hid ((zs (others (l.take s) (y0.take s) (Y.take s))).length ≤ 20) := Lib.hid (by
                rw [zs_length]
                have := others_le (l.take s) (y0.take s) (Y.take s)
                rw [List.length_take] at this
                omega)
              clear hsl hsY hs0 hbY hb8 hzp hyv hwv
              by_cases hd' : wv = yv
              · have hne : ((yv.n : Int) != (wv.n : Int)) = false := by rw [hd']; simp
                have HOz2 : Hid (Own wr w7.heap.size 3 u23 (zs (others (l.take (s + 1)) (y0.take (s + 1)) (Y.take (s + 1))))) := Lib.hid (by rw [HOt.out, if_pos hd', List.append_nil]; exact HOz.out)
                clear hd'
                go_wp2
                go_region
                have hD := (Below.refl wr.heap.size wr).drew
                have HOz3 := Lib.hid (HOz2.out.below hD)
                have HV3 := Lib.hid HV.out.drew
                clear hD hcp hcY hc0
                generalize wr.drew = w9 at *
                go_wp2
                go_roundw
                case rel => exact ⟨s + 1, by omega, by go_num, HOz3, HV3⟩
                case measure => simp [intOf]; omega
              · have hne : ((yv.n : Int) != (wv.n : Int)) = true := by
                  have : ¬ wv.n = yv.n := fun e => hd' (F8.ext e)
                  simp; omega
                have HO3 : Hid (zs (others (l.take s) (y0.take s) (Y.take s)) ++ zs [zp] = zs (others (l.take (s + 1)) (y0.take (s + 1)) (Y.take (s + 1)))) := Lib.hid (by rw [HOt.out, if_neg hd', zs_append])
                clear hd'
                go_wp2
                go_region
                have hD := (Below.refl wr.heap.size wr).drew
                have HOz3 := Lib.hid (HOz.out.below hD)
                have HV3 := Lib.hid HV.out.drew
                have hsz9 : w7.heap.size ≤ wr.drew.heap.size := hsz8
                have hcp9 : wr.drew.cell? ⟨bp, op + s, none⟩ = some (.int .i64 zp) := hcp
                clear hD hcp hcY hc0
                generalize wr.drew = w9 at *
                go_wp2_with (at_builtin; refine wpList_app _ rfl _ _ _ rfl w7.heap.size 3 _ 8 Tryz.underlying23 info_i rfl (by omega) _ _ rfl (HOz3.out.alloc _) (some ⟨w9.heap.size, 0, none⟩) 1 1 (zs [zp]) rfl rfl (Row.new _ _ _ _) (zs_one _) (by have := HOl.out; omega) (by simp; omega) ?_; rintro v4 w10 hown hg10 -)
                rw [HO3.out] at hown
                have HOz4 := Lib.hid hown
                have HV4 := Lib.hid ((HV3.out.alloc hsz9 (.cells #[.int .i64 zp] 3)).trans ((HOz3.out.alloc _).grew (by simp; omega) hg10))
                clear hown hg10
                go_roundw
                case rel => exact ⟨s + 1, by omega, by go_num, HOz4, HV4⟩
                case measure => simp [intOf]; omega
            · obtain rfl : L = s := by omega
              rw [List.take_of_length_le (by rw [HL.out]; exact Nat.le_refl _), List.take_of_length_le (by rw [HYL.out]; exact Nat.le_refl _), List.take_of_length_le (by rw [HYl.out]; exact Nat.le_refl _)] at HOz
              obtain ⟨Z, hZ⟩ : ∃ Z, others l y0 Y = Z := ⟨_, rfl⟩
              obtain ⟨W, hW⟩ : ∃ W, Z.length = W := ⟨_, rfl⟩
              rw [hZ] at HOz
              obtain ⟨A9, c9, rfl, hc9⟩ := zshape HOz.out
              rw [hW] at HOz hc9 ⊢
              have hwr : wrong (pts N) m l Y = Z := by rw [wrong_others HOK.out HPW.out, HW0.out, hZ]
              have HWr : Hid (Wl.wr m (ptsAt (pts N) l) Y = W) := Lib.hid (by rw [← wrong_length HOK.out (by rw [HL.out, HYl.out]), hwr, hW])
              have hWt : W ≤ t := by rw [← HWr.out]; exact HCt.out
              have HX : Hid (∀ s : Nat, W ≤ s → s ≤ t → WIs (pts N) K l Y (s : Int) m Z 0) := Lib.hid (fun s h1 h2 => by
                rw [← hwr]
                exact wis_ok (by rw [HL.out, HYl.out]) HOK.out (by omega) (by rw [HL.out]; omega) HML.out (by rw [HWr.out]; omega))
              have HFew : Hid (WIs (pts N) K l Y ((t : Int) + 1) [] [] 70) := Lib.hid (wis_few (by rw [HL.out, HYl.out]) HOK.out (by omega) (by rw [HL.out]; omega))
              have HZl := Lib.hid hW
              have HR8 := Lib.hid (HR7.out.below HV.out)
              have HOp8 := Lib.hid (HOp7.out.below HV.out)
              obtain ⟨w8, hw8⟩ : ∃ w8, wr = w8 := ⟨_, rfl⟩
              rw [hw8] at HOz HV HR8 HOp8 hsz8 ⊢
              clear hw8 hwr hZ hW HV hs hsL HR7
              go_wp2_with fail
              go_loopw [25] (fun i wr => ∃ s : Nat, s ≤ t + 1 ∧ i = .int .i64 s ∧ Hid (R w w.heap.size b A (pts N) N c K [(some ⟨gt, 0, none⟩, Y), (A3, wd), (A2, m), (B, q), (P1, p1), (P2, p2)] wr) ∧ Hid (Own wr w7.heap.size 3 (.slice A9 W c9) (zs Z)) ∧ Hid (Own wr w3.heap.size 3 (.slice A4 L c4) (zs l))) (fun i _ => t + 1 - (intOf i).toNat)
              case atStart => exact ⟨0, by omega, rfl, HR8, HOz, HOp8⟩
              case round =>
                clear HR8 HOz HOp8
                obtain ⟨s, hs, rfl, HRs, HOs, HOp⟩ := hrel
                by_cases hst : s ≤ t
                · have hst2 : (s : Int) ≤ (t : Int) := by omega
                  by_cases hsW : W ≤ s
                  · have hsW2 : (W : Int) ≤ (s : Int) := by omega
                    have hsW3 : ¬ (s : Int) < (W : Int) := by omega
                    go_wp2_with fail
                    refine (wdecodeW' T HRs.out A4 l L c4 HL.out (own_row HOp.out) (by omega) (some ⟨gt, 0, none⟩) Y L c7 (by simp) HYl.out hc7 (by omega) (s : Int) (by omega) (by omega) m Z 0 (HX.out s hsW hst)).mono ?_
                    rintro e w9 ⟨B9, d9, C9, f9, rfl, hd9, hf9, hO9, HN, hP9⟩
                    have HR9 := Lib.hid HN
                    have HOs9 := Lib.hid (own_past HOs.out hz7 hP9)
                    have HOp9 := Lib.hid (own_past HOp.out hz3 hP9)
                    rw [HML.out] at hd9 ⊢
                    rw [HZl.out] at hf9 hO9 ⊢
                    have HZ9 := Lib.hid hO9
                    clear hO9 HN hP9 HRs HOs HOp
                    go_wp2_with fail
                    refine (sameW B9 A2 m m K K d9 c2 _ HR9.out.kw (by simp) (by simp) HML.out HML.out true (by simp)).mono ?_
                    rintro e w10 ⟨rfl, rfl⟩
                    go_wp2_with fail
                    refine (samez_calls C9 A9 Z Z W W f9 c9 _ HZl.out HZl.out (by omega) (own_row HZ9.out) (own_row HOs9.out) true (by simp)).mono ?_
                    rintro e w10 ⟨rfl, hB10⟩
                    have HR10 := Lib.hid ((HR9.out.below hB10).sub (ls' := [(some ⟨gt, 0, none⟩, Y), (A3, wd), (A2, m), (B, q), (P1, p1), (P2, p2)]) (fun x hx => List.mem_cons_of_mem _ hx))
                    have HOs10 := Lib.hid (HOs9.out.below hB10)
                    have HOp10 := Lib.hid (HOp9.out.below hB10)
                    clear hB10 HR9 HOs9 HOp9 HZ9
                    go_wp2
                    go_roundw
                    case rel => exact ⟨s + 1, by omega, by go_num, HR10, HOs10, HOp10⟩
                    case measure => simp [intOf]; omega
                  · have hsW2 : ¬ (W : Int) ≤ (s : Int) := by omega
                    have hsW3 : (s : Int) < (W : Int) := by omega
                    go_wp2_with fail
                    refine (wdecodeW T HRs.out A4 l L c4 HL.out (own_row HOp.out) (by omega) (some ⟨gt, 0, none⟩) Y L c7 (by simp) HYl.out hc7 (by omega) (s : Int) (by omega) (by omega)).mono ?_
                    rintro e w9 ⟨r, wl, z, hD, B9, d9, C9, f9, rfl, hd9, hf9, hO9, HN, hP9⟩
                    have HR9 := Lib.hid HN
                    have HR10 := Lib.hid (HN.sub (ls' := [(some ⟨gt, 0, none⟩, Y), (A3, wd), (A2, m), (B, q), (P1, p1), (P2, p2)]) (fun x hx => List.mem_cons_of_mem _ hx))
                    have HOs9 := Lib.hid (own_past HOs.out hz7 hP9)
                    have HOp9 := Lib.hid (own_past HOp.out hz3 hP9)
                    have HNot : Hid (z = 0 → decide (r = m) = false) := Lib.hid (fun hz => decide_eq_false (hD.not (by rw [HWr.out]; exact hsW3) hz))
                    clear hO9 HN hP9 HRs HOs HOp hD
                    by_cases hz : z = 0
                    · have hdec := HNot.out hz
                      subst hz
                      clear HNot
                      go_wp2_with fail
                      refine (sameW B9 A2 r m r.length K d9 c2 _ HR9.out.kw (by simp) (by simp) rfl HML.out false hdec).mono ?_
                      rintro e w10 ⟨rfl, rfl⟩
                      clear hdec
                      go_wp2
                      go_roundw
                      case rel => exact ⟨s + 1, by omega, by go_num, HR10, HOs9, HOp9⟩
                      case measure => simp [intOf]; omega
                    · have hz1 : ((z : Int) == 0) = false := by simpa using hz
                      have hz2 : ((z : Int) != 0) = true := by simpa using hz
                      clear HNot hz
                      go_wp2
                      go_roundw
                      case rel => exact ⟨s + 1, by omega, by go_num, HR10, HOs9, HOp9⟩
                      case measure => simp [intOf]; omega
                · have hst3 : (t : Int) < (s : Int) := by omega
                  have hst2 : ¬ (s : Int) ≤ (t : Int) := by omega
                  have hv : wordOf (pts N) m 0 = wd := by rw [wordOf, if_pos rfl]; exact HWD.out
                  go_wp2_with fail
                  refine (wwordP T HRs.out A4 l L c4 HL.out (own_row HOp.out) (by omega) (some ⟨gt, 0, none⟩) Y L c7 (by simp) HYl.out hc7 (by omega) (t : Int) (by omega) (by omega) m Z 0 (HX.out t hWt (Nat.le_refl _)) wd hv).mono ?_
                  rintro e w9 ⟨A10, c10, rfl, hc10, hO10, HN, hP9⟩
                  have HR9 := Lib.hid (HN.own hO10 HRs.out.kw.glt)
                  have HOp9 := Lib.hid (own_past HOp.out hz3 hP9)
                  rw [HWL.out] at hc10 ⊢
                  clear hv HN hO10 hP9 HRs HOs HOp
                  go_wp2_with fail
                  refine (wdecodeW' T HR9.out A4 l L c4 HL.out (own_row HOp9.out) (by omega) (some ⟨gt, 0, none⟩) Y L c7 (by simp) HYl.out hc7 (by omega) ((t : Int) + 1) (by omega) (by omega) [] [] 70 HFew.out).mono ?_
                  rintro e w10 ⟨B9, d9, C9, f9, rfl, hd9, hf9, hO9, HN, -⟩
                  have HR10 := Lib.hid HN
                  clear HN hO9 HR9 HOp9
                  go_wp2_with fail
                  refine (sameW A10 A3 wd wd N N c10 c3 _ HR10.out.kw (by simp) (by simp) HWL.out HWL.out true (by simp)).mono ?_
                  rintro e w11 ⟨rfl, rfl⟩
                  go_wp2_with (go_at_call 19; (with_reducible refine (works_calls T _).mono ?_); rintro e wz ⟨rfl, HZ⟩)
                  go_ret
                  exact ⟨rfl, (HR10.out.kw.below HZ).bel⟩
theorem walk (S : Poly.Spec) (T : Wl.Spec) (w : World) (n0 : Nat) (hn0 : n0 < 256) (n1 : Nat) (hn1 : n1 < 256) (A2 : Option Addr) (l2 : List Nat) (c2 : Nat) (hb2 : Bytes w A2 l2) (_hc2 : l2.length ≤ c2) (_hm2 : c2 ≤ 9223372036854775807) (n3 : Nat) (_hn3 : n3 < 18446744073709551616) (A4 : Option Addr) (l4 : List Nat) (c4 : Nat) (hb4 : Bytes w A4 l4) (hc4 : l4.length ≤ c4) (hm4 : c4 ≤ 9223372036854775807) (A5 : Option Addr) (l5 : List Nat) (c5 : Nat) (hb5 : Bytes w A5 l5) (hc5 : l5.length ≤ c5) (hm5 : c5 ≤ 9223372036854775807) :
    Calls Tryz.prog 15 #[.int .u8 (n0 : Nat), .int .u8 (n1 : Nat), .slice A2 l2.length c2, .int .u64 (n3 : Nat), .slice A4 l4.length c4, .slice A5 l5.length c5] w fun e w' => e = .returned (.bool true) ∧ Below w.heap.size w w' := by
  obtain ⟨p2, rfl⟩ := of_bytes l2 hb2.lt
  obtain ⟨p4, rfl⟩ := of_bytes l4 hb4.lt
  obtain ⟨p5, rfl⟩ := of_bytes l5 hb5.lt
  exact core S T w n0 n1 hn0 hn1 A2 p2 _ c2 n3 A4 p4 _ c4 A5 p5 _ c5 (bs_length p2).symm hb2 (bs_length p4).symm hb4 (bs_length p5).symm hb5 (by omega) (by omega)
end Go.Proofs.YtiapokojlkdddaaGreat.welchMends
