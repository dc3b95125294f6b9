/- The walk of ReedApart. -/
import Derived.Test.YtjpbdbgihakpmaaRdLaw2
import Derived.Deep.RegionWith
import Derived.BigQuiet
namespace Go.Proofs.Ytjpbdbgihakpmaa.reedApart
open Go.RowKit F8 GF Poly Rd

theorem padd_len {a b : List F8} (h : a.length = b.length) : (padd a b).length = a.length := by
  induction a generalizing b with
  | nil => cases b with
    | nil => rfl
    | cons => simp at h
  | cons x a ih => cases b with
    | nil => simp at h
    | cons y b => simp [padd, ih (by simpa using h)]
set_option maxRecDepth 100000 in
set_option maxHeartbeats 8000000 in
theorem core (S : Poly.Spec) (w : World) (n0 n1 : Nat) (h0 : n0 < 256) (h1 : n1 < 256) (B : Option Addr) (q : List F8) (o d : Nat) (C : Option Addr) (r : List F8) (o' d' : Nat) (ho : q.length = o) (hbq : Bytes w B (bs q)) (ho' : r.length = o') (hbr : Bytes w C (bs r)) :
    Calls Try.prog 8 #[.int .u8 (n0 : Nat), .int .u8 (n1 : Nat), .slice B o d, .slice C o' d'] w fun e w' => e = .returned (.bool true) ∧ Below w.heap.size w w' := by
  obtain ⟨N, hN⟩ : ∃ N : Nat, 1 + n0 % 30 = N := ⟨_, rfl⟩
  obtain ⟨K, hK⟩ : ∃ K : Nat, 1 + n1 % 30 = K := ⟨_, rfl⟩
  have eN : (1 : Int) + (n0 : Int) % 30 = (N : Int) := by omega
  have eK : (1 : Int) + (n1 : Int) % 30 = (K : Int) := by omega
  have hN30 : N ≤ 30 := by omega
  have hK30 : K ≤ 30 := by omega
  have hK1 : 1 ≤ K := by omega
  have HB := Lib.hid hbq
  have HO := Lib.hid ho
  have HC := Lib.hid hbr
  have HO' := Lib.hid ho'
  clear hbq ho hN hK hbr ho'
  go_enter Try.func8, Try.ntmps8
  go_wp2_with fail
  refine (reed_calls N K (by omega) hK1 w).mono ?_
  clear eN eK h0 h1
  rintro e w1 hKR
  rcases hKR.start with ⟨hkn, b, A, c, rfl, -, -, HN⟩ | ⟨-, rfl, HBz⟩
  rotate_left
  · clear hKR
    go_wp2_with (go_at_call 24; (with_reducible refine (works_calls S _).mono ?_); rintro e wz ⟨rfl, HZ⟩)
    go_ret
    exact ⟨rfl, HBz.trans (HZ.mono HBz.size)⟩
  have HR := Lib.hid ((HN.arg HB.out).arg HC.out)
  clear hKR HN
  go_wp2_with fail
  refine (k_calls HR.out.cd).mono ?_
  rintro e w2 ⟨rfl, rfl⟩
  go_wp2_with fail
  refine (kfull_calls B q o d K w1 HO.out (HR.out.kw.bytes (by simp)) (by omega)).mono ?_
  rintro e w2 ⟨A2, c2, rfl, hc2, hO2, hB2⟩
  obtain ⟨m, hm⟩ : ∃ m, full q K = m := ⟨_, rfl⟩
  have hml : m.length = K := by rw [← hm, full_length]
  rw [hm] at hO2
  have HR2 := Lib.hid (HR.out.made hml hO2 hB2)
  have HML := Lib.hid hml
  clear hO2 hB2 hm hml HR
  go_wp2_with fail
  refine (k_calls HR2.out.cd).mono ?_
  rintro e w3 ⟨rfl, rfl⟩
  go_wp2_with fail
  refine (kfull_calls C r o' d' K w2 HO'.out (HR2.out.kw.bytes (by simp)) (by omega)).mono ?_
  rintro e w3 ⟨A3, c3, rfl, hc3, hO3, hB3⟩
  obtain ⟨m', hm'⟩ : ∃ m', full r K = m' := ⟨_, rfl⟩
  have hml' : m'.length = K := by rw [← hm', full_length]
  rw [hm'] at hO3
  have HR3 := Lib.hid (HR2.out.made hml' hO3 hB3)
  have HML' := Lib.hid hml'
  clear hO3 hB3 hm' hml' HR2
  go_wp2_with fail
  obtain ⟨u, hu⟩ : ∃ u, word m (pts N) = u := ⟨_, rfl⟩
  have hul : u.length = N := by rw [← hu, word_length, pts_length]
  have Hu := Lib.hid hu
  have HLu := Lib.hid hul
  have hen : encR (pts N) K m = (u, 0) := by rw [← hu]; exact if_pos HML.out
  refine (encodeW S HR3.out A2 m K c2 (by simp) HML.out hc2 (by omega) u 0 hen).mono ?_
  rintro e w4 ⟨Au, cu, rfl, hcu, HN⟩
  have HR4 := Lib.hid HN
  rw [HLu.out] at hcu ⊢
  clear hu hul hen HN HR3
  go_wp2_with fail
  obtain ⟨v, hu⟩ : ∃ v, word m' (pts N) = v := ⟨_, rfl⟩
  have hul : v.length = N := by rw [← hu, word_length, pts_length]
  have Hv := Lib.hid hu
  have HLv := Lib.hid hul
  have hen : encR (pts N) K m' = (v, 0) := by rw [← hu]; exact if_pos HML'.out
  refine (encodeW S HR4.out A3 m' K c3 (by simp) HML'.out hc3 (by omega) v 0 hen).mono ?_
  rintro e w5 ⟨Av, cv, rfl, hcv, HN⟩
  have HR5 := Lib.hid HN
  rw [HLv.out] at hcv ⊢
  clear hu hul hen HN HR4
  obtain ⟨sm, hsm⟩ : ∃ sm, padd m m' = sm := ⟨_, rfl⟩
  have hsl : sm.length = K := by rw [← hsm, padd_len (by rw [HML.out, HML'.out]), HML.out]
  have HSC : Hid (∀ i, coef m i + coef m' i = coef sm i) := Lib.hid (fun i => by rw [← hsm, coef_padd])
  have HSL := Lib.hid hsl
  have HSM := Lib.hid hsm
  have hz5 := HR5.out.kw.glt
  clear hsm hsl
  go_wp2_with fail
  go_loopw [16, 17] (fun out i wr => ∃ t : Nat, t ≤ K ∧ i = .int .i64 t ∧ Hid (Own wr w5.heap.size 5 out (bv (bs (sm.take t)))) ∧ Hid (Below w5.heap.size w5 wr)) (fun _ i _ => K - (intOf i).toNat)
  case atStart => exact ⟨0, by omega, rfl, Lib.hid (Own.nil _ _ _), Lib.hid (Below.refl _ _)⟩
  case round =>
    obtain ⟨t, ht, rfl, HOw, HW⟩ := hrel
    by_cases htK : t < K
    · have hba := (HR5.out.below HW.out).kw.bytes (A := A2) (p := m) (by simp)
      have hbb := (HR5.out.below HW.out).kw.bytes (A := A3) (p := m') (by simp)
      obtain ⟨g1, o1, rfl⟩ := where_ hba (by rw [HML.out]; omega)
      obtain ⟨g2, o2, rfl⟩ := where_ hbb (by rw [HML'.out]; omega)
      have d1 := cellAt hba t (by rw [HML.out]; omega)
      have d2 := cellAt hbb t (by rw [HML'.out]; omega)
      have HT : Hid (bv (bs (sm.take t)) ++ bv [(coef m t + coef m' t).n] = bv (bs (sm.take (t + 1)))) := Lib.hid (by
        rw [take_succ' sm (by rw [HSL.out]; exact htK), ← coef_of_lt, HSC.out, bvs_snoc])
      have HL : Hid ((bv (bs (sm.take t))).length ≤ 30) := Lib.hid (by rw [bvs_length, List.length_take]; omega)
      obtain ⟨x, hx⟩ : ∃ x, coef m t = x := ⟨_, rfl⟩
      obtain ⟨y, hy⟩ : ∃ y, coef m' t = y := ⟨_, rfl⟩
      obtain ⟨z, hz⟩ : ∃ z, x + y = z := ⟨_, rfl⟩
      rw [hx] at d1 HT
      rw [hy] at d2 HT
      rw [hz] at HT
      have HZ := Lib.hid hz
      clear hba hbb hx hy hz
      have hs2 : (wr.alloc (.cells #[.int .u8 (z.n : Int)] 5)).drew.heap.size = wr.heap.size + 1 := by simp
      have hb3 : Below wr.heap.size wr (wr.alloc (.cells #[.int .u8 (z.n : Int)] 5)).drew := ((Below.refl _ wr).alloc (Nat.le_refl _) _).drew
      have HR2 := Lib.hid (HOw.out.below hb3)
      have HNr := Lib.hid (Row.new wr #[.int .u8 (z.n : Int)] 5 (0, 0))
      have Hb3 := Lib.hid hb3
      have hsz := HW.out.size
      clear hb3
      go_wp2_with fail
      go_region_law (first
        | (refine step_app _ (by rfl) (.tmp 60) (.tmp 70) _ (by rfl) w5.heap.size 5 _ 1 Try.underlying22 info_u8 rfl (by omega) u16 _ (by rfl) HR2.out (some ⟨wr.heap.size, 0, none⟩) 1 1 _ (by rfl) rfl HNr.out.drew (by simp [Value.oneCell']) (by have := HL.out; simp; omega) (by omega) ?_
           intro v1 w7 hown1 hgrow _
           have HW2 := Lib.hid (HW.out.trans ((Hb3.out.mono hsz).trans (HR2.out.grew (by omega) hgrow)))
           have HR3 := Lib.hid hown1
           clear hown1 hgrow)
        | (go_simp; go_at_call 40; (with_reducible refine (faddW x y z HZ.out _).mono ?_); rintro e w6 ⟨rfl, rfl⟩))
      all_goals
        go_wp2
        go_roundw
        case rel => exact ⟨t + 1, by omega, by go_num, by rw [← HT.out]; exact HR3, HW2⟩
        case measure => simp [intOf]; omega
    · obtain rfl : t = K := by omega
      obtain ⟨A6, c6, rfl, hc6⟩ := Own.shape HOw.out
      have htk : sm.take t = sm := List.take_of_length_le (by rw [HSL.out]; exact Nat.le_refl _)
      rw [htk, HSL.out] at HOw
      rw [htk, HSL.out] at hc6 ⊢
      have HR6 := Lib.hid ((HR5.out.below HW.out).own (p := sm) (by rw [HSL.out]; exact HOw.out) hz5)
      clear HOw HW htk HR5
      go_wp2_with fail
      obtain ⟨sw, hsw⟩ : ∃ sw, word sm (pts N) = sw := ⟨_, rfl⟩
      have hsl : sw.length = N := by rw [← hsw, word_length, pts_length]
      have HSW := Lib.hid hsw
      have HLsw := Lib.hid hsl
      have hen : encR (pts N) t sm = (sw, 0) := by rw [← hsw]; exact if_pos HSL.out
      refine (encodeW S HR6.out A6 sm t c6 (by simp) HSL.out hc6 (by omega) sw 0 hen).mono ?_
      rintro e w8 ⟨A8, c8, rfl, hc8, HN⟩
      have HR8 := Lib.hid HN
      rw [HLsw.out] at hc8 ⊢
      clear hsw hsl hen HN HR6
      go_wp2_with fail
      go_loopw [20, 21] (fun al i wr => ∃ s : Nat, s ≤ N ∧ i = .int .i64 s ∧ al = .int .i64 (alike m m' ((pts N).take s) : Nat) ∧ Hid (Below w8.heap.size w8 wr)) (fun _ i _ => N - (intOf i).toNat)
      case atStart => exact ⟨0, by omega, rfl, rfl, Lib.hid (Below.refl _ _)⟩
      case round =>
        obtain ⟨s, hs, rfl, rfl, HW⟩ := hrel
        have hal : alike m m' ((pts N).take s) ≤ 30 := by
          have h1 := List.length_filter_le (fun x => decide (eval m x = eval m' x)) ((pts N).take s)
          rw [List.length_take] at h1
          unfold alike
          omega
        by_cases hsN : s < N
        · have HRr := HR8.out.below HW.out
          have hba := HRr.kw.bytes (A := Au) (p := u) (by simp)
          have hbb := HRr.kw.bytes (A := Av) (p := v) (by simp)
          have hbc := HRr.kw.bytes (A := A8) (p := sw) (by simp)
          obtain ⟨g3, o3, rfl⟩ := where_ hba (by rw [HLu.out]; omega)
          obtain ⟨g4, o4, rfl⟩ := where_ hbb (by rw [HLv.out]; omega)
          obtain ⟨g5, o5, rfl⟩ := where_ hbc (by rw [HLsw.out]; omega)
          have d1 := cellAt hba s (by rw [HLu.out]; exact hsN)
          have d2 := cellAt hbb s (by rw [HLv.out]; exact hsN)
          have d3 := cellAt hbc s (by rw [HLsw.out]; exact hsN)
          have hpl : s < (pts N).length := by rw [pts_length]; exact hsN
          have e1 : coef u s = eval m (coef (pts N) s) := by rw [← Hu.out, word_get hpl]
          have e2 : coef v s = eval m' (coef (pts N) s) := by rw [← Hv.out, word_get hpl]
          have e3 : coef u s + coef v s = coef sw s := by rw [e1, e2, ← HSW.out, word_get hpl, ← HSM.out, eval_padd]
          have hsnoc : alike m m' ((pts N).take (s + 1)) = alike m m' ((pts N).take s) + if coef u s = coef v s then 1 else 0 := by
            rw [take_succ' _ hpl, ← coef_of_lt hpl, alike_snoc, e1, e2]
          obtain ⟨x, hx⟩ : ∃ x, coef u s = x := ⟨_, rfl⟩
          obtain ⟨y, hy⟩ : ∃ y, coef v s = y := ⟨_, rfl⟩
          obtain ⟨z, hz⟩ : ∃ z, coef sw s = z := ⟨_, rfl⟩
          obtain ⟨k, hk⟩ : ∃ k, alike m m' ((pts N).take s) = k := ⟨_, rfl⟩
          rw [hx, hy, hz] at e3
          rw [hx, hy, hk] at hsnoc
          rw [hx] at d1
          rw [hy] at d2
          rw [hz] at d3
          rw [hk] at hal ⊢
          have HAdd : Hid (∀ w, Calls Try.prog 40 #[.int .u8 x.n, .int .u8 y.n] w fun e w' => e = .returned (.int .u8 z.n) ∧ w = w') := Lib.hid (fun w => faddW x y z e3 w)
          have hkI : (k : Int) ≤ 30 := by omega
          have HW2 := Lib.hid (HW.out.trans (Below.refl _ wr).drew)
          have HW3 := Lib.hid (HW2.out.trans (Below.refl _ wr.drew).drew)
          have hbz : ((z.n : Int) != z.n) = false := by simp
          clear HRr hba hbb hbc e1 e2 e3 hx hy hz hk hpl
          by_cases hxy : x = y
          · have hb1 : ((x.n : Int) == (y.n : Int)) = true := by simp [hxy]
            rw [if_pos hxy] at hsnoc
            have HSn := Lib.hid hsnoc
            clear hsnoc hxy
            go_wp2_with fail
            go_region
            go_wp2_with fail
            go_region_with (go_at_call 40; (with_reducible refine (HAdd.out _).mono ?_); rintro e w6 ⟨rfl, rfl⟩)
            all_goals
              go_wp2
              go_roundw
              case rel => exact ⟨s + 1, by omega, by go_num, by rw [HSn.out]; go_num, by first | exact HW3 | exact HW2⟩
              case measure => simp [intOf]; omega
          · have hb1 : ((x.n : Int) == (y.n : Int)) = false := n_beq_false hxy
            rw [if_neg hxy] at hsnoc
            have HSn := Lib.hid hsnoc
            clear hsnoc hxy
            go_wp2_with fail
            go_region
            go_wp2_with fail
            go_region_with (go_at_call 40; (with_reducible refine (HAdd.out _).mono ?_); rintro e w6 ⟨rfl, rfl⟩)
            all_goals
              go_wp2
              go_roundw
              case rel => exact ⟨s + 1, by omega, by go_num, by rw [HSn.out]; go_num, by first | exact HW3 | exact HW2⟩
              case measure => simp [intOf]; omega
        · obtain rfl : s = N := by omega
          have HRr := Lib.hid (HR8.out.below HW.out)
          rw [show (pts s).take s = pts s from List.take_of_length_le (by rw [pts_length]; exact Nat.le_refl _)] at hal ⊢
          obtain ⟨k, hk⟩ : ∃ k, alike m m' (pts s) = k := ⟨_, rfl⟩
          rw [hk] at hal ⊢
          by_cases hmm : m = m'
          · clear HW hk HR8
            go_wp2_with fail
            refine (sameW A2 A3 m m' t t c2 c3 _ HRr.out.kw (by simp) (by simp) HML.out HML'.out true (by simp [hmm])).mono ?_
            rintro e w9 ⟨rfl, rfl⟩
            go_wp2_with (go_at_call 24; (with_reducible refine (works_calls S _).mono ?_); rintro e wz ⟨rfl, HZ⟩)
            go_ret
            exact ⟨rfl, (HRr.out.kw.below HZ).bel⟩
          · have hlt : k < t := by rw [← hk]; exact alike_lt HML.out HML'.out (pts_nodup (by omega)) hmm
            have hlt2 : (k : Int) < (t : Int) := by omega
            have hdm : decide (m = m') = false := by simp [hmm]
            clear HW hk HR8 hmm
            go_wp2_with fail
            refine (sameW A2 A3 m m' t t c2 c3 _ HRr.out.kw (by simp) (by simp) HML.out HML'.out false hdm).mono ?_
            rintro e w9 ⟨rfl, rfl⟩
            go_wp2_with fail
            refine (k_calls HRr.out.cd).mono ?_
            rintro e w9 ⟨rfl, rfl⟩
            go_wp2_with (go_at_call 24; (with_reducible refine (works_calls S _).mono ?_); rintro e wz ⟨rfl, HZ⟩)
            go_ret
            exact ⟨rfl, (HRr.out.kw.below HZ).bel⟩
theorem walk (S : Poly.Spec) (w : World) (n0 : Nat) (hn0 : n0 < 256) (n1 : Nat) (hn1 : n1 < 256) (A2 : Option Addr) (l2 : List Nat) (c2 : Nat) (hb2 : Bytes w A2 l2) (_hc2 : l2.length ≤ c2) (_hm2 : c2 ≤ 9223372036854775807) (A3 : Option Addr) (l3 : List Nat) (c3 : Nat) (hb3 : Bytes w A3 l3) (_hc3 : l3.length ≤ c3) (_hm3 : c3 ≤ 9223372036854775807) :
    Calls Try.prog 8 #[.int .u8 (n0 : Nat), .int .u8 (n1 : Nat), .slice A2 l2.length c2, .slice A3 l3.length c3] w fun e w' => e = .returned (.bool true) ∧ Below w.heap.size w w' := by
  obtain ⟨p2, rfl⟩ := of_bytes l2 hb2.lt
  obtain ⟨p3, rfl⟩ := of_bytes l3 hb3.lt
  exact core S w n0 n1 hn0 hn1 A2 p2 _ c2 A3 p3 _ c3 (bs_length p2).symm hb2 (bs_length p3).symm hb3
end Go.Proofs.Ytjpbdbgihakpmaa.reedApart
