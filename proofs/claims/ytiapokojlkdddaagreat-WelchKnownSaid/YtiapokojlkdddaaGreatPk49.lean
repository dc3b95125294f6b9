/- Of the program and its document, joined: WelchOnlyWalk. -/
import Derived.Test.YtiapokojlkdddaaGreatPk46
/- The walk of WelchOnly. -/
namespace Go.Proofs.YtiapokojlkdddaaGreat.welchOnly
open Go.RowKit Go.Shelf F8 GF Poly Rd Wl
attribute [local go_sem] Oper.semAt_some

theorem wr_snoc {m a b : List F8} (x y : F8) (h : a.length = b.length) : wr m (a ++ [x]) (b ++ [y]) = wr m a b + if eval m x = y then 0 else 1 := by
  rw [wr_append h]
  congr 1
  by_cases e : eval m x = y <;> simp [wr, e]
theorem dec_told {xs ys : List F8} {k : Nat} {pl : List Int} {r : List F8} {z : Int} (hn : xs.Nodup) (hok : OkP xs.length pl) (hk : pl.length = k) (hl : ys.length = k) (hD : DecIs xs k pl ys r z) : z = 0 ∧ r.length = k ∧ word r (ptsAt xs pl) = ys := by
  rcases hD with ⟨h4, _⟩ | ⟨_, h4, _⟩ | ⟨_, _, h4, h5, h6⟩ | ⟨_, _, _, _, h4⟩
  · exact absurd ⟨by omega, hok⟩ h4
  · omega
  · exact ⟨h4, h5, h6⟩
  · obtain ⟨m, hm, hw⟩ := msg_of (ptsAt xs pl) ys (ptsAt_nodup hn hok) (by rw [ptsAt_length]; omega)
    exact absurd hw (h4 m (by rw [hm, ptsAt_length]; omega))
theorem encodeP {w0 w : World} {g b : Nat} {A : Option Addr} {xs : List F8} {n c k : Nat} {ls : List (Option Addr × List F8)} (S : Poly.Spec) (h : R w0 g b A xs n c k ls w) (B : Option Addr) (q : List F8) (m d : Nat) (hB : (B, q) ∈ ls) (hm : q.length = m) (hd : m ≤ d) (hl : m ≤ 1000) (r : List F8) (z : Int) (hr : encR xs k q = (r, z)) :
    Calls Tryz.prog 49 #[.pointer (some ⟨b, 0, none⟩), .slice B m d] w fun e w' => MoreP w0 g b A xs n c k ls r z w e w' :=
  (encode_calls S h.cd B q m d hm (h.kw.bytes hB) hd hl (h.kw.far hB)).mono fun e w' hx => by
    rw [hr] at hx
    obtain ⟨B, d, h1, h2, h3, h4, h5⟩ := hx
    exact ⟨B, d, h1, h2, h3, h.past h4 h5, h5⟩
set_option maxHeartbeats 1000000 in
theorem has_calls (A : Option Addr) (l : List Int) (m c : Nat) (z : Int) (w : World) (hm : l.length = m) (hml : m ≤ 1000000) (hb : Row w A (zs l)) (b : Bool) (hbq : decide (z ∈ l) = b) :
    Calls Tryz.prog 53 #[.slice A m c, .int .i64 z] w fun e w' => e = .returned (.bool b) ∧ Below w.heap.size w w' := by
  go_enter Tryz.func53, Tryz.ntmps53
  go_wp2
  go_loopw [5] (fun i wr => ∃ k : Nat, k ≤ m ∧ i = .int .i64 k ∧ Below w.heap.size w wr ∧ z ∉ l.take k) (fun i _ => m - (intOf i).toNat)
  case atStart => exact ⟨0, Nat.zero_le _, rfl, Below.refl _ _, by simp⟩
  case round =>
    obtain ⟨k, hk, rfl, hB, ht⟩ := hrel
    by_cases hkm : k < m
    · obtain ⟨b1, o1, rfl, h1⟩ := zs_at (hb.below hB) (k := k) (by omega)
      have e1 := take_succ' l (k := k) (by omega)
      obtain ⟨x, hx⟩ : ∃ x, l[k] = x := ⟨_, rfl⟩
      rw [hx] at h1 e1
      by_cases hxz : x = z
      · subst hxz
        have hbt : b = true := by
          rw [← hbq, decide_eq_true_iff, ← hx]
          exact List.getElem_mem _
        subst hbt
        clear e1 ht hbq hx
        go_wp2
        go_ret
        exact ⟨rfl, hB⟩
      · have hne : (x == z) = false := by simpa using hxz
        have HT : Hid (z ∉ l.take (k + 1)) := Lib.hid (by
          rw [e1, List.mem_append, List.mem_singleton]
          rintro (h | h)
          · exact ht h
          · exact hxz h.symm)
        clear e1 ht hx hxz
        go_wp2
        go_roundw
        case rel => exact ⟨k + 1, by omega, by go_num, hB, HT.out⟩
        case measure => simp [intOf]; omega
    · obtain rfl : k = m := by omega
      have hbf : b = false := by
        rw [← hbq, decide_eq_false_iff_not]
        rwa [List.take_of_length_le (by omega)] at ht
      subst hbf
      go_wp2
      go_ret
      exact ⟨rfl, hB⟩
set_option maxRecDepth 100000 in
set_option maxHeartbeats 8000000 in
theorem core (S : Poly.Spec) (T : Wl.Spec) (w : World) (n0 n1 : Nat) (h0 : n0 < 256) (h1 : n1 < 256) (P : Option Addr) (pl : List Int) (u v : Nat) (B : Option Addr) (q : List F8) (n d : Nat) (t : Nat) (ht : t < 256) (hu : pl.length = u) (hrp : Row w P (zs pl)) (hn : q.length = n) (hbq : Bytes w B (bs q)) (hd : n ≤ d) :
    Calls Tryz.prog 16 #[.int .u8 (n0 : Nat), .int .u8 (n1 : Nat), .slice P u v, .slice B n d, .int .u8 (t : Nat)] w fun e w' => e = .returned (.bool true) ∧ Below w.heap.size w w' := by
  obtain ⟨N, hN⟩ : ∃ N : Nat, 1 + n0 % 9 = N := ⟨_, rfl⟩
  obtain ⟨K, hK⟩ : ∃ K : Nat, 1 + n1 % 9 = K := ⟨_, rfl⟩
  have eN : (1 : Int) + (n0 : Int) % 9 = (N : Int) := by omega
  have eK : (1 : Int) + (n1 : Int) % 9 = (K : Int) := by omega
  have hN9 : N ≤ 9 := by omega
  have hK9 : K ≤ 9 := by omega
  have hK1 : 1 ≤ K := by omega
  have HB := Lib.hid hbq
  have HRow := Lib.hid hrp
  have HU := Lib.hid hu
  have HNl := Lib.hid hn
  clear hbq hrp hu hn hN hK
  go_enter Tryz.func16, Tryz.ntmps16
  go_wp2_with fail
  refine (reed_calls N K (by omega) hK1 w).mono ?_
  clear eN eK h0 h1
  rintro e w1 hKR
  rcases hKR.start with ⟨hkn, b, A, c, rfl, -, -, HN⟩ | ⟨-, rfl, HBz⟩
  rotate_left
  · clear hKR
    go_wp2_with (go_at_call 19; (with_reducible refine (works_calls T _).mono ?_); rintro e wz ⟨rfl, HZ⟩)
    go_ret
    exact ⟨rfl, HBz.trans (HZ.mono HBz.size)⟩
  have HR := Lib.hid (HN.arg HB.out)
  clear hKR HN
  by_cases hu9 : 9 < u
  · go_wp2_with (go_at_call 19; (with_reducible refine (works_calls T _).mono ?_); rintro e wz ⟨rfl, HZ⟩)
    go_ret
    exact ⟨rfl, (HR.out.kw.below HZ).bel⟩
  have hu9' : ¬ ((9 : Int) < (u : Int)) := by omega
  by_cases hn9 : 9 < n
  · go_wp2_with (go_at_call 19; (with_reducible refine (works_calls T _).mono ?_); rintro e wz ⟨rfl, HZ⟩)
    go_ret
    exact ⟨rfl, (HR.out.kw.below HZ).bel⟩
  have hn9' : ¬ ((9 : Int) < (n : Int)) := by omega
  have hu99 : u ≤ 9 := by omega
  have hn99 : n ≤ 9 := by omega
  clear hu9 hn9
  have hgl := HR.out.kw.glt
  go_wp2_with fail
  refine (wdecodeW T HR.out P pl u v HU.out (HRow.out.below HR.out.kw.bel) (by omega) B q n d (by simp) HNl.out hd (by omega) (t : Int) (by omega) (by omega)).mono ?_
  rintro e w2 ⟨r, wl, z, hD, A4, c4, B4, d4, rfl, hc4, hd4, hO4, HN, hP2⟩
  have HD := Lib.hid hD
  have HR2 := Lib.hid HN
  have HO4 := Lib.hid hO4
  have hg2 : w.heap.size < w2.heap.size := HN.kw.glt
  clear HN hO4 hP2
  rcases hD with ⟨-, rfl, rfl, rfl⟩ | ⟨-, -, rfl, rfl, rfl⟩ | ⟨hA, hk, rfl, hrl, hwr, hwl⟩ | ⟨hA, hk, rfl, rfl, rfl, hlo⟩
  · go_wp2_with (go_at_call 19; (with_reducible refine (works_calls T _).mono ?_); rintro e wz ⟨rfl, HZ⟩)
    go_ret
    exact ⟨rfl, (HR2.out.kw.below HZ).bel⟩
  · go_wp2_with (go_at_call 19; (with_reducible refine (works_calls T _).mono ?_); rintro e wz ⟨rfl, HZ⟩)
    go_ret
    exact ⟨rfl, (HR2.out.kw.below HZ).bel⟩
  · obtain rfl : u = n := by rw [← HU.out, ← HNl.out]; exact hA.1.1
    have HLn : Hid (pl.length = q.length) := Lib.hid hA.1.1
    have HOK : Hid (OkP (pts N).length pl) := Lib.hid hA.1.2
    have HK : Hid ((K : Int) + 2 * (t : Int) ≤ (u : Int)) := Lib.hid (by rw [← HU.out]; exact hk)
    have hKu : K ≤ u := by have := HK.out; omega
    have HRL := Lib.hid hrl
    obtain ⟨W0, hW0⟩ : ∃ W0, Wl.wr r (ptsAt (pts N) pl) q = W0 := ⟨_, rfl⟩
    have hW0t : W0 ≤ t := by rw [hW0] at hwr; omega
    have hwll : wl.length = W0 := by rw [hwl, wrong_length hA.1.2 hA.1.1, hW0]
    have HWL := Lib.hid hwll
    have HWE := Lib.hid hwl
    have HW0 := Lib.hid hW0
    have hW0u : W0 ≤ u := by
      have := wr_le r (ptsAt (pts N) pl) q
      rw [ptsAt_length, HU.out, hW0] at this
      exact this
    rw [hrl] at hc4 ⊢
    rw [hwll] at hd4 HO4 ⊢
    clear hA hk hrl hwr hwl hwll hW0
    go_wp2_with fail
    obtain ⟨wd, hwd⟩ : ∃ wd, word r (pts N) = wd := ⟨_, rfl⟩
    have hwdl : wd.length = N := by rw [← hwd, word_length, pts_length]
    have HWD := Lib.hid hwd
    have HWDL := Lib.hid hwdl
    have hen : encR (pts N) K r = (wd, 0) := by rw [← hwd]; exact if_pos HRL.out
    refine (encodeP S HR2.out A4 r K c4 (by simp) HRL.out hc4 (by omega) wd 0 hen).mono ?_
    rintro e w3 ⟨A5, c5, rfl, hc5, hO5, HN, hP3⟩
    have HR3 := Lib.hid (HN.own hO5 hg2)
    have HO3 := Lib.hid (own_past HO4.out hgl hP3)
    rw [HWDL.out] at hc5 ⊢
    clear hwd hwdl hen HN hP3 hO5 HO4 HR2
    go_wp2_with fail
    go_loopw [17, 18] (fun cn i wr => ∃ (j c' : Nat), j ≤ u ∧ c' ≤ j ∧ cn = .int .i64 c' ∧ i = .int .i64 j ∧ Hid (c' = Wl.wr r (ptsAt (pts N) (pl.take j)) (q.take j)) ∧ Hid (Below w3.heap.size w3 wr)) (fun _ i _ => u - (intOf i).toNat)
    case atStart => exact ⟨0, 0, by omega, by omega, rfl, rfl, Lib.hid rfl, Lib.hid (Below.refl _ _)⟩
    case round =>
      obtain ⟨j, c', hj, hcj, rfl, rfl, HC, HV⟩ := hrel
      have hsz := HV.out.size
      by_cases hju : j < u
      · have hjl : j < pl.length := by rw [HU.out]; exact hju
        have hjq : j < q.length := by rw [HNl.out]; exact hju
        have HRv := Lib.hid (HR3.out.below HV.out)
        obtain ⟨bp, op, rfl, hcp⟩ := zs_at (HRow.out.below HRv.out.kw.bel) hjl
        obtain ⟨xz, hxz⟩ : ∃ xz, pl[j] = xz := ⟨_, rfl⟩
        have hin := HOK.out.1 pl[j] (List.getElem_mem hjl)
        rw [pts_length, hxz] at hin
        rw [hxz] at hcp
        obtain ⟨x, rfl⟩ : ∃ x : Nat, xz = (x : Int) := ⟨xz.toNat, by omega⟩
        have hxN : (x : Int) < (N : Int) := by omega
        have hxp : x < (pts N).length := by rw [pts_length]; omega
        have hbw := HRv.out.kw.bytes (A := A5) (p := wd) (by simp)
        obtain ⟨bw, ow, rfl⟩ := where_ hbw (by rw [HWDL.out]; omega)
        have hcw := cellAt hbw x (by rw [HWDL.out]; omega)
        have hbq := HRv.out.kw.bytes (A := B) (p := q) (by simp)
        obtain ⟨bq, oq, rfl⟩ := where_ hbq (by omega)
        have hcq := cellAt hbq j hjq
        obtain ⟨wv, hwv⟩ : ∃ wv, coef wd x = wv := ⟨_, rfl⟩
        obtain ⟨yv, hyv⟩ : ∃ yv, coef q j = yv := ⟨_, rfl⟩
        have hev : eval r (coef (pts N) x) = wv := by rw [← word_get hxp, HWD.out, hwv]
        have HSn : Hid (Wl.wr r (ptsAt (pts N) (pl.take (j + 1))) (q.take (j + 1)) = Wl.wr r (ptsAt (pts N) (pl.take j)) (q.take j) + if wv = yv then 0 else 1) := Lib.hid (by
          rw [take_succ' pl hjl, take_succ' q hjq, ptsAt_app, wr_snoc _ _ (by rw [ptsAt_length, List.length_take, List.length_take]; omega), hxz, Int.toNat_natCast, hev, ← coef_of_lt hjq, hyv])
        have HMe : Hid (¬ wv = yv → (x : Int) ∈ wl) := Lib.hid (fun hne => by
          rw [HWE.out, mem_wrong HOK.out]
          refine ⟨j, hjl, by simp [List.getD_eq_getElem?_getD, hjl, hxz], ?_⟩
          rw [coef_of_lt (by rw [ptsAt_length]; exact hjl)]
          simp only [ptsAt, List.getElem_map, hxz, Int.toNat_natCast]
          rw [hev, hyv]
          exact hne)
        rw [hwv] at hcw
        rw [hyv] at hcq
        have HROW3 := Lib.hid (own_row (HO3.out.below HV.out))
        clear hxz hin hxp hbw hbq hwv hyv hev hjl hjq HRv
        by_cases hd' : wv = yv
        · have hne : ((wv.n : Int) != (yv.n : Int)) = false := by rw [hd']; simp
          have HC2 : Hid (c' = Wl.wr r (ptsAt (pts N) (pl.take (j + 1))) (q.take (j + 1))) := Lib.hid (by rw [HSn.out, if_pos hd', HC.out]; rfl)
          have HV2 := Lib.hid HV.out.drew
          clear hd' HMe HROW3
          go_wp2
          go_region
          go_wp2
          go_roundw
          case rel => exact ⟨j + 1, c', by omega, by omega, rfl, by go_num, HC2, HV2⟩
          case measure => simp [intOf]; omega
        · have hne : ((wv.n : Int) != (yv.n : Int)) = true := by
            have : ¬ wv.n = yv.n := fun e => hd' (F8.ext e)
            simp; omega
          have HC2 : Hid (c' + 1 = Wl.wr r (ptsAt (pts N) (pl.take (j + 1))) (q.take (j + 1))) := Lib.hid (by rw [HSn.out, if_neg hd', ← HC.out])
          have HV2 := Lib.hid HV.out.drew
          have HIn : Hid (decide ((x : Int) ∈ wl) = true) := Lib.hid (decide_eq_true (HMe.out hd'))
          have HROW4 := Lib.hid (HROW3.out.below (Below.refl wr.heap.size wr).drew)
          have hcp2 : wr.drew.cell? ⟨bp, op + j, none⟩ = some (.int .i64 (x : Int)) := hcp
          clear hd' HMe HROW3
          go_wp2
          go_region
          generalize wr.drew = w5 at *
          go_wp2_with fail
          refine (has_calls B4 wl W0 d4 (x : Int) _ HWL.out (by omega) HROW4.out true HIn.out).mono ?_
          rintro e w6 ⟨rfl, hB6⟩
          have HV6 := Lib.hid (HV2.out.trans (hB6.mono HV2.out.size))
          clear hB6
          go_wp2
          go_roundw
          case rel => exact ⟨j + 1, c' + 1, by omega, by omega, by go_num, by go_num, HC2, HV6⟩
          case measure => simp [intOf]; omega
      · obtain rfl : u = j := by omega
        have hcW : W0 = c' := by
          rw [← HW0.out, HC.out, List.take_of_length_le (by rw [HU.out]; exact Nat.le_refl _), List.take_of_length_le (by rw [HNl.out]; exact Nat.le_refl _)]
        subst hcW
        have hR3 := HR3.out.below HV.out
        clear HR3
        have HR3 := Lib.hid hR3
        obtain ⟨w3', hw3⟩ : ∃ w3', wr = w3' := ⟨_, rfl⟩
        rw [hw3] at HR3 hR3 ⊢
        clear hw3 hR3 HC HV hsz hju hj hcj
        have hW0t2 : ¬ ((t : Int) < (W0 : Int)) := by omega
        go_wp2_with fail
        go_loopw [19, 20, 21] (fun so sy i wr => ∃ s : Nat, s ≤ K ∧ i = .int .i64 s ∧ Hid (Own wr w3'.heap.size 3 so (zs (pl.take s))) ∧ Hid (Own wr w3'.heap.size 5 sy (bv (bs (q.take s)))) ∧ Hid (Below w3'.heap.size w3' wr)) (fun _ _ i _ => K - (intOf i).toNat)
        case atStart => exact ⟨0, by omega, rfl, Lib.hid (Own.nil _ _ _), Lib.hid (Own.nil _ _ _), Lib.hid (Below.refl _ _)⟩
        case round =>
          obtain ⟨s, hs, rfl, HS, HY, HV⟩ := hrel
          have hsz2 := HV.out.size
          have HRv := Lib.hid (HR3.out.below HV.out)
          by_cases hsK : s < K
          · have hsl : s < pl.length := by rw [HU.out]; omega
            have hsq : s < q.length := by rw [HNl.out]; omega
            obtain ⟨bp, op, rfl, hcp⟩ := zs_at (HRow.out.below HRv.out.kw.bel) hsl
            obtain ⟨zp, hzp⟩ : ∃ zp, pl[s] = zp := ⟨_, rfl⟩
            rw [hzp] at hcp
            have hyb := HRv.out.kw.bytes (A := B) (p := q) (by simp)
            obtain ⟨by_, oy, rfl⟩ := where_ hyb (by omega)
            have hcy := cellAt hyb s hsq
            obtain ⟨yv, hyv⟩ : ∃ yv, coef q s = yv := ⟨_, rfl⟩
            rw [hyv] at hcy
            have HS1 : Hid (zs (pl.take s) ++ zs [zp] = zs (pl.take (s + 1))) := Lib.hid (by rw [take_succ' pl hsl, hzp, zs_append])
            have HY1 : Hid (bv (bs (q.take s)) ++ bv [yv.n] = bv (bs (q.take (s + 1)))) := Lib.hid (by rw [take_succ' q hsq, ← coef_of_lt hsq, hyv, bvs_snoc])
            have HSL : Hid ((zs (pl.take s)).length ≤ 20) := Lib.hid (by rw [zs_length, List.length_take]; omega)
            have HYL : Hid ((bv (bs (q.take s))).length ≤ 20) := Lib.hid (by rw [bvs_length, List.length_take]; omega)
            have hsu : (s : Int) < (u : Int) := by omega
            have HYv := Lib.hid hyv
            have HSq := Lib.hid hsq
            clear hzp hyv hyb hsl hsq
            go_wp2_with fail
            refine (k_calls HRv.out.cd).mono ?_
            rintro e w8 ⟨rfl, rfl⟩
            go_wp2_with (first
              | (at_builtin; refine wpList_app _ rfl _ _ _ rfl w3'.heap.size 3 _ 8 Tryz.underlying23 info_i rfl (by omega) _ _ rfl (HS.out.alloc _) (some ⟨wr.heap.size, 0, none⟩) 1 1 (zs [zp]) rfl rfl (Row.new _ _ _ _) (zs_one _) (by have := HSL.out; omega) (by simp; omega) ?_; rintro v2 w5 hown hg5 -
                 have hBw5 := (HV.out.alloc hsz2 (.cells #[.int .i64 zp] 3)).trans ((HS.out.alloc _).grew (by simp; omega) hg5)
                 rw [HS1.out] at hown
                 have HS5 := Lib.hid hown
                 have HY5 := Lib.hid (own_other (HY.out.alloc _) (HS.out.alloc _) (by decide) hg5)
                 have HV5 := Lib.hid hBw5
                 have hsz5 := hBw5.size
                 have hcy5 : w5.cell? ⟨by_, oy + s, none⟩ = some (.int .u8 (yv.n : Int)) := by rw [cellAt ((HR3.out.below hBw5).kw.bytes (A := some ⟨by_, oy, none⟩) (p := q) (by simp)) s HSq.out, HYv.out]
                 clear hown hg5 hBw5)
              | (at_builtin; refine wpList_app _ rfl _ _ _ rfl w3'.heap.size 5 _ 1 Tryz.underlying22 info_u8 rfl (by omega) _ _ rfl (HY5.out.alloc _) (some ⟨w5.heap.size, 0, none⟩) 1 1 (bv [yv.n]) rfl rfl (Row.new _ _ _ _) (bv_one _) (by have := HYL.out; omega) (by simp; omega) ?_; rintro v3 w6 hown hg6 -))
            rw [HY1.out] at hown
            have HY6 := Lib.hid hown
            have HS6 := Lib.hid (own_other (HS5.out.alloc _) (HY5.out.alloc _) (by decide) hg6)
            have HV6 := Lib.hid ((HV5.out.alloc hsz5 (.cells #[.int .u8 (yv.n : Nat)] 5)).trans ((HY5.out.alloc _).grew (by simp; omega) hg6))
            clear hown hg6
            go_roundw
            case rel => exact ⟨s + 1, by omega, by go_num, HS6, HY6, HV6⟩
            case measure => simp [intOf]; omega
          · obtain rfl : K = s := by omega
            obtain ⟨A6, c6, rfl, hc6⟩ := zshape HS.out
            obtain ⟨A7, c7, rfl, hc7⟩ := Own.shape HY.out
            have hplK : (pl.take K).length = K := by rw [List.length_take, HU.out]; omega
            have hqlK : (q.take K).length = K := by rw [List.length_take, HNl.out]; omega
            rw [hplK] at HS hc6 ⊢
            rw [hqlK] at HY hc7 ⊢
            have HPLK := Lib.hid hplK
            have HQLK := Lib.hid hqlK
            obtain ⟨w4, hw4⟩ : ∃ w4, wr = w4 := ⟨_, rfl⟩
            rw [hw4] at HS HY HRv HV hsz2 ⊢
            clear hw4 hplK hqlK hsK
            go_wp2_with fail
            refine (k_calls HRv.out.cd).mono ?_
            rintro e w8 ⟨rfl, rfl⟩
            go_wp2_with fail
            refine (decodeP S HRv.out A6 (pl.take K) K c6 HPLK.out (own_row HS.out) (by omega) A7 (q.take K) K c7 (Own.bytes HY.out) (far_own HRv.out.cd.fld.fld HY.out) HQLK.out hc7 (by omega)).mono ?_
            rintro e w6 ⟨r2, z2, hD2, A8, c8, rfl, hc8, hO8, HN, hP8⟩
            obtain ⟨rfl, hr2l, hr2w⟩ := dec_told HRv.out.cd.nd (okP_of_take K HOK.out) HPLK.out HQLK.out hD2
            have HR6 := Lib.hid (HN.own hO8 HRv.out.kw.glt)
            rw [hr2l] at hc8 ⊢
            have HR2L := Lib.hid hr2l
            clear HN hO8 hP8 hD2 hr2w hr2l HS HY HRv HV HPLK HQLK
            go_wp2_with fail
            refine (points_calls HR6.out.cd).mono ?_
            rintro e w7 ⟨A9, c9, rfl, hc9, hO9, hB9⟩
            have HR7 := Lib.hid (HR6.out.below hB9)
            have HO9 := Lib.hid hO9
            clear hO9 hB9 HR6
            go_wp2_with fail
            refine (k_calls HR7.out.cd).mono ?_
            rintro e w8 ⟨rfl, rfl⟩
            go_wp2_with fail
            refine (refWrong_calls A9 (pts N) N c9 K A8 r2 c8 P pl u v B q u d w7 (pts_length N) (Own.bytes HO9.out) (by omega) HR2L.out (HR7.out.kw.bytes (by simp)) (by omega) HU.out (HRow.out.below HR7.out.kw.bel) (by omega) HNl.out rfl (HR7.out.kw.bytes (by simp))).mono ?_
            rintro e w8 ⟨A10, c10, rfl, hc10, hO10, hB10⟩
            have HR8 := Lib.hid (HR7.out.below hB10)
            obtain ⟨W, hW⟩ : ∃ W, (wrong (pts N) r2 pl q).length = W := ⟨_, rfl⟩
            rw [hW] at hc10 ⊢
            rw [wrong_length HOK.out HLn.out] at hW
            have hWu : W ≤ u := by
              have := wr_le r2 (ptsAt (pts N) pl) q
              rw [ptsAt_length, HU.out, hW] at this
              exact this
            clear hO10 hB10 HR7 HO9
            by_cases hWt : W ≤ t
            · have hrr : r2 = r := (WIs.only HR8.out.cd.nd (wis_ok HLn.out HOK.out (by omega) (by rw [HU.out]; exact HK.out) HR2L.out (by rw [hW]; omega)) HD.out).1
              have hdec : decide (r2 = r) = true := decide_eq_true hrr
              have hWt2 : (W : Int) ≤ (t : Int) := by omega
              clear hrr hW
              go_wp2_with fail
              refine (sameW A8 A4 r2 r K K c8 c4 _ HR8.out.kw (by simp) (by simp) HR2L.out HRL.out true hdec).mono ?_
              rintro e w10 ⟨rfl, rfl⟩
              go_wp2_with (go_at_call 19; (with_reducible refine (works_calls T _).mono ?_); rintro e wz ⟨rfl, HZ⟩)
              go_ret
              exact ⟨rfl, (HR8.out.kw.below HZ).bel⟩
            · have hdec : decide (r2 = r) = false := decide_eq_false (fun e => by
                rw [e, HW0.out] at hW
                omega)
              have hWt2 : ¬ ((W : Int) ≤ (t : Int)) := by omega
              clear hW
              go_wp2_with fail
              refine (sameW A8 A4 r2 r K K c8 c4 _ HR8.out.kw (by simp) (by simp) HR2L.out HRL.out false hdec).mono ?_
              rintro e w10 ⟨rfl, rfl⟩
              go_wp2_with (go_at_call 19; (with_reducible refine (works_calls T _).mono ?_); rintro e wz ⟨rfl, HZ⟩)
              go_ret
              exact ⟨rfl, (HR8.out.kw.below HZ).bel⟩
  · obtain rfl : u = n := by rw [← HU.out, ← HNl.out]; exact hA.1.1
    have HLn : Hid (pl.length = q.length) := Lib.hid hA.1.1
    have HOK : Hid (OkP (pts N).length pl) := Lib.hid hA.1.2
    have hKu : K ≤ u := by have := HU.out; omega
    have HLo := Lib.hid hlo
    have HR3 := Lib.hid HR2.out
    clear hA hk hlo HR2
    go_wp2_with fail
    go_loopw [19, 20, 21] (fun so sy i wr => ∃ s : Nat, s ≤ K ∧ i = .int .i64 s ∧ Hid (Own wr w2.heap.size 3 so (zs (pl.take s))) ∧ Hid (Own wr w2.heap.size 5 sy (bv (bs (q.take s)))) ∧ Hid (Below w2.heap.size w2 wr)) (fun _ _ i _ => K - (intOf i).toNat)
    case atStart => exact ⟨0, by omega, rfl, Lib.hid (Own.nil _ _ _), Lib.hid (Own.nil _ _ _), Lib.hid (Below.refl _ _)⟩
    case round =>
      obtain ⟨s, hs, rfl, HS, HY, HV⟩ := hrel
      have hsz2 := HV.out.size
      have HRv := Lib.hid (HR3.out.below HV.out)
      by_cases hsK : s < K
      · have hsl : s < pl.length := by rw [HU.out]; omega
        have hsq : s < q.length := by rw [HNl.out]; omega
        obtain ⟨bp, op, rfl, hcp⟩ := zs_at (HRow.out.below HRv.out.kw.bel) hsl
        obtain ⟨zp, hzp⟩ : ∃ zp, pl[s] = zp := ⟨_, rfl⟩
        rw [hzp] at hcp
        have hyb := HRv.out.kw.bytes (A := B) (p := q) (by simp)
        obtain ⟨by_, oy, rfl⟩ := where_ hyb (by omega)
        have hcy := cellAt hyb s hsq
        obtain ⟨yv, hyv⟩ : ∃ yv, coef q s = yv := ⟨_, rfl⟩
        rw [hyv] at hcy
        have HS1 : Hid (zs (pl.take s) ++ zs [zp] = zs (pl.take (s + 1))) := Lib.hid (by rw [take_succ' pl hsl, hzp, zs_append])
        have HY1 : Hid (bv (bs (q.take s)) ++ bv [yv.n] = bv (bs (q.take (s + 1)))) := Lib.hid (by rw [take_succ' q hsq, ← coef_of_lt hsq, hyv, bvs_snoc])
        have HSL : Hid ((zs (pl.take s)).length ≤ 20) := Lib.hid (by rw [zs_length, List.length_take]; omega)
        have HYL : Hid ((bv (bs (q.take s))).length ≤ 20) := Lib.hid (by rw [bvs_length, List.length_take]; omega)
        have hsu : (s : Int) < (u : Int) := by omega
        have HYv := Lib.hid hyv
        have HSq := Lib.hid hsq
        clear hzp hyv hyb hsl hsq
        go_wp2_with fail
        refine (k_calls HRv.out.cd).mono ?_
        rintro e w8 ⟨rfl, rfl⟩
        go_wp2_with (first
          | (at_builtin; refine wpList_app _ rfl _ _ _ rfl w2.heap.size 3 _ 8 Tryz.underlying23 info_i rfl (by omega) _ _ rfl (HS.out.alloc _) (some ⟨wr.heap.size, 0, none⟩) 1 1 (zs [zp]) rfl rfl (Row.new _ _ _ _) (zs_one _) (by have := HSL.out; omega) (by simp; omega) ?_; rintro v2 w5 hown hg5 -
             have hBw5 := (HV.out.alloc hsz2 (.cells #[.int .i64 zp] 3)).trans ((HS.out.alloc _).grew (by simp; omega) hg5)
             rw [HS1.out] at hown
             have HS5 := Lib.hid hown
             have HY5 := Lib.hid (own_other (HY.out.alloc _) (HS.out.alloc _) (by decide) hg5)
             have HV5 := Lib.hid hBw5
             have hsz5 := hBw5.size
             have hcy5 : w5.cell? ⟨by_, oy + s, none⟩ = some (.int .u8 (yv.n : Int)) := by rw [cellAt ((HR3.out.below hBw5).kw.bytes (A := some ⟨by_, oy, none⟩) (p := q) (by simp)) s HSq.out, HYv.out]
             clear hown hg5 hBw5)
          | (at_builtin; refine wpList_app _ rfl _ _ _ rfl w2.heap.size 5 _ 1 Tryz.underlying22 info_u8 rfl (by omega) _ _ rfl (HY5.out.alloc _) (some ⟨w5.heap.size, 0, none⟩) 1 1 (bv [yv.n]) rfl rfl (Row.new _ _ _ _) (bv_one _) (by have := HYL.out; omega) (by simp; omega) ?_; rintro v3 w6 hown hg6 -))
        rw [HY1.out] at hown
        have HY6 := Lib.hid hown
        have HS6 := Lib.hid (own_other (HS5.out.alloc _) (HY5.out.alloc _) (by decide) hg6)
        have HV6 := Lib.hid ((HV5.out.alloc hsz5 (.cells #[.int .u8 (yv.n : Nat)] 5)).trans ((HY5.out.alloc _).grew (by simp; omega) hg6))
        clear hown hg6
        go_roundw
        case rel => exact ⟨s + 1, by omega, by go_num, HS6, HY6, HV6⟩
        case measure => simp [intOf]; omega
      · obtain rfl : K = s := by omega
        obtain ⟨A6, c6, rfl, hc6⟩ := zshape HS.out
        obtain ⟨A7, c7, rfl, hc7⟩ := Own.shape HY.out
        have hplK : (pl.take K).length = K := by rw [List.length_take, HU.out]; omega
        have hqlK : (q.take K).length = K := by rw [List.length_take, HNl.out]; omega
        rw [hplK] at HS hc6 ⊢
        rw [hqlK] at HY hc7 ⊢
        have HPLK := Lib.hid hplK
        have HQLK := Lib.hid hqlK
        obtain ⟨w4, hw4⟩ : ∃ w4, wr = w4 := ⟨_, rfl⟩
        rw [hw4] at HS HY HRv HV hsz2 ⊢
        clear hw4 hplK hqlK hsK
        go_wp2_with fail
        refine (k_calls HRv.out.cd).mono ?_
        rintro e w8 ⟨rfl, rfl⟩
        go_wp2_with fail
        refine (decodeP S HRv.out A6 (pl.take K) K c6 HPLK.out (own_row HS.out) (by omega) A7 (q.take K) K c7 (Own.bytes HY.out) (far_own HRv.out.cd.fld.fld HY.out) HQLK.out hc7 (by omega)).mono ?_
        rintro e w6 ⟨r2, z2, hD2, A8, c8, rfl, hc8, hO8, HN, hP8⟩
        obtain ⟨rfl, hr2l, hr2w⟩ := dec_told HRv.out.cd.nd (okP_of_take K HOK.out) HPLK.out HQLK.out hD2
        have HR6 := Lib.hid (HN.own hO8 HRv.out.kw.glt)
        rw [hr2l] at hc8 ⊢
        have HR2L := Lib.hid hr2l
        clear HN hO8 hP8 hD2 hr2w hr2l HS HY HRv HV HPLK HQLK
        go_wp2_with fail
        refine (points_calls HR6.out.cd).mono ?_
        rintro e w7 ⟨A9, c9, rfl, hc9, hO9, hB9⟩
        have HR7 := Lib.hid (HR6.out.below hB9)
        have HO9 := Lib.hid hO9
        clear hO9 hB9 HR6
        go_wp2_with fail
        refine (k_calls HR7.out.cd).mono ?_
        rintro e w8 ⟨rfl, rfl⟩
        go_wp2_with fail
        refine (refWrong_calls A9 (pts N) N c9 K A8 r2 c8 P pl u v B q u d w7 (pts_length N) (Own.bytes HO9.out) (by omega) HR2L.out (HR7.out.kw.bytes (by simp)) (by omega) HU.out (HRow.out.below HR7.out.kw.bel) (by omega) HNl.out rfl (HR7.out.kw.bytes (by simp))).mono ?_
        rintro e w8 ⟨A10, c10, rfl, hc10, hO10, hB10⟩
        have HR8 := Lib.hid (HR7.out.below hB10)
        obtain ⟨W, hW⟩ : ∃ W, (wrong (pts N) r2 pl q).length = W := ⟨_, rfl⟩
        rw [hW] at hc10 ⊢
        rw [wrong_length HOK.out HLn.out] at hW
        have hWu : W ≤ u := by
          have := wr_le r2 (ptsAt (pts N) pl) q
          rw [ptsAt_length, HU.out, hW] at this
          exact this
        clear hO10 hB10 HR7 HO9
        have hWt2 : ¬ ((W : Int) ≤ (t : Int)) := by
          have := HLo.out r2 HR2L.out
          rw [hW] at this
          omega
        have hWt3 : decide (W ≤ t) = false := by simp; omega
        clear hW
        go_wp2_with (go_at_call 19; (with_reducible refine (works_calls T _).mono ?_); rintro e wz ⟨rfl, HZ⟩)
        go_ret
        exact ⟨rfl, (HR8.out.kw.below HZ).bel⟩
theorem walk (S : Poly.Spec) (T : Wl.Spec) (w : World) (n0 : Nat) (hn0 : n0 < 256) (n1 : Nat) (hn1 : n1 < 256) (A2 : Option Addr) (l2 : List Int) (c2 : Nat) (hb2 : Row w A2 (Rd.zs l2)) (A3 : Option Addr) (l3 : List Nat) (c3 : Nat) (hb3 : Bytes w A3 l3) (hc3 : l3.length ≤ c3) (_hm3 : c3 ≤ 9223372036854775807) (n4 : Nat) (hn4 : n4 < 256) :
    Calls Tryz.prog 16 #[.int .u8 (n0 : Nat), .int .u8 (n1 : Nat), .slice A2 l2.length c2, .slice A3 l3.length c3, .int .u8 (n4 : Nat)] w fun e w' => e = .returned (.bool true) ∧ Below w.heap.size w w' := by
  obtain ⟨p3, rfl⟩ := of_bytes l3 hb3.lt
  exact core S T w n0 n1 hn0 hn1 A2 l2 _ c2 A3 p3 _ c3 n4 hn4 rfl hb2 (bs_length p3).symm hb3 hc3
end Go.Proofs.YtiapokojlkdddaaGreat.welchOnly
