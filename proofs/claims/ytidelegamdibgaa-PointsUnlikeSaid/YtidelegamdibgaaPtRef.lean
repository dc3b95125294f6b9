/- What the definition's calls on points do: Of, Common, Spread, Cosets, Group. -/
import Derived.Test.YtidelegamdibgaaPtOps
import Derived.Test.YtidelegamdibgaaGfRef
import Derived.Test.YtidelegamdibgaaGfMath2
namespace Go.Proofs.Ytidelegamdibgaa.Pt
open Go.RowKit Go.Shelf Poly GF
attribute [local go_sem] Oper.semAt_some

/-- A list of one's own and an error's number. -/
def RPts (w : World) (r : List Nat × Int) (e : Ending) (w' : World) : Prop :=
  ∃ v, e = .returned (.tuple #[v, .int .i64 r.2]) ∧ Own w' w.heap.size 5 v (bv r.1) ∧ Below w.heap.size w w'
theorem pts_take {m k : Nat} (hk : k < m) : bv ((pts m).take (k + 1)) = bv ((pts m).take k) ++ [.int .u8 (gp k : Nat)] := by
  have hl : k < (pts m).length := by rw [pts_length]; exact hk
  rw [take_succ' _ hl, bv_append]
  congr 1
  simp [bv, pts]
set_option maxRecDepth 100000 in
set_option maxHeartbeats 2000000 in
theorem refOf_calls (n : Int) (w : World) : Calls Try.prog 34 #[.int .i64 n] w (RPts w (ofR n)) := by
  by_cases h0 : n < 0
  · have e1 : ofR n = ([], 2) := if_neg (by omega)
    rw [e1]
    go_enter Try.func34, Try.ntmps34
    go_wp2
    go_ret2
    exact ⟨_, rfl, Own.nil _ _ _, Below.refl _ _⟩
  by_cases h1 : 255 < n
  · have e1 : ofR n = ([], 2) := if_neg (by omega)
    rw [e1]
    go_enter Try.func34, Try.ntmps34
    go_wp2
    go_ret2
    exact ⟨_, rfl, Own.nil _ _ _, Below.refl _ _⟩
  obtain ⟨m, rfl⟩ : ∃ m : Nat, n = (m : Int) := ⟨n.toNat, by omega⟩
  have e1 : ofR (m : Int) = (pts m, 0) := by
    unfold ofR
    rw [if_pos (by omega), Int.toNat_natCast]
  rw [e1]
  clear e1
  go_enter Try.func34, Try.ntmps34
  go_wp2
  go_loopw [4, 5] (fun v i wr => ∃ k : Nat, k ≤ m ∧ i = .int .i64 k ∧ Own wr w.heap.size 5 v (bv ((pts m).take k)) ∧ Below w.heap.size w wr) (fun _ i _ => m - (intOf i).toNat)
  case atStart => exact ⟨0, Nat.zero_le _, rfl, Own.nil _ _ _, Below.refl _ _⟩
  case round =>
    obtain ⟨k, hk, rfl, hO, hB⟩ := hrel
    have hsz := hB.size
    obtain ⟨A, c, rfl, _⟩ := hO.form
    have hlen : (bv ((pts m).take k)).length = k := by rw [bv_length, List.length_take, pts_length]; omega
    rw [hlen] at hO ⊢
    by_cases hkm : k < m
    · have HT := Lib.hid (pts_take hkm)
      have HL := Lib.hid hlen
      clear hlen
      have HG : Hid (gpow 2 (k : Int) = gp k) := Lib.hid (by rw [gpow_two, ge_nat])
      go_wp2_with fail
      refine (refPow_calls 2 (by decide) (k : Int) (by omega) (by omega) _).mono ?_
      rintro e w1 ⟨rfl, rfl⟩
      rw [HG.out]
      go_wp2_with (at_builtin; refine wpList_app _ rfl _ _ 22 rfl w.heap.size 5 (.int .u8 0) 1 Try.underlying22 info_b rfl (by decide) _ _ rfl (hO.alloc _) _ 1 1 [.int .u8 (gp k : Nat)] rfl rfl (Row.new _ _ _ _) (by intro u hu; obtain rfl := List.mem_singleton.1 hu; rfl) (by rw [HL.out]; omega) (by simp; omega) ?_; rintro v2 w2 hO2 hgr hb)
      have hB2 := (hB.alloc hsz _).trans ((hO.alloc _).grew (by simp; omega) hgr)
      go_roundw
      case rel => exact ⟨k + 1, by omega, by go_num, by rw [HT.out]; exact hO2, hB2⟩
      case measure => simp [intOf]; omega
    · obtain rfl : k = m := by omega
      have ht : (pts k).take k = pts k := List.take_of_length_le (by rw [pts_length]; exact Nat.le_refl _)
      rw [ht] at hO
      go_wp2
      go_ret2
      exact ⟨_, rfl, hO, hB⟩
/-- The greatest number up to k that divides a and 255. -/
def cm (a : Nat) : Nat → Nat
  | 0 => 1
  | k + 1 => if a % (k + 1) = 0 ∧ 255 % (k + 1) = 0 then k + 1 else cm a k
theorem cm_gcd' : ∀ a, a < 256 → 0 < a → cm a a = Nat.gcd 255 a := by decide +kernel
theorem cm_gcd {a : Nat} (h : 0 < a) (h2 : a ≤ 255) : cm a a = Nat.gcd 255 a := cm_gcd' a (by omega) h
set_option maxRecDepth 100000 in
set_option maxHeartbeats 2000000 in
theorem refCommon_calls (a : Nat) (ha : 0 < a) (ha2 : a ≤ 255) (w : World) : Calls Try.prog 75 #[.int .i64 a, .int .i64 255] w fun e w' => e = .returned (.int .i64 (Nat.gcd 255 a : Nat)) ∧ w = w' := by
  rw [← cm_gcd ha ha2]
  go_enter Try.func75, Try.ntmps75
  go_wp2
  go_loop [5, 6] (fun c i => ∃ k : Nat, k ≤ a ∧ i = .int .i64 ((k : Int) + 1) ∧ c = .int .i64 (cm a k : Nat)) (fun _ i => a + 1 - (intOf i).toNat)
  case atStart => exact ⟨0, Nat.zero_le _, rfl, rfl⟩
  case round =>
    obtain ⟨k, hk, rfl, rfl⟩ := hrel
    by_cases hka : k < a
    · obtain ⟨i, hi⟩ : ∃ i, k + 1 = i := ⟨_, rfl⟩
      have hi2 : (k : Int) + 1 = (i : Int) := by omega
      have hin : ¬ ((i : Int) = 0) := by omega
      have hm1 : (a : Int).tmod (i : Int) = ((a % i : Nat) : Int) := by rw [Int.tmod_eq_emod_of_nonneg (by omega)]; simp
      have hm2 : (255 : Int).tmod (i : Int) = ((255 % i : Nat) : Int) := by rw [Int.tmod_eq_emod_of_nonneg (by decide)]; simp
      have HC : Hid (cm a i = if a % i = 0 ∧ 255 % i = 0 then i else cm a k) := Lib.hid (by rw [← hi]; rfl)
      have hle1 : a % i ≤ a := Nat.mod_le _ _
      have hle2 : 255 % i ≤ 255 := Nat.mod_le _ _
      rw [hi2]
      clear hi2
      obtain ⟨x, hx⟩ : ∃ x, a % i = x := ⟨_, rfl⟩
      obtain ⟨y, hy⟩ : ∃ y, 255 % i = y := ⟨_, rfl⟩
      rw [hx] at hm1 hle1 HC
      rw [hy] at hm2 hle2 HC
      have hia : i ≤ a := by omega
      have HI := Lib.hid hi
      clear hx hy hi
      by_cases hx0 : x = 0
      · subst hx0
        by_cases hy0 : y = 0
        · subst hy0
          go_wp2
          go_round
          case rel => exact ⟨i, by have := HI.out; omega, by go_num, by rw [HC.out]; rfl⟩
          case measure => simp [intOf]; have := HI.out; omega
        · have hy1 : ¬ ((y : Int) = 0) := by omega
          go_wp2
          go_round
          case rel => exact ⟨i, by have := HI.out; omega, by go_num, by rw [HC.out, if_neg (by omega)]⟩
          case measure => simp [intOf]; have := HI.out; omega
      · have hx1 : ¬ ((x : Int) = 0) := by omega
        go_wp2
        go_round
        case rel => exact ⟨i, by have := HI.out; omega, by go_num, by rw [HC.out, if_neg (by omega)]⟩
        case measure => simp [intOf]; have := HI.out; omega
    · obtain rfl : k = a := by omega
      go_wp2
      go_ret
      exact ⟨rfl, rfl⟩
set_option maxRecDepth 100000 in
set_option maxHeartbeats 2000000 in
theorem refSpread_calls (n a : Int) (w : World) : Calls Try.prog 36 #[.int .i64 n, .int .i64 a] w (RPts w (spreadR n a)) := by
  by_cases h0 : a < 1
  · have e1 : spreadR n a = ([], 2) := if_neg (by omega)
    rw [e1]
    go_enter Try.func36, Try.ntmps36
    go_wp2
    go_ret2
    exact ⟨_, rfl, Own.nil _ _ _, Below.refl _ _⟩
  by_cases h1 : 255 < a
  · have e1 : spreadR n a = ([], 2) := if_neg (by omega)
    rw [e1]
    go_enter Try.func36, Try.ntmps36
    go_wp2
    go_ret2
    exact ⟨_, rfl, Own.nil _ _ _, Below.refl _ _⟩
  by_cases hn : n < 0
  · have e1 : spreadR n a = ([], 2) := if_neg (by omega)
    rw [e1]
    go_enter Try.func36, Try.ntmps36
    go_wp2
    go_ret2
    exact ⟨_, rfl, Own.nil _ _ _, Below.refl _ _⟩
  obtain ⟨b, rfl⟩ : ∃ b : Nat, a = (b : Int) := ⟨a.toNat, by omega⟩
  obtain ⟨m, rfl⟩ : ∃ m : Nat, n = (m : Int) := ⟨n.toNat, by omega⟩
  have hc := refCommon_calls b (by omega) (by omega) w
  have hg0 : 0 < Nat.gcd 255 b := Nat.gcd_pos_of_pos_left _ (by decide)
  have hR : spreadR (m : Int) (b : Int) = if m ≤ 255 / Nat.gcd 255 b then ofR (m : Int) else ([], 2) := by
    have hl := lim_le b
    unfold spreadR ofR
    rw [Int.toNat_natCast, Int.toNat_natCast]
    by_cases h : m ≤ 255 / Nat.gcd 255 b
    · have h2 : m ≤ lim b := h
      rw [if_pos h, if_pos (by omega), if_pos (by omega)]
    · have h2 : ¬ m ≤ lim b := h
      rw [if_neg h, if_neg (by omega)]
  rw [hR]
  clear hR
  obtain ⟨g, hg⟩ : ∃ g, Nat.gcd 255 b = g := ⟨_, rfl⟩
  rw [hg] at hc hg0 ⊢
  clear hg
  have hgn : ¬ ((g : Int) = 0) := by omega
  have hdiv : (255 : Int).tdiv (g : Int) = ((255 / g : Nat) : Int) := by rw [Int.tdiv_eq_ediv_of_nonneg (by decide)]; simp
  have hdle : 255 / g ≤ 255 := Nat.div_le_self _ _
  obtain ⟨t, ht⟩ : ∃ t, 255 / g = t := ⟨_, rfl⟩
  rw [ht] at hdiv hdle ⊢
  clear ht
  by_cases hmt : m ≤ t
  · rw [if_pos hmt]
    go_enter Try.func36, Try.ntmps36
    go_wp2_with (go_at_call 75; refine hc.mono ?_; rintro e w1 ⟨rfl, rfl⟩)
    go_wp2_with (go_at_call 34; refine (refOf_calls (m : Int) _).mono ?_; rintro e w3 ⟨v, rfl, hO, hB⟩; obtain ⟨A, c, rfl, _⟩ := hO.form)
    go_ret2
    exact ⟨_, rfl, hO, hB⟩
  · rw [if_neg hmt]
    go_enter Try.func36, Try.ntmps36
    go_wp2_with (go_at_call 75; refine hc.mono ?_; rintro e w1 ⟨rfl, rfl⟩)
    go_ret2
    exact ⟨_, rfl, Own.nil _ _ _, Below.refl _ _⟩
theorem gpts_take {s t G c e : Nat} (hc : c < G) (he : e < s) : bv ((gpts s t G).take (c * s + e + 1)) = bv ((gpts s t G).take (c * s + e)) ++ [.int .u8 (gp (c + e * t) : Nat)] := by
  have h := gpts_at (t := t) hc he
  obtain ⟨hl, hv⟩ := List.getElem?_eq_some_iff.1 h
  have hl' : c * s + e < (gpts s t G).length := by rwa [bv_length] at hl
  rw [take_succ' _ hl', bv_append]
  congr 1
  rw [← hv]
  simp [bv]
theorem gpow_gp (t e : Nat) (he : e < 255) : gpow (gp t) (e : Int) = gp (t * e) := by
  rw [← rpow_eq (gp_lt t) (gp_ne t), ← rpow_gp]
  congr 1
  omega
theorem gpt_val (c t e : Nat) (he : e < 255) : gm (gp c) (gpow (gp t) (e : Int)) = gp (c + e * t) := by
  rw [gpow_gp t e he, gm_pow, Nat.mul_comm]
set_option maxRecDepth 100000 in
set_option maxHeartbeats 2000000 in
theorem refCosets_calls (r G : Int) (w : World) : Calls Try.prog 38 #[.int .i64 r, .int .i64 G] w (RPts w (cosetsR r G)) := by
  by_cases h0 : r < 1
  · have e1 : cosetsR r G = ([], 2) := if_neg (by omega)
    rw [e1]
    go_enter Try.func38, Try.ntmps38
    go_wp2
    go_ret2
    exact ⟨_, rfl, Own.nil _ _ _, Below.refl _ _⟩
  by_cases h2 : 254 < r
  · have e1 : cosetsR r G = ([], 2) := if_neg (by omega)
    rw [e1]
    go_enter Try.func38, Try.ntmps38
    go_wp2
    go_ret2
    exact ⟨_, rfl, Own.nil _ _ _, Below.refl _ _⟩
  obtain ⟨m, rfl⟩ : ∃ m : Nat, r = (m : Int) := ⟨r.toNat, by omega⟩
  obtain ⟨s, hs⟩ : ∃ s : Nat, m + 1 = s := ⟨_, rfl⟩
  have hs1 : (m : Int) + 1 = (s : Int) := by omega
  have hsn : ¬ ((s : Int) = 0) := by omega
  have hmod : (255 : Int).tmod (s : Int) = ((255 % s : Nat) : Int) := by rw [Int.tmod_eq_emod_of_nonneg (by decide)]; simp
  have hmod2 : (255 : Int) % (s : Int) = ((255 % s : Nat) : Int) := by simp
  have hdiv : (255 : Int).tdiv (s : Int) = ((255 / s : Nat) : Int) := by rw [Int.tdiv_eq_ediv_of_nonneg (by decide)]; simp
  have hdiv2 : (255 : Int) / (s : Int) = ((255 / s : Nat) : Int) := by simp
  have hR : cosetsR (m : Int) G = if 255 % s = 0 ∧ 0 ≤ G ∧ G ≤ ((255 / s : Nat) : Int) then (gpts s (255 / s) G.toNat, 0) else ([], 2) := by
    unfold cosetsR
    rw [hs1, hmod2, hdiv2, Int.toNat_natCast, hs]
    by_cases h : 255 % s = 0 ∧ 0 ≤ G ∧ G ≤ ((255 / s : Nat) : Int)
    · rw [if_pos h, if_pos (by omega)]
    · rw [if_neg h, if_neg (by omega)]
  have hdle : 255 / s ≤ 255 := Nat.div_le_self _ _
  have hmle : 255 % s ≤ 255 := Nat.mod_le _ _
  rw [hR]
  clear hR hmod2 hdiv2
  obtain ⟨t, ht⟩ : ∃ t, 255 / s = t := ⟨_, rfl⟩
  obtain ⟨q, hq⟩ : ∃ q, 255 % s = q := ⟨_, rfl⟩
  have hprod : t * s ≤ 255 := by rw [← ht]; exact Nat.div_mul_le_self _ _
  rw [ht] at hdiv hdle ⊢
  rw [hq] at hmod hmle ⊢
  have HS := Lib.hid hs
  clear ht hq
  by_cases h3 : q = 0
  · subst h3
    by_cases h4 : G < 0
    · rw [if_neg (by omega)]
      go_enter Try.func38, Try.ntmps38
      go_wp2
      go_ret2
      exact ⟨_, rfl, Own.nil _ _ _, Below.refl _ _⟩
    by_cases h5 : (t : Int) < G
    · rw [if_neg (by omega)]
      go_enter Try.func38, Try.ntmps38
      go_wp2
      go_ret2
      exact ⟨_, rfl, Own.nil _ _ _, Below.refl _ _⟩
    obtain ⟨k, rfl⟩ : ∃ k : Nat, G = (k : Int) := ⟨G.toNat, by omega⟩
    rw [if_pos (by omega), Int.toNat_natCast]
    have hkt : k ≤ t := by omega
    have hks : k * s ≤ 255 := Nat.le_trans (Nat.mul_le_mul_right s hkt) hprod
    have hms : m < s := by omega
    have HK : Hid (k ≤ t) := Lib.hid hkt
    have HP : Hid (k * s ≤ 255) := Lib.hid hks
    clear hprod hs hkt hks
    have HG : Hid (gpow 2 (t : Int) = gp t) := Lib.hid (by rw [gpow_two, ge_nat])
    go_enter Try.func38, Try.ntmps38
    go_wp2_with fail
    refine (refPow_calls 2 (by decide) (t : Int) (by omega) (by omega) _).mono ?_
    rintro e w1 ⟨rfl, rfl⟩
    rw [HG.out]
    go_wp2
    go_loopw [7, 8] (fun v i wr => ∃ c : Nat, c ≤ k ∧ i = .int .i64 c ∧ Own wr w.heap.size 5 v (bv ((gpts s t k).take (c * s))) ∧ Below w.heap.size w wr) (fun _ i _ => k - (intOf i).toNat)
    case atStart => exact ⟨0, Nat.zero_le _, rfl, by rw [Nat.zero_mul]; exact Own.nil _ _ _, Below.refl _ _⟩
    case round =>
      obtain ⟨c, hck, rfl, hO, hB⟩ := hrel
      by_cases hlt : c < k
      · obtain ⟨A, cc, rfl, _⟩ := hO.form
        generalize (bv ((gpts s t k).take (c * s))).length = ll at hO ⊢
        go_wp2
        go_loopw [7, 9] (fun v i wr2 => ∃ e : Nat, e ≤ s ∧ i = .int .i64 e ∧ Own wr2 w.heap.size 5 v (bv ((gpts s t k).take (c * s + e))) ∧ Below w.heap.size w wr2) (fun _ i _ => s - (intOf i).toNat)
        case atStart => exact ⟨0, Nat.zero_le _, rfl, hO, hB⟩
        case round =>
          obtain ⟨e, hes, rfl, hO2, hB2⟩ := hrel
          have hsz := hB2.size
          obtain ⟨A2, cc2, rfl, _⟩ := hO2.form
          have hll : (bv ((gpts s t k).take (c * s + e))).length ≤ 255 := by
            have := HP.out
            rw [bv_length, List.length_take, gpts_length]; omega
          obtain ⟨l2, hl2⟩ : ∃ l2, (bv ((gpts s t k).take (c * s + e))).length = l2 := ⟨_, rfl⟩
          rw [hl2] at hO2 hll ⊢
          have HL := Lib.hid hl2
          clear hl2
          by_cases hel : e < s
          · have hem : ¬ ((m : Int) < (e : Int)) := by have := HS.out; omega
            have he255 : e < 255 := by have := HS.out; omega
            have HT := Lib.hid (gpts_take (t := t) hlt hel)
            have HV := Lib.hid (gpt_val c t e he255)
            have HC : Hid (gpow 2 (c : Int) = gp c) := Lib.hid (by rw [gpow_two, ge_nat])
            have hcb : c < 256 := by have := HK.out; omega
            go_wp2_with fail
            refine (refPow_calls 2 (by decide) (c : Int) (by omega) (by omega) _).mono ?_
            rintro ee w1 ⟨rfl, rfl⟩
            rw [HC.out]
            go_wp2_with fail
            refine (refPow_calls (gp t) (gp_lt t) (e : Int) (by omega) (by omega) _).mono ?_
            rintro ee w1 ⟨rfl, rfl⟩
            go_wp2_with fail
            refine (refMul_calls (gp c) (gpow (gp t) (e : Int)) (gp_lt c) (gpow_lt _ _) _).mono ?_
            rintro ee w1 ⟨rfl, rfl⟩
            rw [HV.out]
            generalize hgv : gp (c + e * t) = gv at HT ⊢
            clear hgv HV
            go_wp2_with (at_builtin; refine wpList_app _ rfl _ _ 22 rfl w.heap.size 5 (.int .u8 0) 1 Try.underlying22 info_b rfl (by decide) _ _ rfl (hO2.alloc _) _ 1 1 [.int .u8 (gv : Nat)] rfl rfl (Row.new _ _ _ _) (by intro u hu; obtain rfl := List.mem_singleton.1 hu; rfl) (by rw [HL.out]; omega) (by simp; omega) ?_; rintro v2 w2 hO3 hgr hb)
            have hB3 := (hB2.alloc hsz _).trans ((hO2.alloc _).grew (by simp; omega) hgr)
            go_roundw
            case rel => exact ⟨e + 1, by omega, by go_num, by rw [← Nat.add_assoc, HT.out]; exact hO3, hB3⟩
            case measure => simp [intOf]; omega
          · obtain rfl : e = s := by omega
            have hem : (m : Int) < (e : Int) := by omega
            have hnx : c * e + e = (c + 1) * e := by rw [Nat.add_mul, Nat.one_mul]
            rw [hnx] at hO2
            clear hnx HL
            go_wp2
            go_roundw
            case rel => exact ⟨c + 1, by omega, by go_num, hO2, hB2⟩
            case measure => simp [intOf]; omega
      · obtain rfl : c = k := by omega
        have ht : (gpts s t c).take (c * s) = gpts s t c := List.take_of_length_le (by rw [gpts_length]; exact Nat.le_refl _)
        rw [ht] at hO
        clear ht
        obtain ⟨A, cc, rfl, _⟩ := hO.form
        generalize (bv (gpts s t c)).length = ll at hO ⊢
        go_wp2
        go_ret2
        exact ⟨_, rfl, hO, hB⟩
  · rw [if_neg (by omega)]
    have h6 : ¬ ((q : Int) = 0) := by omega
    go_enter Try.func38, Try.ntmps38
    go_wp2
    go_ret2
    exact ⟨_, rfl, Own.nil _ _ _, Below.refl _ _⟩
theorem othersL_take {a q r e : Nat} (he : e < r + 1) (hne : e ≠ q) (hq : q < r + 1) : (nv (othersL a q r)).take (oi q e + 1) = (nv (othersL a q r)).take (oi q e) ++ [.int .i64 ((a : Int) + (e : Int))] := by
  obtain ⟨hl, hv⟩ := List.getElem?_eq_some_iff.1 (othersL_at (a := a) he hne hq)
  rw [take_succ' _ hl, hv]
theorem nv_take (l : List Nat) (k : Nat) : (nv l).take k = nv (l.take k) := by simp [nv, List.map_take]
set_option maxRecDepth 100000 in
set_option maxHeartbeats 2000000 in
theorem refGroup_calls (r i : Int) (hi2 : i ≤ 1099511627776) (w : World) : Calls Try.prog 43 #[.int .i64 r, .int .i64 i] w (Nums w (groupR r i)) := by
  by_cases h : 1 ≤ r ∧ r ≤ 255 ∧ 0 ≤ i
  · unfold groupR
    rw [if_pos h]
    obtain ⟨h1, h2, h3⟩ := h
    obtain ⟨m, rfl⟩ : ∃ m : Nat, r = (m : Int) := ⟨r.toNat, by omega⟩
    obtain ⟨k, rfl⟩ : ∃ k : Nat, i = (k : Int) := ⟨i.toNat, by omega⟩
    rw [Int.toNat_natCast, Int.toNat_natCast]
    obtain ⟨s, hs⟩ : ∃ s : Nat, m + 1 = s := ⟨_, rfl⟩
    have hs1 : (m : Int) + 1 = (s : Int) := by omega
    have hsn : ¬ ((s : Int) = 0) := by omega
    rw [hs]
    have hdiv : (k : Int).tdiv (s : Int) = ((k / s : Nat) : Int) := by rw [Int.tdiv_eq_ediv_of_nonneg (by omega)]; simp
    have hdle : k / s ≤ k := Nat.div_le_self _ _
    have hmul : ((k / s : Nat) : Int) * (s : Int) = ((k / s * s : Nat) : Int) := by simp
    have hkq' := Nat.div_add_mod k s
    rw [Nat.mul_comm] at hkq'
    have hqs : k % s < s := Nat.mod_lt _ (by omega)
    obtain ⟨d, hd⟩ : ∃ d, k / s = d := ⟨_, rfl⟩
    rw [hd] at hdiv hdle hmul hkq' ⊢
    obtain ⟨a, ha⟩ : ∃ a, d * s = a := ⟨_, rfl⟩
    obtain ⟨q, hq⟩ : ∃ q, k % s = q := ⟨_, rfl⟩
    rw [ha] at hmul hkq' ⊢
    rw [hq] at hqs hkq' ⊢
    have hak : a ≤ k := by omega
    have HKQ : Hid (a + q = k) := Lib.hid hkq'
    have HS := Lib.hid hs
    have hlen : (nv (othersL a q m)).length = oi q s := by unfold oi othersL; rw [if_neg (by omega)]; simp [nv]; omega
    have HLEN := Lib.hid hlen
    clear ha hq hd hkq' hs hlen
    go_enter Try.func43, Try.ntmps43
    go_wp2
    go_loopw [5, 6] (fun v i wr => ∃ e : Nat, e ≤ s ∧ i = .int .i64 e ∧ Own wr w.heap.size 3 v ((nv (othersL a q m)).take (oi q e)) ∧ Below w.heap.size w wr) (fun _ i _ => s - (intOf i).toNat)
    case atStart => exact ⟨0, Nat.zero_le _, rfl, Own.nil _ _ _, Below.refl _ _⟩
    case round =>
      obtain ⟨e, hes, rfl, hO, hB⟩ := hrel
      have hsz := hB.size
      obtain ⟨A, cc, rfl, _⟩ := hO.form
      have hll : ((nv (othersL a q m)).take (oi q e)).length ≤ 256 := by
        have h5 := HS.out
        have h4 : oi q e ≤ e := by unfold oi; split <;> omega
        rw [List.length_take]; omega
      obtain ⟨l2, hl2⟩ : ∃ l2, ((nv (othersL a q m)).take (oi q e)).length = l2 := ⟨_, rfl⟩
      rw [hl2] at hO hll ⊢
      have HL := Lib.hid hl2
      clear hl2
      by_cases hel : e < s
      · have hem : ¬ ((m : Int) < (e : Int)) := by have := HS.out; omega
        by_cases hne : e = q
        · subst hne
          have hnext : oi e (e + 1) = oi e e := by unfold oi; rw [if_neg (by omega), if_pos (by omega)]; omega
          have hkk : (a : Int) + (e : Int) = (k : Int) := by have := HKQ.out; omega
          have HN := Lib.hid hnext
          clear hnext
          go_wp2
          go_roundw
          case rel => exact ⟨e + 1, by omega, by go_num, by rw [HN.out]; exact hO, hB⟩
          case measure => simp [intOf]; omega
        · have hnext : oi q (e + 1) = oi q e + 1 := by unfold oi; split <;> split <;> omega
          have hkk : ¬ ((a : Int) + (e : Int) = (k : Int)) := by have := HKQ.out; omega
          have HN := Lib.hid hnext
          have HT := Lib.hid (othersL_take (a := a) (q := q) (r := m) (e := e) (by have := HS.out; omega) hne (by have := HS.out; omega))
          clear hnext
          go_wp2_with (at_builtin; refine wpList_app _ rfl _ _ 25 rfl w.heap.size 3 (.int .i64 0) 8 Try.underlying25 info_i rfl (by decide) _ _ rfl (hO.alloc _) _ 1 1 [.int .i64 ((a : Int) + (e : Int))] rfl rfl (Row.new _ _ _ _) (by intro u hu; obtain rfl := List.mem_singleton.1 hu; rfl) (by rw [HL.out]; omega) (by simp; omega) ?_; rintro v2 w2 hO3 hgr hb)
          have hB3 := (hB.alloc hsz _).trans ((hO.alloc _).grew (by simp; omega) hgr)
          go_roundw
          case rel => exact ⟨e + 1, by omega, by go_num, by rw [HN.out, HT.out]; exact hO3, hB3⟩
          case measure => simp [intOf]; omega
      · obtain rfl : e = s := by omega
        have hem : (m : Int) < (e : Int) := by omega
        rw [← HLEN.out, List.take_length] at hO
        clear HL
        go_wp2
        go_ret
        exact ⟨_, rfl, hO, hB⟩
  · have e1 : groupR r i = [] := if_neg h
    rw [e1]
    by_cases h0 : r < 1
    · have h1 : ¬ (1 ≤ r) := by omega
      go_enter Try.func43, Try.ntmps43
      go_wp2
      go_loopw [5, 6] (fun v i wr => v = .slice none 0 0 ∧ i = .int .i64 0 ∧ wr = w) (fun _ _ _ => 0)
      case atStart => exact ⟨rfl, rfl, rfl⟩
      case round =>
        obtain ⟨rfl, rfl, rfl⟩ := hrel
        go_wp2
        go_ret
        exact ⟨_, rfl, Own.nil _ _ _, Below.refl _ _⟩
    by_cases h1 : 255 < r
    · have h2 : ¬ (r ≤ 255) := by omega
      go_enter Try.func43, Try.ntmps43
      go_wp2
      go_loopw [5, 6] (fun v i wr => v = .slice none 0 0 ∧ i = .int .i64 0 ∧ wr = w) (fun _ _ _ => 0)
      case atStart => exact ⟨rfl, rfl, rfl⟩
      case round =>
        obtain ⟨rfl, rfl, rfl⟩ := hrel
        go_wp2
        go_ret
        exact ⟨_, rfl, Own.nil _ _ _, Below.refl _ _⟩
    have h2 : i < 0 := by omega
    have h3 : ¬ (0 ≤ i) := by omega
    go_enter Try.func43, Try.ntmps43
    go_wp2
    go_loopw [5, 6] (fun v i wr => v = .slice none 0 0 ∧ i = .int .i64 0 ∧ wr = w) (fun _ _ _ => 0)
    case atStart => exact ⟨rfl, rfl, rfl⟩
    case round =>
      obtain ⟨rfl, rfl, rfl⟩ := hrel
      go_wp2
      go_ret
      exact ⟨_, rfl, Own.nil _ _ _, Below.refl _ _⟩
end Go.Proofs.Ytidelegamdibgaa.Pt
