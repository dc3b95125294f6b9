/- What the definition's calls on points do: Of, Common, Spread, Cosets, Group. -/
import Derived.Test.YtikfjbomogekbaaPtOps
import Derived.Test.YtikfjbomogekbaaGfRef
import Derived.Test.YtikfjbomogekbaaGfMath2
namespace Go.Proofs.Ytikfjbomogekbaa.Pt
open Go.RowKit Go.Shelf Poly GF
attribute [local go_sem] Oper.semAt_some

/-- A list of one's own and an error's number. -/
def RPts (w : World) (r : List Nat × Int) (e : Ending) (w' : World) : Prop :=
  ∃ v, e = .returned (.tuple #[v, .int .i64 r.2]) ∧ Own w' w.heap.size 5 v (bv r.1) ∧ Below w.heap.size w w'
theorem pts_take {m k : Nat} (hk : k < m) : bv ((pts m).take (k + 1)) = bv ((pts m).take k) ++ [.int .u8 (gp k : Nat)] := by
  have hl : k < (pts m).length := by rw [pts_length]; exact hk
  rw [take_succ' _ hl, bv_append]
  congr 1
  simp [bv, pts]
set_option maxRecDepth 100000 in
set_option maxHeartbeats 2000000 in
theorem refOf_calls (n : Int) (w : World) : Calls Try.prog 94 #[.int .i64 n] w (RPts w (ofR n)) := by
  by_cases h0 : n < 0
  · have e1 : ofR n = ([], 2) := if_neg (by omega)
    rw [e1]
    go_enter Try.func94, Try.ntmps94
    go_wp2
    go_ret2
    exact ⟨_, rfl, Own.nil _ _ _, Below.refl _ _⟩
  by_cases h1 : 255 < n
  · have e1 : ofR n = ([], 2) := if_neg (by omega)
    rw [e1]
    go_enter Try.func94, Try.ntmps94
    go_wp2
    go_ret2
    exact ⟨_, rfl, Own.nil _ _ _, Below.refl _ _⟩
  obtain ⟨m, rfl⟩ : ∃ m : Nat, n = (m : Int) := ⟨n.toNat, by omega⟩
  have e1 : ofR (m : Int) = (pts m, 0) := by
    unfold ofR
    rw [if_pos (by omega), Int.toNat_natCast]
  rw [e1]
  clear e1
  go_enter Try.func94, Try.ntmps94
  go_wp2
  go_loopw [4, 5] (fun v i wr => ∃ k : Nat, k ≤ m ∧ i = .int .i64 k ∧ Own wr w.heap.size 5 v (bv ((pts m).take k)) ∧ Below w.heap.size w wr) (fun _ i _ => m - (intOf i).toNat)
  case atStart => exact ⟨0, Nat.zero_le _, rfl, Own.nil _ _ _, Below.refl _ _⟩
  case round =>
    obtain ⟨k, hk, rfl, hO, hB⟩ := hrel
    have hsz := hB.size
    obtain ⟨A, c, rfl, _⟩ := hO.form
    have hlen : (bv ((pts m).take k)).length = k := by rw [bv_length, List.length_take, pts_length]; omega
    rw [hlen] at hO ⊢
    by_cases hkm : k < m
    · have HT := Lib.hid (pts_take hkm)
      have HL := Lib.hid hlen
      clear hlen
      have HG : Hid (gpow 2 (k : Int) = gp k) := Lib.hid (by rw [gpow_two, ge_nat])
      go_wp2_with fail
      refine (refPow_calls 2 (by decide) (k : Int) (by omega) (by omega) _).mono ?_
      rintro e w1 ⟨rfl, rfl⟩
      rw [HG.out]
      go_wp2_with (at_builtin; refine wpList_app _ rfl _ _ 32 rfl w.heap.size 5 (.int .u8 0) 1 Try.underlying32 info_b rfl (by decide) _ _ rfl (hO.alloc _) _ 1 1 [.int .u8 (gp k : Nat)] rfl rfl (Row.new _ _ _ _) (by intro u hu; obtain rfl := List.mem_singleton.1 hu; rfl) (by rw [HL.out]; omega) (by simp; omega) ?_; rintro v2 w2 hO2 hgr hb)
      have hB2 := (hB.alloc hsz _).trans ((hO.alloc _).grew (by simp; omega) hgr)
      go_roundw
      case rel => exact ⟨k + 1, by omega, by go_num, by rw [HT.out]; exact hO2, hB2⟩
      case measure => simp [intOf]; omega
    · obtain rfl : k = m := by omega
      have ht : (pts k).take k = pts k := List.take_of_length_le (by rw [pts_length]; exact Nat.le_refl _)
      rw [ht] at hO
      go_wp2
      go_ret2
      exact ⟨_, rfl, hO, hB⟩
/-- The greatest number up to k that divides a and 255. -/
def cm (a : Nat) : Nat → Nat
  | 0 => 1
  | k + 1 => if a % (k + 1) = 0 ∧ 255 % (k + 1) = 0 then k + 1 else cm a k
theorem cm_gcd' : ∀ a, a < 256 → 0 < a → cm a a = Nat.gcd 255 a := by decide +kernel
theorem cm_gcd {a : Nat} (h : 0 < a) (h2 : a ≤ 255) : cm a a = Nat.gcd 255 a := cm_gcd' a (by omega) h
set_option maxRecDepth 100000 in
set_option maxHeartbeats 2000000 in
theorem refCommon_calls (a : Nat) (ha : 0 < a) (ha2 : a ≤ 255) (w : World) : Calls Try.prog 93 #[.int .i64 a, .int .i64 255] w fun e w' => e = .returned (.int .i64 (Nat.gcd 255 a : Nat)) ∧ w = w' := by
  rw [← cm_gcd ha ha2]
  go_enter Try.func93, Try.ntmps93
  go_wp2
  go_loop [5, 6] (fun c i => ∃ k : Nat, k ≤ a ∧ i = .int .i64 ((k : Int) + 1) ∧ c = .int .i64 (cm a k : Nat)) (fun _ i => a + 1 - (intOf i).toNat)
  case atStart => exact ⟨0, Nat.zero_le _, rfl, rfl⟩
  case round =>
    obtain ⟨k, hk, rfl, rfl⟩ := hrel
    by_cases hka : k < a
    · obtain ⟨i, hi⟩ : ∃ i, k + 1 = i := ⟨_, rfl⟩
      have hi2 : (k : Int) + 1 = (i : Int) := by omega
      have hin : ¬ ((i : Int) = 0) := by omega
      have hm1 : (a : Int).tmod (i : Int) = ((a % i : Nat) : Int) := by rw [Int.tmod_eq_emod_of_nonneg (by omega)]; simp
      have hm2 : (255 : Int).tmod (i : Int) = ((255 % i : Nat) : Int) := by rw [Int.tmod_eq_emod_of_nonneg (by decide)]; simp
      have HC : Hid (cm a i = if a % i = 0 ∧ 255 % i = 0 then i else cm a k) := Lib.hid (by rw [← hi]; rfl)
      have hle1 : a % i ≤ a := Nat.mod_le _ _
      have hle2 : 255 % i ≤ 255 := Nat.mod_le _ _
      rw [hi2]
      clear hi2
      obtain ⟨x, hx⟩ : ∃ x, a % i = x := ⟨_, rfl⟩
      obtain ⟨y, hy⟩ : ∃ y, 255 % i = y := ⟨_, rfl⟩
      rw [hx] at hm1 hle1 HC
      rw [hy] at hm2 hle2 HC
      have hia : i ≤ a := by omega
      have HI := Lib.hid hi
      clear hx hy hi
      by_cases hx0 : x = 0
      · subst hx0
        by_cases hy0 : y = 0
        · subst hy0
          go_wp2
          go_round
          case rel => exact ⟨i, by have := HI.out; omega, by go_num, by rw [HC.out]; rfl⟩
          case measure => simp [intOf]; have := HI.out; omega
        · have hy1 : ¬ ((y : Int) = 0) := by omega
          go_wp2
          go_round
          case rel => exact ⟨i, by have := HI.out; omega, by go_num, by rw [HC.out, if_neg (by omega)]⟩
          case measure => simp [intOf]; have := HI.out; omega
      · have hx1 : ¬ ((x : Int) = 0) := by omega
        go_wp2
        go_round
        case rel => exact ⟨i, by have := HI.out; omega, by go_num, by rw [HC.out, if_neg (by omega)]⟩
        case measure => simp [intOf]; have := HI.out; omega
    · obtain rfl : k = a := by omega
      go_wp2
      go_ret
      exact ⟨rfl, rfl⟩
set_option maxRecDepth 100000 in
set_option maxHeartbeats 2000000 in
theorem refSpread_calls (n a : Int) (w : World) : Calls Try.prog 78 #[.int .i64 n, .int .i64 a] w (RPts w (spreadR n a)) := by
  by_cases h0 : a < 1
  · have e1 : spreadR n a = ([], 2) := if_neg (by omega)
    rw [e1]
    go_enter Try.func78, Try.ntmps78
    go_wp2
    go_ret2
    exact ⟨_, rfl, Own.nil _ _ _, Below.refl _ _⟩
  by_cases h1 : 255 < a
  · have e1 : spreadR n a = ([], 2) := if_neg (by omega)
    rw [e1]
    go_enter Try.func78, Try.ntmps78
    go_wp2
    go_ret2
    exact ⟨_, rfl, Own.nil _ _ _, Below.refl _ _⟩
  by_cases hn : n < 0
  · have e1 : spreadR n a = ([], 2) := if_neg (by omega)
    rw [e1]
    go_enter Try.func78, Try.ntmps78
    go_wp2
    go_ret2
    exact ⟨_, rfl, Own.nil _ _ _, Below.refl _ _⟩
  obtain ⟨b, rfl⟩ : ∃ b : Nat, a = (b : Int) := ⟨a.toNat, by omega⟩
  obtain ⟨m, rfl⟩ : ∃ m : Nat, n = (m : Int) := ⟨n.toNat, by omega⟩
  have hc := refCommon_calls b (by omega) (by omega) w
  have hg0 : 0 < Nat.gcd 255 b := Nat.gcd_pos_of_pos_left _ (by decide)
  have hR : spreadR (m : Int) (b : Int) = if m ≤ 255 / Nat.gcd 255 b then ofR (m : Int) else ([], 2) := by
    have hl := lim_le b
    unfold spreadR ofR
    rw [Int.toNat_natCast, Int.toNat_natCast]
    by_cases h : m ≤ 255 / Nat.gcd 255 b
    · have h2 : m ≤ lim b := h
      rw [if_pos h, if_pos (by omega), if_pos (by omega)]
    · have h2 : ¬ m ≤ lim b := h
      rw [if_neg h, if_neg (by omega)]
  rw [hR]
  clear hR
  obtain ⟨g, hg⟩ : ∃ g, Nat.gcd 255 b = g := ⟨_, rfl⟩
  rw [hg] at hc hg0 ⊢
  clear hg
  have hgn : ¬ ((g : Int) = 0) := by omega
  have hdiv : (255 : Int).tdiv (g : Int) = ((255 / g : Nat) : Int) := by rw [Int.tdiv_eq_ediv_of_nonneg (by decide)]; simp
  have hdle : 255 / g ≤ 255 := Nat.div_le_self _ _
  obtain ⟨t, ht⟩ : ∃ t, 255 / g = t := ⟨_, rfl⟩
  rw [ht] at hdiv hdle ⊢
  clear ht
  by_cases hmt : m ≤ t
  · rw [if_pos hmt]
    go_enter Try.func78, Try.ntmps78
    go_wp2_with (go_at_call 93; refine hc.mono ?_; rintro e w1 ⟨rfl, rfl⟩)
    go_wp2_with (go_at_call 94; refine (refOf_calls (m : Int) _).mono ?_; rintro e w3 ⟨v, rfl, hO, hB⟩; obtain ⟨A, c, rfl, _⟩ := hO.form)
    go_ret2
    exact ⟨_, rfl, hO, hB⟩
  · rw [if_neg hmt]
    go_enter Try.func78, Try.ntmps78
    go_wp2_with (go_at_call 93; refine hc.mono ?_; rintro e w1 ⟨rfl, rfl⟩)
    go_ret2
    exact ⟨_, rfl, Own.nil _ _ _, Below.refl _ _⟩
theorem gpts_take {s t G c e : Nat} (hc : c < G) (he : e < s) : bv ((gpts s t G).take (c * s + e + 1)) = bv ((gpts s t G).take (c * s + e)) ++ [.int .u8 (gp (c + e * t) : Nat)] := by
  have h := gpts_at (t := t) hc he
  obtain ⟨hl, hv⟩ := List.getElem?_eq_some_iff.1 h
  have hl' : c * s + e < (gpts s t G).length := by rwa [bv_length] at hl
  rw [take_succ' _ hl', bv_append]
  congr 1
  rw [← hv]
  simp [bv]
theorem gpow_gp (t e : Nat) (he : e < 255) : gpow (gp t) (e : Int) = gp (t * e) := by
  rw [← rpow_eq (gp_lt t) (gp_ne t), ← rpow_gp]
  congr 1
  omega
theorem gpt_val (c t e : Nat) (he : e < 255) : gm (gp c) (gpow (gp t) (e : Int)) = gp (c + e * t) := by
  rw [gpow_gp t e he, gm_pow, Nat.mul_comm]
theorem othersL_take {a q r e : Nat} (he : e < r + 1) (hne : e ≠ q) (hq : q < r + 1) : (nv (othersL a q r)).take (oi q e + 1) = (nv (othersL a q r)).take (oi q e) ++ [.int .i64 ((a : Int) + (e : Int))] := by
  obtain ⟨hl, hv⟩ := List.getElem?_eq_some_iff.1 (othersL_at (a := a) he hne hq)
  rw [take_succ' _ hl, hv]
theorem nv_take (l : List Nat) (k : Nat) : (nv l).take k = nv (l.take k) := by simp [nv, List.map_take]
end Go.Proofs.Ytikfjbomogekbaa.Pt
