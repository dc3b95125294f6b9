/- What the definition's calls do: the product of polynomials and its rest, and what is made of it. -/
import Derived.Test.YtikfjbomogekbaaGfTab
namespace Go.Proofs.Ytikfjbomogekbaa.GF
open Go.RowKit

theorem rmA_step (a b k : Nat) : rmA a b (k + 1) = if b.testBit k then rmA a b k ^^^ (a <<< k) else rmA a b k := rfl
theorem rmR_step (n j : Nat) : rmR n (j + 1) = if (rmR n j).testBit (14 - j) then rmR n j ^^^ (285 <<< (6 - j)) else rmR n j := rfl
theorem shl_lt {a k : Nat} (ha : a < 512) (hk : k ≤ 8) : a <<< k < 131072 := by
  rw [Nat.shiftLeft_eq]
  have : 2 ^ k ≤ 2 ^ 8 := Nat.pow_le_pow_right (by decide) hk
  exact Nat.lt_of_le_of_lt (Nat.mul_le_mul_left a this) (by omega)
theorem shl_int (a k : Nat) : ((a <<< k : Nat) : Int) = (a : Int) * 2 ^ k := by rw [Nat.shiftLeft_eq]; simp
theorem shl_in {a k : Nat} (ha : a < 512) (hk : k ≤ 8) : IntKind.i64.wrap ((a : Int) * 2 ^ k) = (a : Int) * 2 ^ k := by
  have h := shl_lt ha hk
  rw [← shl_int]
  generalize a <<< k = y at h
  exact IntWalk.i64_in _ (by omega)

set_option maxRecDepth 100000 in
set_option maxHeartbeats 1600000 in
theorem refMul_calls (a b : Nat) (ha : a < 256) (hb : b < 256) (w : World) :
    Calls Try.prog 107 #[.int .u8 a, .int .u8 b] w fun e w' => e = .returned (.int .u8 (gm a b : Nat)) ∧ w' = w := by
  go_enter Try.func107, Try.ntmps107
  go_wp2
  go_loop [5, 6] (fun n i => ∃ k : Nat, k ≤ 8 ∧ i = .int .i64 k ∧ n = .int .i64 (rmA a b k : Nat)) (fun _ i => 8 - (intOf i).toNat)
  case atStart => exact ⟨0, by omega, rfl, rfl⟩
  case round =>
    obtain ⟨k, hk, rfl, rfl⟩ := hrel
    have hr := rmA_lt16 ha b k hk
    by_cases hlt : k < 8
    · have HB := bit_u8 b k hb
      have hs := shl_lt (a := a) (k := k) (by omega) hk
      have HX := Lib.hid (i64_xor (rmA a b k) (a <<< k) (by omega) (by omega))
      have hsw := shl_in (a := a) (k := k) (by omega) hk
      have HS := Lib.hid (rmA_step a b k)
      by_cases hbit : b.testBit k = true
      · rw [hbit] at HB
        go_wp2
        go_round
        case rel => exact ⟨k + 1, by omega, by go_num, by rw [HS.out, hbit, if_pos rfl, ← HX.out, shl_int]⟩
        case measure => simp [intOf]; omega
      · have hb2 : b.testBit k = false := by simpa using hbit
        rw [hb2] at HB
        go_wp2
        go_round
        case rel => exact ⟨k + 1, by omega, by go_num, by rw [HS.out, hb2]; rfl⟩
        case measure => simp [intOf]; omega
    · obtain rfl : k = 8 := by omega
      have hx : rmA a b 8 < 65536 := hr
      have HF : Hid (rmR (rmA a b 8) 7 % 256 = gm a b) := Lib.hid (rm_eq ha hb)
      clear hr hlt hk
      obtain ⟨x, hxx⟩ : ∃ x : Nat, rmA a b 8 = x := ⟨_, rfl⟩
      rw [hxx] at hx HF
      simp only [Int.cast_ofNat_Int, hxx]
      clear hxx
      go_wp2
      go_loop [5, 7] (fun n i => ∃ m : Nat, 7 ≤ m ∧ m ≤ 14 ∧ i = .int .i64 m ∧ n = .int .i64 (rmR x (14 - m) : Nat)) (fun _ i => (intOf i).toNat)
      case atStart => exact ⟨14, by omega, by omega, rfl, rfl⟩
      case round =>
        obtain ⟨m, hm7, hm14, rfl, rfl⟩ := hrel
        have hr := rmR_lt hx (14 - m)
        by_cases hge : 8 ≤ m
        · obtain ⟨d, hd⟩ : ∃ d : Nat, (m : Int) - 8 = (d : Int) := ⟨m - 8, by omega⟩
          have hdm : d = m - 8 := by omega
          have HB := bit_i64 (rmR x (14 - m)) m (by omega)
          have hs := shl_lt (a := 285) (k := d) (by omega) (by omega)
          have HX := Lib.hid (i64_xor (rmR x (14 - m)) (285 <<< d) (by omega) (by omega))
          have hsw : IntKind.i64.wrap ((285 : Int) * 2 ^ d) = (285 : Int) * 2 ^ d := shl_in (a := 285) (k := d) (by omega) (by omega)
          have HS : Hid (rmR x (14 - (m - 1)) = if (rmR x (14 - m)).testBit m then rmR x (14 - m) ^^^ (285 <<< d) else rmR x (14 - m)) := by
            have := rmR_step x (14 - m)
            rw [show 14 - (14 - m) = m by omega, show 6 - (14 - m) = d by omega, show 14 - m + 1 = 14 - (m - 1) by omega] at this
            exact Lib.hid this
          clear hdm
          by_cases hbit : (rmR x (14 - m)).testBit m = true
          · rw [hbit] at HB
            go_wp2
            go_round
            case rel => exact ⟨m - 1, by omega, by omega, val_int (by omega), by rw [HS.out, hbit, if_pos rfl, ← HX.out, shl_int]; rfl⟩
            case measure => simp [intOf]; omega
          · have hb2 : (rmR x (14 - m)).testBit m = false := by simpa using hbit
            rw [hb2] at HB
            go_wp2
            go_round
            case rel => exact ⟨m - 1, by omega, by omega, val_int (by omega), by rw [HS.out, hb2]; rfl⟩
            case measure => simp [intOf]; omega
        · obtain rfl : m = 7 := by omega
          go_wp2
          go_ret
          exact ⟨ret_int (by rw [← HF.out]; simp), rfl⟩

theorem gq_ne {b : Nat} (hb : b < 256) (h0 : b ≠ 0) : gq 1 b ≠ 0 := fun h => by
  have := gm_gq (a := 1) (by decide) hb h0
  rw [h, zero_gm] at this
  exact absurd this (by decide)
theorem gq_of {a b : Nat} (ha : a < 256) (hb : b < 256) (h : gm a b = 1) : b = gq 1 a := by
  have a0 : a ≠ 0 := fun e => by subst e; rw [zero_gm] at h; cases h
  rw [← h, gm_comm, gq_gm hb ha a0]
theorem gm_gq1 {a b : Nat} (ha : a < 256) (hb : b < 256) (h0 : b ≠ 0) : gm a (gq 1 b) = gq a b := by
  refine gm_cancel (gm_lt _ _) (gq_lt _ _) hb h0 ?_
  rw [gm_gq ha hb h0, gm_assoc ha (gq_lt _ _) hb, gm_gq (by decide) hb h0, gm_one ha]
theorem rpow_zero (n : Nat) (hn : 0 < n) : rpow 0 n = 0 := by
  cases n with
  | zero => omega
  | succ n => exact gm_zero _

set_option maxRecDepth 100000 in
set_option maxHeartbeats 1600000 in
theorem refPow_calls (a : Nat) (ha : a < 256) (n : Int) (hl : -9223372036854775808 ≤ n) (hh : n < 9223372036854775808) (w : World) :
    Calls Try.prog 102 #[.int .u8 a, .int .i64 n] w fun e w' => e = .returned (.int .u8 (gpow a n : Nat)) ∧ w = w' := by
  by_cases n0 : n = 0
  · subst n0
    rw [show gpow a 0 = 1 from rfl]
    go_enter Try.func102, Try.ntmps102
    go_wp2
    go_ret
    exact ⟨rfl, rfl⟩
  have h0 : (n == 0) = false := by simp; omega
  by_cases a0 : a = 0
  · subst a0
    rw [show gpow 0 n = 0 by unfold gpow; rw [if_neg n0]; rfl]
    go_enter Try.func102, Try.ntmps102
    go_wp2
    go_ret
    exact ⟨rfl, rfl⟩
  have h1 : ((a : Int) == 0) = false := by simp; omega
  have ht := tmod255 n
  have hm : IntKind.i64.wrap (n.tmod 255) = n.tmod 255 := IntWalk.i64_in _ (by omega)
  have HG := Lib.hid (rpow_eq ha a0 n)
  obtain ⟨c, hcn⟩ : ∃ c : Nat, c = (n % 255).toNat := ⟨_, rfl⟩
  rw [← hcn] at HG
  have hc255 : c < 255 := by omega
  obtain ⟨m, hmm⟩ : ∃ m : Int, n.tmod 255 = m := ⟨_, rfl⟩
  rw [hmm] at hm ht
  by_cases hneg : m < 0
  · have hm2 : m + 255 = (c : Int) := by omega
    clear hcn ht
    go_enter Try.func102, Try.ntmps102
    go_wp2
    go_loop [6, 7] (fun x i => ∃ k : Nat, k ≤ c ∧ i = .int .i64 k ∧ x = .int .u8 (rpow a k : Nat)) (fun _ i => c - (intOf i).toNat)
    case atStart => exact ⟨0, by omega, rfl, rfl⟩
    case round =>
      obtain ⟨k, hk, rfl, rfl⟩ := hrel
      have hc : ∀ w, Calls Try.prog 107 #[.int .u8 (rpow a k : Nat), .int .u8 a] w fun e w' => e = .returned (.int .u8 (rpow a (k + 1) : Nat)) ∧ w' = w := refMul_calls (rpow a k) a (rpow_lt a k) ha
      by_cases hlt : k < c
      · go_wp2_with (go_at_call 107; refine (hc _).mono ?_; rintro e w' ⟨rfl, rfl⟩)
        go_round
        case rel => exact ⟨k + 1, by omega, by go_num, rfl⟩
        case measure => simp [intOf]; omega
      · obtain rfl : k = c := by omega
        go_wp2
        go_ret
        exact ⟨ret_nat HG.out, rfl⟩
  · obtain rfl : m = (c : Int) := by omega
    clear hcn ht
    go_enter Try.func102, Try.ntmps102
    go_wp2
    go_loop [6, 7] (fun x i => ∃ k : Nat, k ≤ c ∧ i = .int .i64 k ∧ x = .int .u8 (rpow a k : Nat)) (fun _ i => c - (intOf i).toNat)
    case atStart => exact ⟨0, by omega, rfl, rfl⟩
    case round =>
      obtain ⟨k, hk, rfl, rfl⟩ := hrel
      have hc : ∀ w, Calls Try.prog 107 #[.int .u8 (rpow a k : Nat), .int .u8 a] w fun e w' => e = .returned (.int .u8 (rpow a (k + 1) : Nat)) ∧ w' = w := refMul_calls (rpow a k) a (rpow_lt a k) ha
      by_cases hlt : k < c
      · go_wp2_with (go_at_call 107; refine (hc _).mono ?_; rintro e w' ⟨rfl, rfl⟩)
        go_round
        case rel => exact ⟨k + 1, by omega, by go_num, rfl⟩
        case measure => simp [intOf]; omega
      · obtain rfl : k = c := by omega
        go_wp2
        go_ret
        exact ⟨ret_nat HG.out, rfl⟩

end Go.Proofs.Ytikfjbomogekbaa.GF
