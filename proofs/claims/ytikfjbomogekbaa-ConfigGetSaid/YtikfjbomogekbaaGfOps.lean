/- What a field's calls do. -/
import Derived.Test.YtikfjbomogekbaaGfTab
namespace Go.Proofs.Ytikfjbomogekbaa.GF
open Go.RowKit

theorem add_calls (a b : Nat) (ha : a < 256) (hb : b < 256) (w : World) :
    Calls Try.prog 101 #[.int .u8 a, .int .u8 b] w fun e w' => e = .returned (.int .u8 (a ^^^ b : Nat)) ∧ w = w' := by
  have HX := Lib.hid (u8_xor' a b ha hb)
  go_enter Try.func101, Try.ntmps101
  go_wp2
  go_ret
  exact ⟨ret_int HX.out, rfl⟩

set_option maxHeartbeats 1600000 in
theorem mul_calls (p : Option Addr) (a b : Nat) (ha : a < 256) (hb : b < 256) (w : World) (hp : FldP w p) :
    Calls Try.prog 64 #[.pointer p, .int .u8 a, .int .u8 b] w fun e w' => e = .returned (.int .u8 (gm a b : Nat)) ∧ FldP w' p ∧ Past w.heap.size (rb w p) w w' := by
  by_cases a0 : a = 0
  · subst a0
    rw [zero_gm]
    go_enter Try.func64, Try.ntmps64
    go_wp2
    go_ret
    exact ⟨rfl, hp, Past.refl _ _ _⟩
  by_cases b0 : b = 0
  · subst b0
    rw [gm_zero]
    have h1 : ((a : Int) == 0) = false := by simp; omega
    go_enter Try.func64, Try.ntmps64
    go_wp2
    go_ret
    exact ⟨rfl, hp, Past.refl _ _ _⟩
  have h1 : ((a : Int) == 0) = false := by simp; omega
  have h2 : ((b : Int) == 0) = false := by simp; omega
  have hl1 := gl_lt ha
  have hl2 := gl_lt hb
  have HG : Hid (gm a b = gp ((gl a + gl b) % 255)) := Lib.hid (by unfold gm; rw [if_neg a0, if_neg b0])
  go_enter Try.func64, Try.ntmps64
  go_wp2_with (go_at_call 54; refine (ready_any p _ hp).mono ?_; rintro e w' ⟨g, rfl, hM, hp', hP, hg⟩)
  have c1 := hM.log a ha
  have c2 := hM.log b hb
  have c3 := hM.pow ((gl a + gl b) % 255) (by omega)
  go_region
  all_goals
    go_wp2
    go_ret
    exact ⟨ret_nat HG.out.symm, hp'.drewN 1, hP.drew⟩

set_option maxHeartbeats 1600000 in
theorem exp_calls (p : Option Addr) (n : Int) (hl : -9223372036854775808 ≤ n) (hh : n < 9223372036854775808) (w : World) (hp : FldP w p) :
    Calls Try.prog 31 #[.pointer p, .int .i64 n] w fun e w' => e = .returned (.int .u8 (ge n : Nat)) ∧ FldP w' p ∧ Past w.heap.size (rb w p) w w' := by
  have ht := tmod255 n
  have hm : IntKind.i64.wrap (n.tmod 255) = n.tmod 255 := IntWalk.i64_in _ (by omega)
  obtain ⟨k, hk⟩ : ∃ k : Nat, k = (n % 255).toNat := ⟨_, rfl⟩
  have hk5 : k < 255 := by omega
  have HG : Hid (ge n = gp k) := Lib.hid (by unfold ge; rw [hk])
  obtain ⟨m, hmm⟩ : ∃ m : Int, n.tmod 255 = m := ⟨_, rfl⟩
  rw [hmm] at hm ht
  by_cases hneg : m < 0
  · have hm2 : m + 255 = (k : Int) := by omega
    clear hk ht
    go_enter Try.func31, Try.ntmps31
    go_wp2_with (go_at_call 54; refine (ready_any p _ hp).mono ?_; rintro e w' ⟨g, rfl, hM, hp', hP, hg⟩; have c3 := hM.pow k hk5)
    go_ret
    exact ⟨ret_nat HG.out.symm, hp', hP⟩
  · obtain rfl : m = (k : Int) := by omega
    clear hk ht
    go_enter Try.func31, Try.ntmps31
    go_wp2_with (go_at_call 54; refine (ready_any p _ hp).mono ?_; rintro e w' ⟨g, rfl, hM, hp', hP, hg⟩; have c3 := hM.pow k hk5)
    go_ret
    exact ⟨ret_nat HG.out.symm, hp', hP⟩

set_option maxHeartbeats 1600000 in
theorem log_zero (p : Option Addr) (w : World) :
    Calls Try.prog 83 #[.pointer p, .int .u8 0] w fun e w' => e = .returned (.tuple #[.int .i64 0, .bool false]) ∧ w = w' := by
  go_enter Try.func83, Try.ntmps83
  go_wp2
  go_ret2
  exact ⟨rfl, rfl⟩
set_option maxHeartbeats 1600000 in
theorem log_calls (p : Option Addr) (a : Nat) (ha : a < 256) (a0 : a ≠ 0) (w : World) (hp : FldP w p) :
    Calls Try.prog 83 #[.pointer p, .int .u8 a] w fun e w' => e = .returned (.tuple #[.int .i64 (gl a : Nat), .bool true]) ∧ FldP w' p ∧ Past w.heap.size (rb w p) w w' := by
  have h1 : ((a : Int) == 0) = false := by simp; omega
  have hl1 := gl_lt ha
  go_enter Try.func83, Try.ntmps83
  go_wp2_with (go_at_call 54; refine (ready_any p _ hp).mono ?_; rintro e w' ⟨g, rfl, hM, hp', hP, hg⟩; have c3 := hM.log a ha)
  go_ret2
  exact ⟨rfl, hp', hP⟩

theorem gcd_step (a b : Nat) : Nat.gcd b (a % b) = Nat.gcd a b := by
  rw [Nat.gcd_comm b, ← Nat.gcd_rec, Nat.gcd_comm]
set_option maxHeartbeats 1600000 in
theorem commonDivisor_calls (a b : Nat) (ha : a < 1000) (hb : b < 1000) (w : World) :
    Calls Try.prog 84 #[.int .i64 a, .int .i64 b] w fun e w' => e = .returned (.int .i64 (Nat.gcd a b : Nat)) ∧ ∃ n, w' = w.drewN n := by
  go_enter Try.func84, Try.ntmps84
  go_wp2
  go_loopw [0, 1] (fun x y wr => ∃ c d n : Nat, c < 1000 ∧ d < 1000 ∧ x = .int .i64 c ∧ y = .int .i64 d ∧ Hid (Nat.gcd c d = Nat.gcd a b) ∧ wr = w.drewN n) (fun _ y _ => (intOf y).toNat)
  case atStart => exact ⟨a, b, 0, ha, hb, rfl, rfl, Lib.hid rfl, rfl⟩
  case round =>
    obtain ⟨c, d, n, hc, hd, rfl, rfl, HG, rfl⟩ := hrel
    by_cases d0 : d = 0
    · subst d0
      go_wp2
      go_ret
      exact ⟨ret_nat (by rw [← HG.out, Nat.gcd_zero_right]), n, rfl⟩
    · have h1 : ((d : Int) == 0) = false := by simp; omega
      have h1' : ((d : Int) != 0) = true := by simp; omega
      have hd0 : (d : Int) ≠ 0 := by omega
      go_wp2
      go_region
      all_goals
        go_wp2
        go_roundw
        case rel => exact ⟨d, c % d, n + 1, hd, Nat.lt_of_le_of_lt (Nat.mod_le _ _) hc, rfl, by go_num, by rw [gcd_step]; exact HG, rfl⟩
        case measure => have := Nat.mod_lt c (show 0 < d by omega); simp [intOf]; omega

set_option maxHeartbeats 1600000 in
theorem order_zero (p : Option Addr) (w : World) :
    Calls Try.prog 57 #[.pointer p, .int .u8 0] w fun e w' => e = .returned (.int .i64 0) ∧ w = w' := by
  go_enter Try.func57, Try.ntmps57
  go_wp2_with (go_at_call 83; refine (log_zero p _).mono ?_; rintro e w' ⟨rfl, rfl⟩)
  go_ret
  exact ⟨rfl, rfl⟩
set_option maxHeartbeats 1600000 in
theorem order_calls (p : Option Addr) (a : Nat) (ha : a < 256) (a0 : a ≠ 0) (w : World) (hp : FldP w p) :
    Calls Try.prog 57 #[.pointer p, .int .u8 a] w fun e w' => e = .returned (.int .i64 (gord a : Nat)) ∧ FldP w' p ∧ Past w.heap.size (rb w p) w w' := by
  have hl1 := gl_lt ha
  have hg0 : 0 < Nat.gcd 255 (gl a) := Nat.gcd_pos_of_pos_left _ (by decide)
  have hg1 : Nat.gcd 255 (gl a) ≤ 255 := Nat.le_of_dvd (by decide) (Nat.gcd_dvd_left _ _)
  have HG : Hid (gord a = 255 / Nat.gcd 255 (gl a)) := Lib.hid (by unfold gord; rw [if_neg a0])
  have hc := commonDivisor_calls 255 (gl a) (by decide) (by omega)
  obtain ⟨d, hd⟩ : ∃ d : Nat, Nat.gcd 255 (gl a) = d := ⟨_, rfl⟩
  rw [hd] at hg0 hg1 HG hc
  clear hd
  have d0 : (d : Int) ≠ 0 := by omega
  go_enter Try.func57, Try.ntmps57
  go_wp2_with (first | (go_at_call 83; refine (log_calls p a ha a0 _ hp).mono ?_; rintro e w' ⟨rfl, hp', hP⟩) | (go_at_call 84; refine (hc _).mono ?_; rintro e w2 ⟨rfl, nd, rfl⟩))
  go_ret
  refine ⟨ret_int ?_, hp'.drewN nd, hP.drewN nd⟩
  rw [HG.out]
  simp
end Go.Proofs.Ytikfjbomogekbaa.GF
