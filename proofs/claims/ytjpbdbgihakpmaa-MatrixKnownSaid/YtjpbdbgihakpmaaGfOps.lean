/- What a field's calls do. -/
import Derived.Test.YtjpbdbgihakpmaaGfTab
namespace Go.Proofs.Ytjpbdbgihakpmaa.GF
open Go.RowKit

theorem add_calls (a b : Nat) (ha : a < 256) (hb : b < 256) (w : World) :
    Calls Try.prog 40 #[.int .u8 a, .int .u8 b] w fun e w' => e = .returned (.int .u8 (a ^^^ b : Nat)) ∧ w = w' := by
  have HX := Lib.hid (u8_xor' a b ha hb)
  go_enter Try.func40, Try.ntmps40
  go_wp2
  go_ret
  exact ⟨ret_int HX.out, rfl⟩

set_option maxHeartbeats 1600000 in
theorem mul_calls (p : Option Addr) (a b : Nat) (ha : a < 256) (hb : b < 256) (w : World) (hp : FldP w p) :
    Calls Try.prog 32 #[.pointer p, .int .u8 a, .int .u8 b] w fun e w' => e = .returned (.int .u8 (gm a b : Nat)) ∧ FldP w' p ∧ Past w.heap.size (rb w p) w w' := by
  by_cases a0 : a = 0
  · subst a0
    rw [zero_gm]
    go_enter Try.func32, Try.ntmps32
    go_wp2
    go_ret
    exact ⟨rfl, hp, Past.refl _ _ _⟩
  by_cases b0 : b = 0
  · subst b0
    rw [gm_zero]
    have h1 : ((a : Int) == 0) = false := by simp; omega
    go_enter Try.func32, Try.ntmps32
    go_wp2
    go_ret
    exact ⟨rfl, hp, Past.refl _ _ _⟩
  have h1 : ((a : Int) == 0) = false := by simp; omega
  have h2 : ((b : Int) == 0) = false := by simp; omega
  have hl1 := gl_lt ha
  have hl2 := gl_lt hb
  have HG : Hid (gm a b = gp ((gl a + gl b) % 255)) := Lib.hid (by unfold gm; rw [if_neg a0, if_neg b0])
  go_enter Try.func32, Try.ntmps32
  go_wp2_with (go_at_call 73; refine (ready_any p _ hp).mono ?_; rintro e w' ⟨g, rfl, hM, hp', hP, hg⟩)
  have c1 := hM.log a ha
  have c2 := hM.log b hb
  have c3 := hM.pow ((gl a + gl b) % 255) (by omega)
  go_region
  all_goals
    go_wp2
    go_ret
    exact ⟨ret_nat HG.out.symm, hp'.drewN 1, hP.drew⟩

set_option maxHeartbeats 1600000 in
theorem div_zero (p : Option Addr) (a : Nat) (w : World) :
    Calls Try.prog 123 #[.pointer p, .int .u8 a, .int .u8 0] w fun e w' => e = .returned (.tuple #[.int .u8 0, .bool false]) ∧ w = w' := by
  go_enter Try.func123, Try.ntmps123
  go_wp2
  go_ret2
  exact ⟨rfl, rfl⟩
set_option maxHeartbeats 1600000 in
theorem div_calls (p : Option Addr) (a b : Nat) (ha : a < 256) (hb : b < 256) (b0 : b ≠ 0) (w : World) (hp : FldP w p) :
    Calls Try.prog 123 #[.pointer p, .int .u8 a, .int .u8 b] w fun e w' => e = .returned (.tuple #[.int .u8 (gq a b : Nat), .bool true]) ∧ FldP w' p ∧ Past w.heap.size (rb w p) w w' := by
  have h2 : ((b : Int) == 0) = false := by simp; omega
  by_cases a0 : a = 0
  · subst a0
    rw [show gq 0 b = 0 from rfl]
    go_enter Try.func123, Try.ntmps123
    go_wp2
    go_ret2
    exact ⟨rfl, hp, Past.refl _ _ _⟩
  have h1 : ((a : Int) == 0) = false := by simp; omega
  have hl1 := gl_lt ha
  have hl2 := gl_lt hb
  have HG : Hid (gq a b = gp ((gl a + (255 - gl b)) % 255)) := Lib.hid (by unfold gq; rw [if_neg a0])
  obtain ⟨k, hk⟩ : ∃ k : Nat, k = (gl a + (255 - gl b)) % 255 := ⟨_, rfl⟩
  have hki : ((gl a : Int) - gl b + 255) % 255 = (k : Int) := by omega
  have hk5 : k < 255 := by omega
  rw [← hk] at HG
  clear hk
  go_enter Try.func123, Try.ntmps123
  go_wp2_with (go_at_call 73; refine (ready_any p _ hp).mono ?_; rintro e w' ⟨g, rfl, hM, hp', hP, hg⟩)
  have c1 := hM.log a ha
  have c2 := hM.log b hb
  have c3 := hM.pow k hk5
  go_region
  all_goals
    go_wp2
    go_ret2
    exact ⟨ret_pair HG.out.symm, hp'.drewN 1, hP.drew⟩

set_option maxHeartbeats 1600000 in
theorem exp_calls (p : Option Addr) (n : Int) (hl : -9223372036854775808 ≤ n) (hh : n < 9223372036854775808) (w : World) (hp : FldP w p) :
    Calls Try.prog 84 #[.pointer p, .int .i64 n] w fun e w' => e = .returned (.int .u8 (ge n : Nat)) ∧ FldP w' p ∧ Past w.heap.size (rb w p) w w' := by
  have ht := tmod255 n
  have hm : IntKind.i64.wrap (n.tmod 255) = n.tmod 255 := IntWalk.i64_in _ (by omega)
  obtain ⟨k, hk⟩ : ∃ k : Nat, k = (n % 255).toNat := ⟨_, rfl⟩
  have hk5 : k < 255 := by omega
  have HG : Hid (ge n = gp k) := Lib.hid (by unfold ge; rw [hk])
  obtain ⟨m, hmm⟩ : ∃ m : Int, n.tmod 255 = m := ⟨_, rfl⟩
  rw [hmm] at hm ht
  by_cases hneg : m < 0
  · have hm2 : m + 255 = (k : Int) := by omega
    clear hk ht
    go_enter Try.func84, Try.ntmps84
    go_wp2_with (go_at_call 73; refine (ready_any p _ hp).mono ?_; rintro e w' ⟨g, rfl, hM, hp', hP, hg⟩; have c3 := hM.pow k hk5)
    go_ret
    exact ⟨ret_nat HG.out.symm, hp', hP⟩
  · obtain rfl : m = (k : Int) := by omega
    clear hk ht
    go_enter Try.func84, Try.ntmps84
    go_wp2_with (go_at_call 73; refine (ready_any p _ hp).mono ?_; rintro e w' ⟨g, rfl, hM, hp', hP, hg⟩; have c3 := hM.pow k hk5)
    go_ret
    exact ⟨ret_nat HG.out.symm, hp', hP⟩

theorem gcd_step (a b : Nat) : Nat.gcd b (a % b) = Nat.gcd a b := by
  rw [Nat.gcd_comm b, ← Nat.gcd_rec, Nat.gcd_comm]
end Go.Proofs.Ytjpbdbgihakpmaa.GF
