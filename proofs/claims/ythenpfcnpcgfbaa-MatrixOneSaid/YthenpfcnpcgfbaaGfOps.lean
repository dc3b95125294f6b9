/- What a field's calls do. -/
import Derived.Test.YthenpfcnpcgfbaaGfTab
namespace Go.Proofs.Ythenpfcnpcgfbaa.GF
open Go.RowKit

theorem add_calls (a b : Nat) (ha : a < 256) (hb : b < 256) (w : World) :
    Calls Try.prog 67 #[.int .u8 a, .int .u8 b] w fun e w' => e = .returned (.int .u8 (a ^^^ b : Nat)) ∧ w = w' := by
  have HX := Lib.hid (u8_xor' a b ha hb)
  go_enter Try.func67, Try.ntmps67
  go_wp2
  go_ret
  exact ⟨ret_int HX.out, rfl⟩

set_option maxHeartbeats 1600000 in
theorem mul_calls (p : Option Addr) (a b : Nat) (ha : a < 256) (hb : b < 256) (w : World) (hp : FldP w p) :
    Calls Try.prog 60 #[.pointer p, .int .u8 a, .int .u8 b] w fun e w' => e = .returned (.int .u8 (gm a b : Nat)) ∧ FldP w' p ∧ Past w.heap.size (rb w p) w w' := by
  by_cases a0 : a = 0
  · subst a0
    rw [zero_gm]
    go_enter Try.func60, Try.ntmps60
    go_wp2
    go_ret
    exact ⟨rfl, hp, Past.refl _ _ _⟩
  by_cases b0 : b = 0
  · subst b0
    rw [gm_zero]
    have h1 : ((a : Int) == 0) = false := by simp; omega
    go_enter Try.func60, Try.ntmps60
    go_wp2
    go_ret
    exact ⟨rfl, hp, Past.refl _ _ _⟩
  have h1 : ((a : Int) == 0) = false := by simp; omega
  have h2 : ((b : Int) == 0) = false := by simp; omega
  have hl1 := gl_lt ha
  have hl2 := gl_lt hb
  have HG : Hid (gm a b = gp ((gl a + gl b) % 255)) := Lib.hid (by unfold gm; rw [if_neg a0, if_neg b0])
  go_enter Try.func60, Try.ntmps60
  go_wp2_with (go_at_call 69; refine (ready_any p _ hp).mono ?_; rintro e w' ⟨g, rfl, hM, hp', hP, hg⟩)
  have c1 := hM.log a ha
  have c2 := hM.log b hb
  have c3 := hM.pow ((gl a + gl b) % 255) (by omega)
  go_region
  all_goals
    go_wp2
    go_ret
    exact ⟨ret_nat HG.out.symm, hp'.drewN 1, hP.drew⟩

set_option maxHeartbeats 1600000 in
theorem div_zero (p : Option Addr) (a : Nat) (w : World) :
    Calls Try.prog 71 #[.pointer p, .int .u8 a, .int .u8 0] w fun e w' => e = .returned (.tuple #[.int .u8 0, .bool false]) ∧ w = w' := by
  go_enter Try.func71, Try.ntmps71
  go_wp2
  go_ret2
  exact ⟨rfl, rfl⟩
set_option maxHeartbeats 1600000 in
theorem div_calls (p : Option Addr) (a b : Nat) (ha : a < 256) (hb : b < 256) (b0 : b ≠ 0) (w : World) (hp : FldP w p) :
    Calls Try.prog 71 #[.pointer p, .int .u8 a, .int .u8 b] w fun e w' => e = .returned (.tuple #[.int .u8 (gq a b : Nat), .bool true]) ∧ FldP w' p ∧ Past w.heap.size (rb w p) w w' := by
  have h2 : ((b : Int) == 0) = false := by simp; omega
  by_cases a0 : a = 0
  · subst a0
    rw [show gq 0 b = 0 from rfl]
    go_enter Try.func71, Try.ntmps71
    go_wp2
    go_ret2
    exact ⟨rfl, hp, Past.refl _ _ _⟩
  have h1 : ((a : Int) == 0) = false := by simp; omega
  have hl1 := gl_lt ha
  have hl2 := gl_lt hb
  have HG : Hid (gq a b = gp ((gl a + (255 - gl b)) % 255)) := Lib.hid (by unfold gq; rw [if_neg a0])
  obtain ⟨k, hk⟩ : ∃ k : Nat, k = (gl a + (255 - gl b)) % 255 := ⟨_, rfl⟩
  have hki : ((gl a : Int) - gl b + 255) % 255 = (k : Int) := by omega
  have hk5 : k < 255 := by omega
  rw [← hk] at HG
  clear hk
  go_enter Try.func71, Try.ntmps71
  go_wp2_with (go_at_call 69; refine (ready_any p _ hp).mono ?_; rintro e w' ⟨g, rfl, hM, hp', hP, hg⟩)
  have c1 := hM.log a ha
  have c2 := hM.log b hb
  have c3 := hM.pow k hk5
  go_region
  all_goals
    go_wp2
    go_ret2
    exact ⟨ret_pair HG.out.symm, hp'.drewN 1, hP.drew⟩

theorem gcd_step (a b : Nat) : Nat.gcd b (a % b) = Nat.gcd a b := by
  rw [Nat.gcd_comm b, ← Nat.gcd_rec, Nat.gcd_comm]
end Go.Proofs.Ythenpfcnpcgfbaa.GF
