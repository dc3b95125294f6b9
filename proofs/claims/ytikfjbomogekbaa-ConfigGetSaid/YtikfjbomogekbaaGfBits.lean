/- Bits of natural numbers in Go's integers. -/
import Derived.Test.YtikfjbomogekbaaGfMath
import Derived.Laws.BitsAllLaws
import Derived.IntWalk
import Derived.WalkKit
namespace Go.Proofs.Ytikfjbomogekbaa.GF
open Go.RowKit

theorem i64_xor (a b : Nat) (ha : a < 9223372036854775808) (hb : b < 9223372036854775808) : bits .xor .i64 (a : Int) (b : Int) = ((a ^^^ b : Nat) : Int) := by
  have hx : a ^^^ b < 2 ^ 63 := Nat.xor_lt_two_pow (by omega) (by omega)
  have h1 : (BitVec.ofInt 64 (a : Int)).toNat = a := by
    rw [BitVec.ofInt_natCast, BitVec.toNat_ofNat]; exact Nat.mod_eq_of_lt (by omega)
  have h2 : (BitVec.ofInt 64 (b : Int)).toNat = b := by
    rw [BitVec.ofInt_natCast, BitVec.toNat_ofNat]; exact Nat.mod_eq_of_lt (by omega)
  show IntKind.i64.wrap ((BitVec.ofInt 64 (a : Int) ^^^ BitVec.ofInt 64 (b : Int)).toNat : Int) = _
  rw [BitVec.toNat_xor, h1, h2]
  exact IntWalk.i64_in _ (by omega)
theorem u8_xor' (a b : Nat) (ha : a < 256) (hb : b < 256) : bits .xor .u8 (a : Int) (b : Int) = ((a ^^^ b : Nat) : Int) := u8_xor_nat a b ha hb
theorem and1 (k : IntKind) (j : Nat) (hj : j ≤ k.bits) (hk : ∀ n : Int, 0 ≤ n → n < 2 ^ j → k.wrap n = n) (h1 : 1 ≤ j) (a : Nat) (ha : a < 2 ^ j) : bits .and k (a : Int) 1 = ((a % 2 : Nat) : Int) := by
  have h := bits_mask k j hj hk 1 h1 (a : Int) (by omega) (by exact_mod_cast ha)
  simpa using h
theorem bit_eq (k : IntKind) (j : Nat) (hj : j ≤ k.bits) (hk : ∀ n : Int, 0 ≤ n → n < 2 ^ j → k.wrap n = n) (h1 : 1 ≤ j) (a i : Nat) (ha : a < 2 ^ j) :
    (bits .and k ((a : Int) / 2 ^ i) 1 == 1) = a.testBit i := by
  have h2 : ((a : Int) / 2 ^ i) = ((a / 2 ^ i : Nat) : Int) := by simp
  rw [h2, and1 k j hj hk h1 _ (Nat.lt_of_le_of_lt (Nat.div_le_self _ _) ha), Nat.testBit_eq_decide_div_mod_eq]
  rw [Bool.eq_iff_iff]; simp; omega
theorem bit_u8 (a i : Nat) (ha : a < 256) : (bits .and .u8 ((a : Int) / 2 ^ i) 1 == 1) = a.testBit i :=
  bit_eq .u8 8 (by decide) (fun n h0 h1 => by rw [IntKind.wrap_u8']; omega) (by decide) a i ha
theorem bit_i64 (a i : Nat) (ha : a < 4294967296) : (bits .and .i64 ((a : Int) / 2 ^ i) 1 == 1) = a.testBit i :=
  bit_eq .i64 32 (by decide) (fun n h0 h1 => by rw [IntKind.wrap_i64]; omega) (by decide) a i ha
theorem ret_bool {a b : Bool} (h : a = b) : Ending.returned (.bool a) = .returned (.bool b) := by rw [h]
theorem ret_int {k : IntKind} {a b : Int} (h : a = b) : Ending.returned (.int k a) = .returned (.int k b) := by rw [h]
theorem val_int {k : IntKind} {a b : Int} (h : a = b) : Value.int k a = Value.int k b := by rw [h]
theorem ret_nat {k : IntKind} {a b : Nat} (h : a = b) : Ending.returned (.int k (a : Int)) = .returned (.int k (b : Int)) := by rw [h]
theorem ret_pair {k : IntKind} {a b : Nat} {c : Bool} (h : a = b) : Ending.returned (.tuple #[.int k (a : Int), .bool c]) = .returned (.tuple #[.int k (b : Int), .bool c]) := by rw [h]
theorem tmod255 (n : Int) : n.tmod 255 = if 0 ≤ n then n % 255 else -((-n) % 255) := by
  split
  · exact Int.tmod_eq_emod_of_nonneg (by assumption)
  · have h := Int.neg_tmod (-n) 255
    rw [Int.neg_neg] at h
    rw [h, Int.tmod_eq_emod_of_nonneg (by omega)]
end Go.Proofs.Ytikfjbomogekbaa.GF
