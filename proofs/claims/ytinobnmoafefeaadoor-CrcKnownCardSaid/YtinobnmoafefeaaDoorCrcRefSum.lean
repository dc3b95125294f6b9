/- The walk of layer 1's definition of Sum. -/
import Derived.Test.YtinobnmoafefeaaDoorCrcRefWalks
import Derived.Test.YtinobnmoafefeaaDoorCrcRefSumFns
namespace Go.Proofs.YtinobnmoafefeaaDoor.Crc
open Go.RowKit

theorem bit0_u32 (a i : Nat) (ha : a < 4294967296) : (bits .and .u32 ((a : Int) / 2 ^ i) 1 == 0) = !a.testBit i := by
  have h2 : ((a : Int) / 2 ^ i) = ((a / 2 ^ i : Nat) : Int) := by simp
  rw [h2, and1 .u32 32 (by decide) (fun n h0 h1 => by rw [IntKind.wrap_u32']; omega) (by decide) _ (Nat.lt_of_le_of_lt (Nat.div_le_self _ _) ha), Nat.testBit_eq_decide_div_mod_eq]
  rw [Bool.eq_iff_iff]; simp; omega

theorem xor_poly (v : Nat) : bits .xor .u32 ((v : Int) * 2 % 4294967296) 517762881 = ((v * 2 % 4294967296 ^^^ 517762881 : Nat) : Int) := by
  have := u32_xor_nat (v * 2 % 4294967296) 517762881 (Nat.mod_lt _ (by decide)) (by decide)
  simpa using this
theorem run_snoc' (l : List Nat) (k : Nat) (hk : k < l.length) : run 4294967295 (l.take (k + 1)) = lfs 8 (run 4294967295 (l.take k) ^^^ (l[k])) := by
  rw [take_succ' l hk, run_append, ← step_eq]; rfl

set_option maxHeartbeats 1000000 in
theorem refSum_calls (A : Option Addr) (l : List Nat) (c : Nat) (w : World) (hb : Bytes w A l) (hl : l.length ≤ 140737488355328) :
    Calls Tryd.prog 14 #[.slice A l.length c] w fun e w' => e = .returned (.int .u32 (sum l)) ∧ w' = w := by
  have HB := Lib.hid hb; clear hb
  go_enter Tryd.func14, Tryd.ntmps14
  go_wp2
  go_loop [3, 4] (fun v i => ∃ k x : Nat, k ≤ l.length ∧ i = .int .i64 k ∧ v = .int .u32 x ∧ x < 4294967296 ∧ Hid (Rev x (run 4294967295 (l.take k)))) (fun _ i => l.length - (intOf i).toNat)
  case atStart => exact ⟨0, 4294967295, by omega, rfl, rfl, by omega, rev_start⟩
  case round =>
    obtain ⟨k, x, hk, rfl, rfl, hx, HR⟩ := hrel
    have hr : run 4294967295 (l.take k) < 4294967296 := run_lt _ _ (by decide) (fun x hx => HB.out.lt x (List.mem_of_mem_take hx))
    by_cases hlt : k < l.length
    · obtain ⟨b, off, rfl, hc, h256⟩ := HB.out.at_ hlt
      have hd : decide ((k : Int) < (l.length : Int)) = true := by simp; omega
      go_wp2
      go_loop [3, 5] (fun v j => ∃ m y : Nat, m ≤ 8 ∧ j = .int .i64 m ∧ v = .int .u32 y ∧ y < 4294967296 ∧ Hid (Rev y (lfs m (run 4294967295 (l.take k) ^^^ (l[k] % 2 ^ m))))) (fun _ j => 8 - (intOf j).toNat)
      case atStart => exact ⟨0, x, by omega, rfl, rfl, hx, by simpa [lfs, Nat.mod_one] using HR⟩
      case round =>
        clear HR hx
        obtain ⟨m, y, hm, rfl, rfl, hy, HR⟩ := hrel
        by_cases hlt2 : m < 8
        · have hu : lfs m (run 4294967295 (l.take k) ^^^ (l[k] % 2 ^ m)) < 4294967296 := lfs_lt _ _ (xor_lt hr (Nat.lt_of_le_of_lt (Nat.mod_le _ _) (by omega)))
          have HT := Lib.hid (top_bit y hy)
          have HC := Lib.hid (bit_u8 l[k] m h256)
          have HS := Lib.hid (lfs_step (run 4294967295 (l.take k)) l[k] m)
          by_cases ho : (y.testBit 31 ^^ l[k].testBit m) = true
          · have hov : (decide ((2147483648 : Int) ≤ (y : Int)) == (bits .and .u8 ((l[k] : Int) / 2 ^ m) 1 == 1)) = false := by
              rw [HT.out, HC.out]; revert ho; cases y.testBit 31 <;> cases l[k].testBit m <;> simp
            go_wp2
            go_round
            case rel =>
              have HY := Lib.hid (rev_yes _ _ _ hu HR.out ho)
              rw [HS.out] at HY
              exact ⟨m + 1, _, by omega, by go_num, by rw [xor_poly], xor_lt (by omega) (by omega), HY.out⟩
            case measure => simp [intOf]; omega
          · have ho' : (y.testBit 31 ^^ l[k].testBit m) = false := by simpa using ho
            have hov : (decide ((2147483648 : Int) ≤ (y : Int)) == (bits .and .u8 ((l[k] : Int) / 2 ^ m) 1 == 1)) = true := by
              rw [HT.out, HC.out]; revert ho'; cases y.testBit 31 <;> cases l[k].testBit m <;> simp
            go_wp2
            go_round
            case rel =>
              have HY := Lib.hid (rev_no _ _ _ hu HR.out ho')
              rw [HS.out] at HY
              exact ⟨m + 1, _, by omega, by go_num, by simp, by omega, HY.out⟩
            case measure => simp [intOf]; omega
        · obtain rfl : m = 8 := by omega
          go_wp2
          go_round
          case rel => exact ⟨k + 1, y, by omega, by go_num, rfl, hy, by rw [run_snoc' l k hlt]; rw [show l[k] % 2 ^ 8 = l[k] by omega] at HR; exact HR⟩
          case measure => simp [intOf]; omega
    · obtain rfl : k = l.length := by omega
      have hlt' : decide ((l.length : Int) < (l.length : Int)) = false := by simp
      rw [List.take_of_length_le (Nat.le_refl _)] at hr HR
      have hs : sum l < 4294967296 := xor_lt hr (by omega)
      go_wp2
      go_loop [7, 8] (fun t i => ∃ k : Nat, k ≤ 32 ∧ i = .int .i64 k ∧ t = .int .u32 (sum l % 2 ^ k : Nat)) (fun _ i => 32 - (intOf i).toNat)
      case atStart => exact ⟨0, by omega, rfl, by simp [Nat.mod_one]⟩
      case round =>
        obtain ⟨k, hk, rfl, rfl⟩ := hrel
        by_cases hlt2 : k < 32
        · have hm := mod_succ (sum l) k
          have hlt3 : sum l % 2 ^ (k + 1) < 4294967296 := Nat.lt_of_le_of_lt (Nat.mod_le _ _) hs
          have HBt := Lib.hid (bit0_u32 x (31 - k) hx)
          have hbit2 : (sum l).testBit k = !x.testBit (31 - k) := by
            rw [HR.out k hlt2]; exact not_bit _ _ hlt2
          by_cases hbit : (sum l).testBit k = true
          · have ht : (bits .and .u32 ((x : Int) / 2 ^ (31 - k)) 1 == 0) = true := by rw [HBt.out, ← hbit2]; exact hbit
            rw [hbit] at hm
            have HS := Lib.hid hm
            clear hm hbit2 hbit
            go_wp2
            go_round
            case rel => exact ⟨k + 1, by omega, by go_num, u32_eq' (add_bit _ k hs hlt2 HS.out)⟩
            case measure => simp [intOf]; omega
          · have hb2 : (sum l).testBit k = false := by simpa using hbit
            have ht : (bits .and .u32 ((x : Int) / 2 ^ (31 - k)) 1 == 0) = false := by rw [HBt.out, ← hbit2]; exact hb2
            rw [hb2] at hm
            have HS := Lib.hid hm
            clear hm hbit2 hbit hb2
            go_wp2
            go_round
            case rel => exact ⟨k + 1, by omega, by go_num, by rw [HS.out]; simp⟩
            case measure => simp [intOf]; omega
        · obtain rfl : k = 32 := by omega
          go_wp2
          go_ret
          exact ⟨ret_u32' (by omega), rfl⟩
end Go.Proofs.YtinobnmoafefeaaDoor.Crc
