/- The walks of layer 1: divideHalf, Step, Sum. -/
import Derived.Test.YtinobnmoafefeaaDoorRows
import Derived.Test.YtinobnmoafefeaaDoorCrcFns
import Derived.Test.YtinobnmoafefeaaDoorKit
import Derived.WalkKit
import Derived.BigQuiet
import Derived.Deep.QuietTactic
import Derived.Lib.Hide
namespace Go.Proofs.YtinobnmoafefeaaDoor.Crc
open Go.RowKit

/-- The four cells of the table. -/
def Tab (w : World) : Prop := ∀ k, k < 4 → w.cell? ⟨0, k, none⟩ = some (.int .u32 (tab k))
theorem Tab.drewN {w : World} (h : Tab w) (n : Nat) : Tab (w.drewN n) := h
theorem Tab.below {w w' : World} (h : Tab w) (hb : Below w.heap.size w w') : Tab w' := fun k hk => by rw [hb.cell (cell_lt (h k hk))]; exact h k hk

theorem halfTo_succ (r k : Nat) (hr : r < 4294967296) (hh : halfTo r k < 4294967296) :
    bits .xor .u32 (halfTo r k : Int) ((tab k : Int) * bits .and .u32 ((r : Int) / 2 ^ k) 1 % 4294967296) = (halfTo r (k + 1) : Int) := by
  have h := bits_round r k hr (halfTo r k) hh
  rw [IntKind.wrap_u32'] at h
  exact h
theorem u32_eq {a b : Int} (h : a = b) : Value.int .u32 a = Value.int .u32 b := by rw [h]

set_option maxHeartbeats 400000 in
theorem half_calls (r : Nat) (w : World) (hr : r < 4294967296) (ht : Tab w) :
    Calls Tryd.prog 16 #[.int .u32 r] w fun e w' => e = .returned (.int .u32 (half r)) ∧ ∃ n, w' = w.drewN n := by
  have HT := Lib.hid ht; clear ht
  go_enter Tryd.func16, Tryd.ntmps16
  go_wp2
  go_loopw [3, 7] (fun t i wr => ∃ k : Nat, k ≤ 4 ∧ i = .int .i64 k ∧ t = .int .u32 (halfTo r k) ∧ ∃ n, wr = w.drewN n) (fun _ i _ => 4 - (intOf i).toNat)
  case atStart => exact ⟨0, by omega, rfl, rfl, 0, rfl⟩
  case round =>
    obtain ⟨k, hk, rfl, rfl, n, rfl⟩ := hrel
    by_cases hlt : k < 4
    · have hc := HT.out k hlt
      have hh := halfTo_lt r hr k
      go_wp2
      go_quiet (fail)
      go_wp2
      go_roundw
      case rel => exact ⟨k + 1, by omega, by go_num, u32_eq (halfTo_succ r k hr hh), _, rfl⟩
      case measure => simp [intOf]; omega
    · obtain rfl : k = 4 := by omega
      go_wp2
      go_ret
      exact ⟨rfl, n, rfl⟩

set_option maxHeartbeats 400000 in
theorem step_calls (r c : Nat) (w : World) (hr : r < 4294967296) (hc : c < 256) (ht : Tab w) :
    Calls Tryd.prog 10 #[.int .u32 r, .int .u8 c] w fun e w' => e = .returned (.int .u32 (step r c)) ∧ ∃ n, w' = w.drewN n := by
  have HT := Lib.hid ht; clear ht
  have HX := Lib.hid (u32_xor_nat r c hr (by omega))
  have h1 := xor_lt hr (show c < 4294967296 by omega)
  go_enter Tryd.func10, Tryd.ntmps10
  go_wp2_with fail
  rw [HX.out]
  refine (half_calls _ _ h1 HT.out).mono ?_
  rintro e w' ⟨rfl, n, rfl⟩
  go_wp2_with fail
  refine (half_calls _ _ (half_lt _ h1) (HT.out.drewN _)).mono ?_
  rintro e w' ⟨rfl, n, rfl⟩
  go_wp2
  go_ret
  exact ⟨rfl, _, rfl⟩

theorem run_snoc (l : List Nat) (k : Nat) (hk : k < l.length) : run 4294967295 (l.take (k + 1)) = step (run 4294967295 (l.take k)) l[k] := by
  rw [take_succ' l hk, run_append]; rfl
theorem not_u32 (n : Nat) (h : n < 4294967296) : bits .xor .u32 IntKind.u32.max (n : Int) = ((n ^^^ 4294967295 : Nat) : Int) := by
  rw [Nat.xor_comm]
  exact u32_xor_nat 4294967295 n (by decide) h
theorem ret_u32 {a b : Int} (h : a = b) : Ending.returned (.int .u32 a) = .returned (.int .u32 b) := by rw [h]

set_option maxHeartbeats 400000 in
theorem sum_calls (A : Option Addr) (l : List Nat) (c : Nat) (w : World) (hb : Bytes w A l) (hl : l.length ≤ 140737488355328) (ht : Tab w) :
    Calls Tryd.prog 13 #[.slice A l.length c] w fun e w' => e = .returned (.int .u32 (sum l)) ∧ ∃ n, w' = w.drewN n := by
  have HT := Lib.hid ht; clear ht
  have HB := Lib.hid hb; clear hb
  go_enter Tryd.func13, Tryd.ntmps13
  go_wp2
  go_loopw [3, 8] (fun t i wr => ∃ k : Nat, k ≤ l.length ∧ i = .int .i64 k ∧ t = .int .u32 (run 4294967295 (l.take k) : Nat) ∧ ∃ n, wr = w.drewN n) (fun _ i _ => l.length - (intOf i).toNat)
  case atStart => exact ⟨0, by omega, rfl, rfl, 0, rfl⟩
  case round =>
    obtain ⟨k, hk, rfl, rfl, n, rfl⟩ := hrel
    have hr : run 4294967295 (l.take k) < 4294967296 := run_lt _ _ (by decide) (fun x hx => HB.out.lt x (List.mem_of_mem_take hx))
    by_cases hlt : k < l.length
    · obtain ⟨b, off, rfl, hc, h256⟩ := HB.out.at_ hlt
      go_wp2_with (go_at_call 10; refine (step_calls _ _ _ hr h256 (HT.out.drewN _)).mono ?_; rintro e w' ⟨rfl, m, rfl⟩)
      go_roundw
      case rel => exact ⟨k + 1, by omega, by go_num, by rw [run_snoc l k hlt], _, rfl⟩
      case measure => simp [intOf]; omega
    · obtain rfl : k = l.length := by omega
      go_wp2
      go_ret
      rw [List.take_of_length_le (Nat.le_refl _)] at hr
      exact ⟨ret_u32 (not_u32 _ hr), n, rfl⟩
end Go.Proofs.YtinobnmoafefeaaDoor.Crc
