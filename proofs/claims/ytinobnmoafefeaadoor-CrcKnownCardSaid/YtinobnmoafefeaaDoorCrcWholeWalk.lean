/- The walk of CrcWhole: the Sum of any bytes. -/
import Derived.Test.YtinobnmoafefeaaDoorCrcLawWalks
import Derived.Test.YtinobnmoafefeaaDoorStr
namespace Go.Proofs.YtinobnmoafefeaaDoor.crcWhole
open Go.RowKit Crc
set_option linter.unusedVariables false
set_option maxHeartbeats 400000 in
set_option maxRecDepth 100000 in
theorem walk (w : World) (A0 : Option Addr) (l0 : List Nat) (c0 : Nat) (hb0 : Bytes w A0 l0) (hc0 : l0.length ≤ c0) (hm0 : c0 ≤ 9223372036854775807) (ht : Crc.Tab w) :
    Calls Tryd.prog 4 #[.slice A0 l0.length c0] w fun e w' => e = .returned (.bool true) ∧ Below w.heap.size w w' := by
  have HT := Lib.hid ht; clear ht
  have HB := Lib.hid hb0; clear hb0
  by_cases hlen : (1000 : Int) < (l0.length : Int)
  · go_enter Tryd.func4, Tryd.ntmps4
    go_wp2_with (go_at_call 12; refine (works_calls _ HT.out).mono ?_; rintro e w2 ⟨rfl, hb3⟩)
    go_ret
    exact ⟨rfl, hb3⟩
  · have k1 := conv_str (P := Tryd.prog) HB.out c0 26 9 5 Tryd.underlying26 Tryd.underlying5 Tryd.underlying9
    go_enter Tryd.func4, Tryd.ntmps4
    go_wp2
    clear k1
    go_loopw [4, 5] (fun t i wr => ∃ k : Nat, k ≤ l0.length ∧ i = .int .i64 k ∧ t = .int .u32 (run 4294967295 (l0.take k) : Nat) ∧ ∃ n, wr = w.drewN n) (fun _ i _ => l0.length - (intOf i).toNat)
    case atStart => exact ⟨0, by omega, rfl, rfl, 0, rfl⟩
    case round =>
      obtain ⟨k, hk, rfl, rfl, n, rfl⟩ := hrel
      have hr : run 4294967295 (l0.take k) < 4294967296 := run_lt _ _ (by decide) (fun x hx => HB.out.lt x (List.mem_of_mem_take hx))
      by_cases hlt : k < l0.length
      · obtain ⟨b, off, rfl, hc, h256⟩ := HB.out.at_ hlt
        go_wp2_with (go_at_call 10; refine (step_calls _ _ _ hr h256 (HT.out.drewN _)).mono ?_; rintro e w' ⟨rfl, m, rfl⟩)
        go_roundw
        case rel => exact ⟨k + 1, by omega, by go_num, by rw [run_snoc l0 k hlt], _, rfl⟩
        case measure => simp [intOf]; omega
      · obtain rfl : k = l0.length := by omega
        rw [List.take_of_length_le (Nat.le_refl _)] at hr ⊢
        go_wp2_with fail
        refine (sum_calls _ _ _ _ (HB.out.drewN _) (by omega) (HT.out.drewN _)).mono ?_
        rintro e w' ⟨rfl, m, rfl⟩
        have k2 := fun (w : World) => conv_bytes (P := Tryd.prog) w l0 9 26 5 Tryd.underlying9 Tryd.underlying26 Tryd.underlying5
        go_wp2_with fail
        have hbl : Below w.heap.size w (Lib.bytesWorld (w.drewN (n + m)) 5 (str l0)) := (Below.drewN' (Below.refl _ w) _).trans (bytesWorld_below (w.drewN (n + m)) _ _)
        have hbb := bytesWorld_bytes (w.drewN (n + m)) 5 l0 HB.out.lt
        refine (refSum_calls _ l0 _ _ hbb (by omega)).mono ?_
        rintro e w' ⟨rfl, rfl⟩
        clear k2 hbb
        have k3 := conv_str (P := Tryd.prog) (HB.out.below hbl) c0 26 9 5 Tryd.underlying26 Tryd.underlying5 Tryd.underlying9
        have hN : bits .xor .u32 IntKind.u32.max (run 4294967295 l0 : Int) = (sum l0 : Int) := not_u32 _ hr
        generalize hW : Lib.bytesWorld (w.drewN (n + m)) 5 (str l0) = w1 at *
        clear hW
        go_wp2_with fail
        refine (works_calls w1 (HT.out.below hbl)).mono ?_
        rintro e w2 ⟨rfl, hb3⟩
        clear k3 hN
        go_wp2
        go_ret
        exact ⟨rfl, hbl.trans (hb3.mono hbl.size)⟩
end Go.Proofs.YtinobnmoafefeaaDoor.crcWhole
