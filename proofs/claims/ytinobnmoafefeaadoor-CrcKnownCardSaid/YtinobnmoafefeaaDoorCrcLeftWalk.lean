/- The walk of CrcLeft: the register's step is what division leaves. -/
import Derived.Test.YtinobnmoafefeaaDoorCrcLawWalks
namespace Go.Proofs.YtinobnmoafefeaaDoor.crcLeft
open Go.RowKit Crc
set_option maxHeartbeats 400000 in
theorem walk (w : World) (n0 : Nat) (hn0 : n0 < 4294967296) (n1 : Nat) (hn1 : n1 < 256) (ht : Crc.Tab w) :
    Calls Tryd.prog 3 #[.int .u32 (n0 : Nat), .int .u8 (n1 : Nat)] w fun e w' => e = .returned (.bool true) ∧ Below w.heap.size w w' := by
  have HT := Lib.hid ht; clear ht
  have HE := Lib.hid (step_eq n0 n1)
  go_enter Tryd.func3, Tryd.ntmps3
  go_wp2_with fail
  refine (step_calls n0 n1 _ hn0 hn1 HT.out).mono ?_
  rintro e w' ⟨rfl, n, rfl⟩
  rw [HE.out]
  go_wp2_with fail
  refine (refStep_calls n0 n1 _ hn0 hn1).mono ?_
  rintro e w1 ⟨rfl, hb1⟩
  have hb2 : Below w.heap.size w w1 := (Below.drewN' (Below.refl _ w) n).trans hb1
  go_wp2_with fail
  refine (works_calls w1 (HT.out.below hb2)).mono ?_
  rintro e w2 ⟨rfl, hb3⟩
  go_wp2
  go_ret
  exact ⟨rfl, hb2.trans (hb3.mono hb2.size)⟩
end Go.Proofs.YtinobnmoafefeaaDoor.crcLeft
