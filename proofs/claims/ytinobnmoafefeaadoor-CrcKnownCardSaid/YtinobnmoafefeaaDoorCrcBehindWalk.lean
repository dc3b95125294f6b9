/- The walk of CrcBehind: bytes with their Sum behind them have one Sum, with any other four bytes another one. -/
import Derived.Test.YtinobnmoafefeaaDoorCrcLawWalks
namespace Go.Proofs.YtinobnmoafefeaaDoor.crcBehind
open Go.RowKit Crc
set_option linter.unusedVariables false
set_option maxHeartbeats 400000 in
set_option maxRecDepth 100000 in
theorem walk (w : World) (A0 : Option Addr) (l0 : List Nat) (c0 : Nat) (hb0 : Bytes w A0 l0) (hc0 : l0.length ≤ c0) (hm0 : c0 ≤ 9223372036854775807) (n1 : Nat) (hn1 : n1 < 4294967296) (ht : Crc.Tab w) :
    Calls Tryd.prog 5 #[.slice A0 l0.length c0, .int .u32 (n1 : Nat)] w fun e w' => e = .returned (.bool true) ∧ Below w.heap.size w w' := by
  have HT := Lib.hid ht; clear ht
  have HB := Lib.hid hb0; clear hb0
  by_cases hlen : (1000 : Int) < (l0.length : Int)
  · go_enter Tryd.func5, Tryd.ntmps5
    go_wp2_with (go_at_call 12; refine (works_calls _ HT.out).mono ?_; rintro e w2 ⟨rfl, hb3⟩)
    go_ret
    exact ⟨rfl, hb3⟩
  · have hs : sum l0 < 4294967296 := sum_lt l0 HB.out.lt
    have H1 := Lib.hid ((sum_behind l0 (sum l0) hs HB.out.lt).2 rfl)
    have H2 := Lib.hid (sum_behind l0 n1 hn1 HB.out.lt)
    go_enter Tryd.func5, Tryd.ntmps5
    go_wp2_with fail
    refine (sum_calls _ _ _ _ HB.out (by omega) HT.out).mono ?_
    rintro e w' ⟨rfl, n, rfl⟩
    go_wp2_with fail
    refine (four_calls _ _ _ _ _ (HB.out.drewN _) (by omega) hs).mono ?_
    rintro e w1 ⟨v, rfl, HO, hb1⟩
    have hB1 : Below w.heap.size w w1 := (Below.drewN' (Below.refl _ w) n).trans hb1
    obtain ⟨A1, c1, rfl, hr1, -⟩ := HO.out.form
    rw [bv_length]
    go_wp2_with fail
    (with_reducible refine (sum_calls' A1 (l0 ++ le (sum l0) 4) _ c1 w1 (by simp) (bytes_le hr1 HB.out.lt) (by simp [le]; omega) (HT.out.below hB1)).mono ?_)
    rintro e w' ⟨rfl, n2, rfl⟩
    rw [H1.out]
    clear hr1
    go_wp2_with fail
    refine (four_calls A0 l0 c0 n1 _ ((HB.out.below hB1).drewN _) (by omega) hn1).mono ?_
    rintro e w2 ⟨v, rfl, HO2, hb2⟩
    have hB2 : Below w.heap.size w w2 := (Below.drewN' hB1 n2).trans (hb2.mono hB1.size)
    obtain ⟨A2, c2, rfl, hr2, -⟩ := HO2.out.form
    rw [bv_length]
    go_wp2_with fail
    (with_reducible refine (sum_calls' A2 (l0 ++ le n1 4) _ c2 w2 (by simp) (bytes_le hr2 HB.out.lt) (by simp [le]; omega) (HT.out.below hB2)).mono ?_)
    rintro e w' ⟨rfl, n3, rfl⟩
    clear hr2
    have hB3 := Below.drewN' hB2 n3
    by_cases hq : n1 = sum l0
    · have hd : ((sum (l0 ++ le n1 4) : Int) == 1214729159) = true := by
        have := H2.out.2 hq; rw [this]; rfl
      have hd2 : ((n1 : Int) == (sum l0 : Int)) = true := by rw [hq]; simp
      clear hq
      go_wp2_with (go_at_call 12; refine (works_calls _ (HT.out.below hB3)).mono ?_; rintro e w4 ⟨rfl, hb4⟩)
      go_ret
      exact ⟨rfl, hB3.trans (hb4.mono hB3.size)⟩
    · have hd : ((sum (l0 ++ le n1 4) : Int) == 1214729159) = false := by
        have hne : sum (l0 ++ le n1 4) ≠ 1214729159 := fun h => hq (H2.out.1 h)
        rw [beq_eq_false_iff_ne]; omega
      have hd2 : ((n1 : Int) == (sum l0 : Int)) = false := by simp; omega
      clear hq
      go_wp2_with (go_at_call 12; refine (works_calls _ (HT.out.below hB3)).mono ?_; rintro e w4 ⟨rfl, hb4⟩)
      go_ret
      exact ⟨rfl, hB3.trans (hb4.mono hB3.size)⟩
end Go.Proofs.YtinobnmoafefeaaDoor.crcBehind
