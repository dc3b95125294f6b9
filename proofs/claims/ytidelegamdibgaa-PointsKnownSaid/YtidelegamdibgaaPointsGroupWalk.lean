/- The walk of PointsGroup. -/
import Derived.Test.YtidelegamdibgaaPtSt
namespace Go.Proofs.Ytidelegamdibgaa.pointsGroup
open Go.RowKit GF Pt
set_option maxRecDepth 100000 in
set_option maxHeartbeats 4000000 in
theorem walk (w : World) (n0 : Int) (_hl0 : -9223372036854775808 ≤ n0) (_hn0 : n0 < 9223372036854775808) (n1 : Int) (_hl1 : -9223372036854775808 ≤ n1) (_hn1 : n1 < 9223372036854775808) :
    Calls Try.prog 6 #[.int .i64 n0, .int .i64 n1] w fun e w' => e = .returned (.bool true) ∧ Below w.heap.size w w' := by
  by_cases h : 1099511627776 < n1
  · go_enter Try.func6, Try.ntmps6
    go_wp2_with (go_at_call 40; refine (works_calls _).mono ?_; rintro e w1 ⟨rfl, hB⟩)
    go_ret
    exact ⟨rfl, hB⟩
  · obtain ⟨l, hl⟩ : ∃ l, groupR n0 n1 = l := ⟨_, rfl⟩
    obtain ⟨m, hm⟩ : ∃ m, l.length = m := ⟨_, rfl⟩
    have hm2 : m ≤ 255 := by
      rw [← hm, ← hl]
      unfold groupR
      split
      · simp [othersL]; omega
      · simp
    have hi : n1 ≤ 1099511627776 := by omega
    have HL := Lib.hid hl
    have HM := Lib.hid hm
    clear hl hm
    go_enter Try.func6, Try.ntmps6
    go_wp2_with fail
    refine (groupN n0 n1 hi HL.out HM.out _).mono ?_
    rintro e w1 ⟨A1, c1, rfl, hc1, -, hr1, hB1⟩
    go_wp2_with fail
    refine (refGroupN n0 n1 hi HL.out HM.out _).mono ?_
    rintro e w2 ⟨A2, c2, rfl, hc2, -, hr2, hB2⟩
    have H2 := hB1.trans (hB2.mono hB1.size)
    replace hr1 := hr1.below hB2
    clear hB1 hB2
    go_wp2_with fail
    refine (sameI_calls A1 A2 l l m m c1 c2 _ HM.out HM.out (by omega) hr1 hr2 true (by simp)).mono ?_
    rintro e w3 ⟨rfl, hB3⟩
    have H3 := H2.trans (hB3.mono H2.size)
    clear H2 hB3
    go_wp2_with fail
    refine (works_calls _).mono ?_
    rintro e w4 ⟨rfl, hB4⟩
    have H4 := H3.trans (hB4.mono H3.size)
    go_wp2
    go_ret
    exact ⟨rfl, H4⟩
end Go.Proofs.Ytidelegamdibgaa.pointsGroup
