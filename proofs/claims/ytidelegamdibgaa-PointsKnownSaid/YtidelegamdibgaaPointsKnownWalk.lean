/- The walk of PointsKnown. -/
import Derived.Test.YtidelegamdibgaaPointsOfWalk
import Derived.Test.YtidelegamdibgaaPointsGroupWalk
import Derived.Test.YtidelegamdibgaaPointsUnlikeWalk
import Derived.Test.YtidelegamdibgaaPointsCosetsWalk
namespace Go.Proofs.Ytidelegamdibgaa.pointsKnown
open Go.RowKit GF Pt
theorem next {w a b : World} (h : Below w.heap.size w a) (h2 : Below a.heap.size a b) : Below w.heap.size w b := h.trans (h2.mono h.size)
def R1 : Array Value := #[.int .i64 2, .int .i64 4, .int .i64 14, .int .i64 16, .int .i64 50, .int .i64 84, .int .i64 254]
def R2 : Array Value := #[.int .i64 (-1), .int .i64 0, .int .i64 1, .int .i64 3, .int .i64 5, .int .i64 15, .int .i64 17, .int .i64 51, .int .i64 85, .int .i64 255, .int .i64 256]
theorem r1_at {k : Nat} (hk : k < 7) : ∃ x : Int, 2 ≤ x ∧ x ≤ 254 ∧ R1[k]? = some (.int .i64 x) := by
  rcases (by omega : k = 0 ∨ k = 1 ∨ k = 2 ∨ k = 3 ∨ k = 4 ∨ k = 5 ∨ k = 6) with rfl | rfl | rfl | rfl | rfl | rfl | rfl
  all_goals exact ⟨_, by decide, by decide, rfl⟩
theorem r2_at {k : Nat} (hk : k < 11) : ∃ x : Int, -1 ≤ x ∧ x ≤ 256 ∧ R2[k]? = some (.int .i64 x) := by
  rcases (by omega : k = 0 ∨ k = 1 ∨ k = 2 ∨ k = 3 ∨ k = 4 ∨ k = 5 ∨ k = 6 ∨ k = 7 ∨ k = 8 ∨ k = 9 ∨ k = 10) with rfl | rfl | rfl | rfl | rfl | rfl | rfl | rfl | rfl | rfl | rfl
  all_goals exact ⟨_, by decide, by decide, rfl⟩

set_option maxRecDepth 100000 in
set_option maxHeartbeats 8000000 in
theorem walk (w : World) :
    Calls Try.prog 10 #[] w fun e w' => e = .returned (.bool true) ∧ Below w.heap.size w w' := by
  go_enter Try.func10, Try.ntmps10
  go_wp2
  go_loopw [1] (fun i wr => ∃ x : Int, -1 ≤ x ∧ x ≤ 258 ∧ i = .int .i64 x ∧ Below w.heap.size w wr) (fun i _ => (258 - intOf i).toNat)
  case atStart => exact ⟨-1, by decide, by decide, rfl, Below.refl _ _⟩
  case round =>
    obtain ⟨x, hx1, hx2, rfl, HB⟩ := hrel
    by_cases hx : x < 258
    · by_cases h60 : x < 60
      all_goals
        go_wp2_with (first | (go_at_call 5; refine (pointsOf.walk _ _ (by omega) (by omega) _ (by omega) (by omega) _ (by omega) (by omega) _ (by omega) (by omega)).mono ?_; rintro e w1 ⟨rfl, HN⟩; have HB' := next HB HN; clear HB HN; have HB := HB'; clear HB') | (go_at_call 6; refine (pointsGroup.walk _ _ (by omega) (by omega) _ (by omega) (by omega)).mono ?_; rintro e w1 ⟨rfl, HN⟩; have HB' := next HB HN; clear HB HN; have HB := HB'; clear HB'))
        go_roundw
        case rel => exact ⟨x + 1, by omega, by omega, by go_num, HB⟩
        case measure => simp [intOf]; omega
    · obtain rfl : x = 258 := by omega
      have hsz := HB.size
      have e1 := Block.new wr 3 R1
      have HB1 : Below w.heap.size w (wr.alloc (.cells R1 3)) := HB.alloc hsz _
      obtain ⟨B1, hB1⟩ : ∃ B1, wr.heap.size = B1 := ⟨_, rfl⟩
      have HS1 := Lib.hid hB1
      clear hx1 hx2 hx HB hsz hB1
      unfold R1 at HB1
      go_wp2
      rw [HS1.out] at e1 ⊢
      go_loopw [30] (fun i wr2 => ∃ k : Nat, k ≤ 7 ∧ i = .int .i64 k ∧ Below w.heap.size w wr2 ∧ Block wr2 B1 3 R1) (fun i _ => 7 - (intOf i).toNat)
      case atStart => exact ⟨0, by decide, rfl, HB1, e1⟩
      case round =>
        clear HB1 e1 HS1
        obtain ⟨k, hk, rfl, HB, hK⟩ := hrel
        by_cases hk7 : k < 7
        · obtain ⟨x, hx1, hx2, hv⟩ := r1_at hk7
          have hc := hK.cell k
          rw [hv] at hc
          have hn : ¬ (x + 1 = 0) := by omega
          obtain ⟨q, hq⟩ : ∃ q, (255 : Int).tdiv (x + 1) = q := ⟨_, rfl⟩
          have hqb : 0 ≤ q ∧ q ≤ 255 := by
            rw [← hq, Int.tdiv_eq_ediv_of_nonneg (by decide)]
            exact ⟨Int.ediv_nonneg (by decide) (by omega), Int.ediv_le_self _ (by decide)⟩
          obtain ⟨hq0, hq1⟩ := hqb
          clear hv
          by_cases h4 : 4 < x
          · by_cases h51 : x < 51
            all_goals
              go_wp2_with (first | (go_at_call 5; refine (pointsOf.walk _ _ (by omega) (by omega) _ (by omega) (by omega) _ (by omega) (by omega) _ (by omega) (by omega)).mono ?_; rintro e w1 ⟨rfl, HN⟩; have HB' := next HB HN; have hK' := hK.below HN hK.lt; clear HB HN hK; have HB := HB'; have hK := hK'; clear HB' hK') | (go_at_call 8; refine (pointsCosets.walk _ _ (by omega) (by omega) _ (by omega) (by omega)).mono ?_; rintro e w1 ⟨rfl, HN⟩; have HB' := next HB HN; have hK' := hK.below HN hK.lt; clear HB HN hK; have HB := HB'; have hK := hK'; clear HB' hK'))
              go_roundw
              case rel => exact ⟨k + 1, by omega, by go_num, HB, hK⟩
              case measure => simp [intOf]; omega
          · go_wp2_with (first | (go_at_call 5; refine (pointsOf.walk _ _ (by omega) (by omega) _ (by omega) (by omega) _ (by omega) (by omega) _ (by omega) (by omega)).mono ?_; rintro e w1 ⟨rfl, HN⟩; have HB' := next HB HN; have hK' := hK.below HN hK.lt; clear HB HN hK; have HB := HB'; have hK := hK'; clear HB' hK') | (go_at_call 8; refine (pointsCosets.walk _ _ (by omega) (by omega) _ (by omega) (by omega)).mono ?_; rintro e w1 ⟨rfl, HN⟩; have HB' := next HB HN; have hK' := hK.below HN hK.lt; clear HB HN hK; have HB := HB'; have hK := hK'; clear HB' hK'))
            go_roundw
            case rel => exact ⟨k + 1, by omega, by go_num, HB, hK⟩
            case measure => simp [intOf]; omega
        · obtain rfl : k = 7 := by omega
          simp only [Int.cast_ofNat_Int]
          have hsz := HB.size
          have e1 := Block.new wr 3 R2
          have HB1 : Below w.heap.size w (wr.alloc (.cells R2 3)) := HB.alloc hsz _
          obtain ⟨B2, hB2⟩ : ∃ B2, wr.heap.size = B2 := ⟨_, rfl⟩
          have HS1 := Lib.hid hB2
          clear HB hsz hB2 hk hK hk7
          unfold R2 at HB1
          go_wp2
          rw [HS1.out] at e1 ⊢
          go_loopw [84] (fun i wr2 => ∃ k : Nat, k ≤ 11 ∧ i = .int .i64 k ∧ Below w.heap.size w wr2 ∧ Block wr2 B2 3 R2) (fun i _ => 11 - (intOf i).toNat)
          case atStart => exact ⟨0, by decide, rfl, HB1, e1⟩
          case round =>
            clear HB1 e1 HS1
            obtain ⟨k, hk, rfl, HB, hK⟩ := hrel
            by_cases hk11 : k < 11
            · obtain ⟨x, hx1, hx2, hv⟩ := r2_at hk11
              have hc := hK.cell k
              rw [hv] at hc
              clear hv
              go_wp2_with (first | (go_at_call 5; refine (pointsOf.walk _ _ (by omega) (by omega) _ (by omega) (by omega) _ (by omega) (by omega) _ (by omega) (by omega)).mono ?_; rintro e w1 ⟨rfl, HN⟩; have HB' := next HB HN; have hK' := hK.below HN hK.lt; clear HB HN hK; have HB := HB'; have hK := hK'; clear HB' hK') | (go_at_call 7; refine (pointsUnlike.walk _ _ (by omega) (by omega) _ (by omega) (by omega)).mono ?_; rintro e w1 ⟨rfl, HN⟩; have HB' := next HB HN; have hK' := hK.below HN hK.lt; clear HB HN hK; have HB := HB'; have hK := hK'; clear HB' hK') | (go_at_call 6; refine (pointsGroup.walk _ _ (by omega) (by omega) _ (by omega) (by omega)).mono ?_; rintro e w1 ⟨rfl, HN⟩; have HB' := next HB HN; have hK' := hK.below HN hK.lt; clear HB HN hK; have HB := HB'; have hK := hK'; clear HB' hK'))
              go_roundw
              case rel => exact ⟨k + 1, by omega, by go_num, HB, hK⟩
              case measure => simp [intOf]; omega
            · obtain rfl : k = 11 := by omega
              simp only [Int.cast_ofNat_Int]
              clear hk hk11
              go_wp2_with (first | (go_at_call 5; refine (pointsOf.walk _ _ (by omega) (by omega) _ (by omega) (by omega) _ (by omega) (by omega) _ (by omega) (by omega)).mono ?_; rintro e w1 ⟨rfl, HN⟩; have HB' := next HB HN; have hK' := hK.below HN hK.lt; clear HB HN hK; have HB := HB'; have hK := hK'; clear HB' hK') | (go_at_call 6; refine (pointsGroup.walk _ _ (by omega) (by omega) _ (by omega) (by omega)).mono ?_; rintro e w1 ⟨rfl, HN⟩; have HB' := next HB HN; have hK' := hK.below HN hK.lt; clear HB HN hK; have HB := HB'; have hK := hK'; clear HB' hK') | (go_at_call 40; refine (works_calls _).mono ?_; rintro e w1 ⟨rfl, HN⟩; have HB' := next HB HN; have hK' := hK.below HN hK.lt; clear HB HN hK; have HB := HB'; have hK := hK'; clear HB' hK'))
              go_ret
              exact ⟨rfl, HB⟩
end Go.Proofs.Ytidelegamdibgaa.pointsKnown
