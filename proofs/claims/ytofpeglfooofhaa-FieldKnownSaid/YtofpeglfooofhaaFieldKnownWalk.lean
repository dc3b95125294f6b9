/- The walk of FieldKnown: all bytes with their neighbours; powers about each bound. -/
import Derived.Test.YtofpeglfooofhaaFieldTwoWalk
import Derived.Test.YtofpeglfooofhaaFieldPowersWalk
import Derived.Test.YtofpeglfooofhaaFieldLawsWalk
import Derived.Test.YtofpeglfooofhaaFieldLogsWalk
namespace Go.Proofs.Ytofpeglfooofhaa.fieldKnown
open Go.RowKit GF

theorem lawsK (a b c : Int) (ha : 0 ≤ a) (ha' : a < 256) (hb : 0 ≤ b) (hb' : b < 256) (hc : 0 ≤ c) (hc' : c < 256) (w : World) :
    Calls Try.prog 5 #[.int .u8 a, .int .u8 b, .int .u8 c] w fun e w' => e = .returned (.bool true) ∧ Below w.heap.size w w' := by
  obtain ⟨a, rfl⟩ := Int.eq_ofNat_of_zero_le ha
  obtain ⟨b, rfl⟩ := Int.eq_ofNat_of_zero_le hb
  obtain ⟨c, rfl⟩ := Int.eq_ofNat_of_zero_le hc
  exact fieldLaws.walk w a (by omega) b (by omega) c (by omega)
theorem logsK (a b m n : Int) (ha : 0 ≤ a) (ha' : a < 256) (hb : 0 ≤ b) (hb' : b < 256) (hm : -32768 ≤ m) (hm' : m < 32768) (hn : -32768 ≤ n) (hn' : n < 32768) (w : World) :
    Calls Try.prog 6 #[.int .u8 a, .int .u8 b, .int .i16 m, .int .i16 n] w fun e w' => e = .returned (.bool true) ∧ Below w.heap.size w w' := by
  obtain ⟨a, rfl⟩ := Int.eq_ofNat_of_zero_le ha
  obtain ⟨b, rfl⟩ := Int.eq_ofNat_of_zero_le hb
  exact fieldLogs.walk w a (by omega) b (by omega) m hm hm' n hn hn'
theorem twoK (a b : Int) (ha : 0 ≤ a) (ha' : a < 256) (hb : 0 ≤ b) (hb' : b < 256) (w : World) :
    Calls Try.prog 3 #[.int .u8 a, .int .u8 b] w fun e w' => e = .returned (.bool true) ∧ Below w.heap.size w w' := by
  obtain ⟨a, rfl⟩ := Int.eq_ofNat_of_zero_le ha
  obtain ⟨b, rfl⟩ := Int.eq_ofNat_of_zero_le hb
  exact fieldTwo.walk w a (by omega) b (by omega)
theorem powersK (a n : Int) (ha : 0 ≤ a) (ha' : a < 256) (hl : -9223372036854775808 ≤ n) (hh : n < 9223372036854775808) (w : World) :
    Calls Try.prog 4 #[.int .u8 a, .int .i64 n] w fun e w' => e = .returned (.bool true) ∧ Below w.heap.size w w' := by
  obtain ⟨a, rfl⟩ := Int.eq_ofNat_of_zero_le ha
  exact fieldPowers.walk w a (by omega) n hl hh

/-- A row of numbers within bounds, in a block whose first n cells it is. -/
structure KS (w : World) (lo hi : Int) (g : Nat) (n : Nat) (wr : World) : Prop where
  bel : Below w.heap.size w wr
  row : ∃ t cs, Block wr g t cs ∧ ∀ j, j < n → ∃ x : Int, lo ≤ x ∧ x ≤ hi ∧ cs[j]? = some (.int .i64 x)
theorem KS.next {w wr w2 : World} {lo hi : Int} {g n : Nat} (h : KS w lo hi g n wr) (hb : Below wr.heap.size wr w2) : KS w lo hi g n w2 := by
  obtain ⟨t, cs, h1, h2⟩ := h.row
  exact ⟨h.bel.trans (hb.mono h.bel.size), t, cs, h1.below hb h1.lt, h2⟩
theorem KS.at_ {w wr : World} {lo hi : Int} {g n : Nat} (h : KS w lo hi g n wr) (j : Nat) (hj : j < n) : ∃ x : Int, lo ≤ x ∧ x ≤ hi ∧ wr.cell? ⟨g, j, none⟩ = some (.int .i64 x) := by
  obtain ⟨t, cs, h1, h2⟩ := h.row
  obtain ⟨x, a, b, c⟩ := h2 j hj
  exact ⟨x, a, b, (h1.cell j).trans c⟩
theorem next {w wr w2 : World} (h : Below w.heap.size w wr) (hb : Below wr.heap.size wr w2) : Below w.heap.size w w2 := h.trans (hb.mono h.size)

set_option maxRecDepth 100000 in
set_option maxHeartbeats 4000000 in
theorem walk (w : World)  :
    Calls Try.prog 7 #[] w fun e w' => e = .returned (.bool true) ∧ Below w.heap.size w w' := by
  go_enter Try.func7, Try.ntmps7
  go_wp2
  go_loopw [1] (fun i wr => ∃ k : Nat, k ≤ 256 ∧ i = .int .i64 k ∧ Below w.heap.size w wr) (fun i _ => 256 - (intOf i).toNat)
  case atStart => exact ⟨0, by omega, rfl, Below.refl _ _⟩
  case round =>
    obtain ⟨k, hk, rfl, HB⟩ := hrel
    by_cases hlt : k < 256
    · have hd : decide ((k : Int) < 256) = true := by simp; omega
      obtain ⟨wo, rfl⟩ : ∃ wo : World, wo = wr := ⟨_, rfl⟩
      have HK0 : KS w 0 255 wo.heap.size 7 (wo.alloc (.cells #[.int .i64 0, .int .i64 1, .int .i64 2, .int .i64 128, .int .i64 255, .int .i64 k, .int .i64 (255 - k)] 3)) := by
        refine ⟨HB.alloc HB.size _, _, _, Block.new _ _ _, fun j hj => ?_⟩
        obtain rfl | rfl | rfl | rfl | rfl | rfl | rfl : j = 0 ∨ j = 1 ∨ j = 2 ∨ j = 3 ∨ j = 4 ∨ j = 5 ∨ j = 6 := by omega
        · exact ⟨0, by omega, by omega, rfl⟩
        · exact ⟨1, by omega, by omega, rfl⟩
        · exact ⟨2, by omega, by omega, rfl⟩
        · exact ⟨128, by omega, by omega, rfl⟩
        · exact ⟨255, by omega, by omega, rfl⟩
        · exact ⟨k, by omega, by omega, rfl⟩
        · exact ⟨255 - k, by omega, by omega, rfl⟩
      clear HB
      go_wp2
      go_loopw [15] (fun i wr => ∃ j : Nat, j ≤ 7 ∧ i = .int .i64 j ∧ KS w 0 255 wo.heap.size 7 wr) (fun i _ => 7 - (intOf i).toNat)
      case atStart => exact ⟨0, by omega, rfl, HK0⟩
      case round =>
        clear HK0
        obtain ⟨j, hj, rfl, HK⟩ := hrel
        by_cases hj7 : j < 7
        · obtain ⟨x, hx0, hx1, hc⟩ := HK.at_ j hj7
          have hw1 : IntKind.u8.wrap (k : Int) = (k : Int) := by rw [IntKind.wrap_u8']; omega
          have hw2 : IntKind.u8.wrap x = x := by rw [IntKind.wrap_u8']; omega
          have hx16 : -32768 ≤ x * 3 ∧ x * 3 ≤ 32767 := by omega
          have hk16 : -32768 ≤ (k : Int) - 128 ∧ (k : Int) - 128 ≤ 32767 := by omega
          go_wp2_with (first | (go_at_call 5; refine (lawsK _ _ _ (by omega) (by omega) (by omega) (by omega) (by omega) (by omega) _).mono ?_; rintro e w1 ⟨rfl, HN⟩; have HK' := HK.next HN; clear HK HN hc; have HK := HK'; clear HK') | (go_at_call 6; refine (logsK _ _ _ _ (by omega) (by omega) (by omega) (by omega) (by omega) (by omega) (by omega) (by omega) _).mono ?_; rintro e w1 ⟨rfl, HN⟩; have HK' := HK.next HN; clear HK HN; have HK := HK'; clear HK'))
          go_roundw
          case rel => exact ⟨j + 1, by omega, by go_num, HK⟩
          case measure => simp [intOf]; omega
        · obtain rfl : j = 7 := by omega
          have HB := HK.bel
          have hw1 : IntKind.u8.wrap (k : Int) = (k : Int) := by rw [IntKind.wrap_u8']; omega
          clear HK hj hj7
          by_cases h4 : k % 4 = 0
          · have h4' : ((k : Int) % 4 == 0) = true := by simp; omega
            clear h4
            simp only [Int.cast_ofNat_Int]
            go_wp2_with (first | (go_at_call 3; refine (twoK _ _ (by omega) (by omega) (by omega) (by omega) _).mono ?_; rintro e w1 ⟨rfl, HN⟩; have HB' := next HB HN; clear HB HN; have HB := HB'; clear HB') | (go_at_call 4; refine (powersK _ _ (by omega) (by omega) (by omega) (by omega) _).mono ?_; rintro e w1 ⟨rfl, HN⟩; have HB' := next HB HN; clear HB HN; have HB := HB'; clear HB'))
            go_roundw
            case rel => exact ⟨k + 1, by omega, by go_num, HB⟩
            case measure => simp [intOf]; omega
          · have h4' : ((k : Int) % 4 == 0) = false := by simp; omega
            clear h4
            simp only [Int.cast_ofNat_Int]
            go_wp2_with (first | (go_at_call 3; refine (twoK _ _ (by omega) (by omega) (by omega) (by omega) _).mono ?_; rintro e w1 ⟨rfl, HN⟩; have HB' := next HB HN; clear HB HN; have HB := HB'; clear HB') | (go_at_call 4; refine (powersK _ _ (by omega) (by omega) (by omega) (by omega) _).mono ?_; rintro e w1 ⟨rfl, HN⟩; have HB' := next HB HN; clear HB HN; have HB := HB'; clear HB'))
            go_roundw
            case rel => exact ⟨k + 1, by omega, by go_num, HB⟩
            case measure => simp [intOf]; omega
    · obtain rfl : k = 256 := by omega
      clear hlt hk
      simp only [Int.cast_ofNat_Int]
      have HK0 : KS w (-9223372036854775808) 9223372036854775807 wr.heap.size 11 (wr.alloc (.cells #[.int .i64 (-9223372036854775808), .int .i64 (-256), .int .i64 (-255), .int .i64 (-254), .int .i64 (-1), .int .i64 0, .int .i64 1, .int .i64 254, .int .i64 255, .int .i64 256, .int .i64 9223372036854775807] 3)) := by
        refine ⟨HB.alloc HB.size _, _, _, Block.new _ _ _, fun j hj => ?_⟩
        obtain rfl | rfl | rfl | rfl | rfl | rfl | rfl | rfl | rfl | rfl | rfl : j = 0 ∨ j = 1 ∨ j = 2 ∨ j = 3 ∨ j = 4 ∨ j = 5 ∨ j = 6 ∨ j = 7 ∨ j = 8 ∨ j = 9 ∨ j = 10 := by omega
        all_goals exact ⟨_, by decide, by decide, rfl⟩
      clear HB
      obtain ⟨wo, rfl⟩ : ∃ wo : World, wo = wr := ⟨_, rfl⟩
      go_wp2
      go_loopw [73] (fun i wr => ∃ j : Nat, j ≤ 11 ∧ i = .int .i64 j ∧ KS w (-9223372036854775808) 9223372036854775807 wo.heap.size 11 wr) (fun i _ => 11 - (intOf i).toNat)
      case atStart => exact ⟨0, by omega, rfl, HK0⟩
      case round =>
        clear HK0
        obtain ⟨j, hj, rfl, HK⟩ := hrel
        by_cases hj11 : j < 11
        · obtain ⟨x, hx0, hx1, hc⟩ := HK.at_ j hj11
          go_wp2_with (go_at_call 4; refine (powersK _ _ (by omega) (by omega) (by omega) (by omega) _).mono ?_; rintro e w1 ⟨rfl, HN⟩; have HK' := HK.next HN; clear HK HN; (try clear hc); have HK := HK'; clear HK')
          go_roundw
          case rel => exact ⟨j + 1, by omega, by go_num, HK⟩
          case measure => simp [intOf]; omega
        · obtain rfl : j = 11 := by omega
          have HB := HK.bel
          clear HK hj hj11
          simp only [Int.cast_ofNat_Int]
          go_wp2_with (go_at_call 17; (with_reducible refine (works_calls _).mono ?_); rintro e w1 ⟨rfl, HN⟩; have HB' := next HB HN; clear HB HN; have HB := HB'; clear HB')
          go_ret
          exact ⟨rfl, HB⟩
end Go.Proofs.Ytofpeglfooofhaa.fieldKnown
