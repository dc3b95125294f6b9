/- The walks of layer 1's definition: divisor, Step, Sum. -/
import Derived.Test.YtinobnmoafefeaaDoorRows
import Derived.Test.YtinobnmoafefeaaDoorCrcRefFns
import Derived.Test.YtinobnmoafefeaaDoorKit
import Derived.WalkKit
import Derived.BigQuiet
import Derived.Deep.QuietTactic
import Derived.RegionTactic
import Derived.BigRegion
import Derived.StillTailTactics
import Derived.Deep.RegionWith
import Derived.Lib.Hide
namespace Go.Proofs.YtinobnmoafefeaaDoor.Crc
open Go.RowKit

theorem and1 (k : IntKind) (j : Nat) (hj : j ≤ k.bits) (hk : ∀ n : Int, 0 ≤ n → n < 2 ^ j → k.wrap n = n) (h1 : 1 ≤ j) (a : Nat) (ha : a < 2 ^ j) : bits .and k (a : Int) 1 = ((a % 2 : Nat) : Int) := by
  have h := bits_mask k j hj hk 1 h1 (a : Int) (by omega) (by exact_mod_cast ha)
  simpa using h
theorem bit_eq (k : IntKind) (j : Nat) (hj : j ≤ k.bits) (hk : ∀ n : Int, 0 ≤ n → n < 2 ^ j → k.wrap n = n) (h1 : 1 ≤ j) (a i : Nat) (ha : a < 2 ^ j) :
    (bits .and k ((a : Int) / 2 ^ i) 1 == 1) = a.testBit i := by
  have h2 : ((a : Int) / 2 ^ i) = ((a / 2 ^ i : Nat) : Int) := by simp
  rw [h2, and1 k j hj hk h1 _ (Nat.lt_of_le_of_lt (Nat.div_le_self _ _) ha), Nat.testBit_eq_decide_div_mod_eq]
  rw [Bool.eq_iff_iff]; simp; omega
theorem bit_u32 (a i : Nat) (ha : a < 4294967296) : (bits .and .u32 ((a : Int) / 2 ^ i) 1 == 1) = a.testBit i :=
  bit_eq .u32 32 (by decide) (fun n h0 h1 => by rw [IntKind.wrap_u32']; omega) (by decide) a i ha
theorem bit_u8 (a i : Nat) (ha : a < 256) : (bits .and .u8 ((a : Int) / 2 ^ i) 1 == 1) = a.testBit i :=
  bit_eq .u8 8 (by decide) (fun n h0 h1 => by rw [IntKind.wrap_u8']; omega) (by decide) a i ha
theorem bit_i64 (a i : Nat) (ha : a < 4294967296) : (bits .and .i64 ((a : Int) / 2 ^ i) 1 == 1) = a.testBit i :=
  bit_eq .i64 32 (by decide) (fun n h0 h1 => by rw [IntKind.wrap_i64]; omega) (by decide) a i ha

theorem ret_bool {a b : Bool} (h : a = b) : Ending.returned (.bool a) = .returned (.bool b) := by rw [h]
theorem D_bit : ∀ k, k < 33 → D.testBit k = (decide (k = 0) || (517762881 : Nat).testBit (32 - k)) := by decide

set_option maxHeartbeats 400000 in
theorem divisor_calls (k : Nat) (w : World) (hk : k ≤ 32) :
    Calls Tryd.prog 17 #[.int .i64 k] w fun e w' => e = .returned (.bool (D.testBit k)) ∧ w' = w := by
  have HD := Lib.hid (D_bit k (by omega))
  by_cases h0 : k = 0
  · subst h0
    go_enter Tryd.func17, Tryd.ntmps17
    go_wp2
    go_ret
    exact ⟨rfl, rfl⟩
  · have h1 : ((k : Int) == 0) = false := by simp; omega
    have HB := Lib.hid (bit_i64 517762881 (32 - k) (by decide))
    go_enter Tryd.func17, Tryd.ntmps17
    go_wp2
    go_ret
    exact ⟨ret_bool (by rw [HD.out, ← HB.out]; simp [h0]), rfl⟩

/-- The forty cells of the row, and one of them stored. -/
def cells40 (f : Nat → Bool) : Array Value := Array.ofFn (n := 40) fun i => .bool (f i)
theorem cells40_get (f : Nat → Bool) (k : Nat) (hk : k < 40) : (cells40 f)[k]? = some (.bool (f k)) := by
  unfold cells40; rw [Array.getElem?_ofFn, dif_pos hk]
theorem cells40_set (f g : Nat → Bool) (k : Nat) (v : Bool) (hg : ∀ j, j < 40 → g j = if j = k then v else f j) : (cells40 f).setIfInBounds k (.bool v) = cells40 g := by
  apply Array.ext
  · simp [cells40]
  · intro i h1 h2
    have hi : i < 40 := by simpa [cells40] using h2
    rw [Array.getElem_setIfInBounds (by simpa [cells40] using hi)]
    simp only [cells40, Array.getElem_ofFn]
    rw [hg i hi]
    by_cases h : k = i
    · rw [if_pos h, if_pos h.symm]
    · rw [if_neg h, if_neg (fun e => h e.symm)]

theorem cells40_zero : cells40 (fun _ => false) = Array.replicate 40 (.bool false) := by
  apply Array.ext
  · simp [cells40]
  · intro i h1 h2; simp [cells40]

/-- What the row holds in the first loop, the second, the inner one of the third. -/
def f1 (r k j : Nat) : Bool := decide (j < k) && r.testBit j
def f2 (r c k j : Nat) : Bool := r.testBit j != (decide (j < k) && c.testBit j)
def f3 (x i k j : Nat) : Bool := x.testBit j != (decide (i ≤ j ∧ j < i + k) && D.testBit (j - i))
theorem f1_zero (r : Nat) : f1 r 0 = fun _ => false := by funext j; simp [f1]
theorem f1_end (r c : Nat) (hr : r < 4294967296) : f1 r 32 = f2 r c 0 := by
  funext j
  simp only [f1, f2]
  by_cases h : j < 32
  · simp [h]
  · have : r.testBit j = false := Nat.testBit_lt_two_pow (Nat.lt_of_lt_of_le (show r < 2 ^ 32 from hr) (Nat.pow_le_pow_right (n := 2) (by decide) (by omega)))
    simp [h, this]
theorem f1_step (r k j : Nat) : f1 r (k + 1) j = if j = k then r.testBit k else f1 r k j := by
  simp only [f1]
  by_cases h : j = k
  · subst h; simp
  · rw [if_neg h, show decide (j < k + 1) = decide (j < k) by rw [decide_eq_decide]; omega]
theorem f2_step (r c k j : Nat) : f2 r c (k + 1) j = if j = k then (!(f2 r c k k == c.testBit k)) else f2 r c k j := by
  simp only [f2]
  by_cases h : j = k
  · subst h; simp [bne]
  · rw [if_neg h, show decide (j < k + 1) = decide (j < k) by rw [decide_eq_decide]; omega]
theorem f2_end (r c : Nat) (hc : c < 256) : f2 r c 8 = (r ^^^ c).testBit := by
  funext j
  simp only [f2, Nat.testBit_xor]
  by_cases h : j < 8
  · simp [h]
  · have : c.testBit j = false := Nat.testBit_lt_two_pow (Nat.lt_of_lt_of_le (show c < 2 ^ 8 from hc) (Nat.pow_le_pow_right (n := 2) (by decide) (by omega)))
    simp [this]
theorem f3_zero (x i : Nat) : f3 x i 0 = x.testBit := by
  funext j
  simp only [f3]
  rw [show decide (i ≤ j ∧ j < i + 0) = false by simp]
  simp
theorem f3_step (x i k j : Nat) : f3 x i (k + 1) j = if j = i + k then (!(f3 x i k (i + k) == D.testBit k)) else f3 x i k j := by
  simp only [f3]
  by_cases h : j = i + k
  · subst h
    rw [if_pos rfl, show decide (i ≤ i + k ∧ i + k < i + (k + 1)) = true by simp, show decide (i ≤ i + k ∧ i + k < i + k) = false by simp]
    simp [bne]
  · rw [if_neg h, show decide (i ≤ j ∧ j < i + (k + 1)) = decide (i ≤ j ∧ j < i + k) by rw [decide_eq_decide]; omega]
theorem f3_end (x i : Nat) : f3 x i 33 = (x ^^^ (D <<< i)).testBit := by
  funext j
  simp only [f3, Nat.testBit_xor, Nat.testBit_shiftLeft]
  by_cases h : i ≤ j
  · by_cases h2 : j < i + 33
    · simp [h, h2]
    · have hd : D.testBit (j - i) = false := Nat.testBit_lt_two_pow (Nat.lt_of_lt_of_le (by decide : D < 2 ^ 33) (Nat.pow_le_pow_right (n := 2) (by decide) (by omega)))
      simp [hd]
  · simp [h]

theorem row_no (x i : Nat) (h : (row x i).testBit i = false) : row x (i + 1) = row x i := by simp [row, h]
theorem row_yes (x i : Nat) (h : (row x i).testBit i = true) : row x (i + 1) = row x i ^^^ (D <<< i) := by simp [row, h]

theorem mod_succ (x k : Nat) : x % 2 ^ (k + 1) = x % 2 ^ k + 2 ^ k * (x.testBit k).toNat := by
  rw [Nat.mod_pow_succ, Nat.testBit_eq_decide_div_mod_eq]
  rcases Nat.mod_two_eq_zero_or_one (x / 2 ^ k) with h | h <;> rw [h] <;> simp
theorem add_bit (x k : Nat) (hx : x < 4294967296) (hk : k < 32) (h : x % 2 ^ (k + 1) = x % 2 ^ k + 2 ^ k * true.toNat) :
    (((x : Int) % 2 ^ k + 2 ^ k % 4294967296) % 4294967296) = ((x % 2 ^ (k + 1) : Nat) : Int) := by
  have h1 : (2 : Nat) ^ k < 4294967296 := Nat.lt_of_le_of_lt (Nat.pow_le_pow_right (by decide) (by omega : k ≤ 31)) (by decide)
  have h2 : x % 2 ^ (k + 1) < 4294967296 := Nat.lt_of_le_of_lt (Nat.mod_le _ _) hx
  rw [h] at h2 ⊢
  have e : ((x : Int) % 2 ^ k) = ((x % 2 ^ k : Nat) : Int) := by simp
  have e2 : ((2 : Int) ^ k) = ((2 ^ k : Nat) : Int) := by simp
  rw [e, e2]
  simp only [Bool.toNat_true, Nat.mul_one] at h2 ⊢
  omega
theorem u32_eq' {a b : Int} (h : a = b) : Value.int .u32 a = Value.int .u32 b := by rw [h]
theorem ret_u32' {a b : Int} (h : a = b) : Ending.returned (.int .u32 a) = .returned (.int .u32 b) := by rw [h]

set_option maxHeartbeats 1000000 in
theorem refStep_calls (r c : Nat) (w : World) (hr : r < 4294967296) (hc : c < 256) :
    Calls Tryd.prog 11 #[.int .u32 r, .int .u8 c] w fun e w' => e = .returned (.int .u32 (lfs 8 (r ^^^ c))) ∧ Below w.heap.size w w' := by
  go_enter Tryd.func11, Tryd.ntmps11
  go_wp2
  go_loopw [6] (fun i wr => ∃ k : Nat, k ≤ 32 ∧ i = .int .i64 k ∧ Below w.heap.size w wr ∧ Hid (Block wr w.heap.size 36 (cells40 (f1 r k)))) (fun i _ => 32 - (intOf i).toNat)
  case atStart => exact ⟨0, by omega, rfl, (Below.refl _ _).alloc (Nat.le_refl _) _, by rw [f1_zero, cells40_zero]; exact Block.new _ _ _⟩
  case round =>
    obtain ⟨k, hk, rfl, hbel, HB⟩ := hrel
    by_cases hlt : k < 32
    · have hcell := (HB.out.cell k).trans (cells40_get _ k (by omega))
      have hfr := HB.out.frozen k
      have HV := Lib.hid (bit_u32 r k hr)
      go_wp2
      go_roundw
      case rel => exact ⟨k + 1, by omega, by go_num, hbel.setCell (Nat.le_refl _) _, by rw [HV.out]; have := HB.out.set_ k (.bool (r.testBit k)); rw [cells40_set _ (f1 r (k + 1)) k _ (fun j _ => f1_step r k j)] at this; exact this⟩
      case measure => simp [intOf]; omega
    · obtain rfl : k = 32 := by omega
      simp only [Int.cast_ofNat_Int]
      go_wp2
      go_loopw [7] (fun i wr => ∃ k : Nat, k ≤ 8 ∧ i = .int .i64 k ∧ Below w.heap.size w wr ∧ Hid (Block wr w.heap.size 36 (cells40 (f2 r c k)))) (fun i _ => 8 - (intOf i).toNat)
      case atStart => exact ⟨0, by omega, rfl, hbel, by rw [← f1_end r c hr]; exact HB⟩
      case round =>
        clear hbel HB hlt hk
        obtain ⟨k, hk, rfl, hbel, HB⟩ := hrel
        by_cases hlt : k < 8
        · have hcell := (HB.out.cell k).trans (cells40_get _ k (by omega))
          have hfr := HB.out.frozen k
          have HV := Lib.hid (bit_u8 c k hc)
          go_wp2
          go_region
          go_wp2
          go_roundw
          case rel => exact ⟨k + 1, by omega, by go_num, (hbel.setCell (Nat.le_refl _) _).drew, by rw [HV.out]; have := HB.out.set_ k (.bool (!(f2 r c k k == c.testBit k))); rw [cells40_set _ (f2 r c (k + 1)) k _ (fun j _ => f2_step r c k j)] at this; exact this⟩
          case measure => simp [intOf]; omega
        · obtain rfl : k = 8 := by omega
          simp only [Int.cast_ofNat_Int]
          go_wp2
          go_loopw [8, 9] (fun i _ wr => ∃ k : Nat, k ≤ 8 ∧ i = .int .i64 k ∧ Below w.heap.size w wr ∧ Hid (Block wr w.heap.size 36 (cells40 (row (r ^^^ c) k).testBit))) (fun i _ _ => 8 - (intOf i).toNat)
          case atStart => exact ⟨0, by omega, rfl, hbel, by rw [f2_end r c hc] at HB; exact HB⟩
          case round =>
            clear hbel HB hlt hk
            obtain ⟨i, hi, rfl, hbel, HB⟩ := hrel
            by_cases hlt : i < 8
            · have hcell := (HB.out.cell i).trans (cells40_get _ i (by omega))
              have hd : decide ((i : Int) < 8) = true := by simp; omega
              by_cases hbit : (row (r ^^^ c) i).testBit i = true
              · rw [hbit] at hcell
                go_wp2
                go_loopw [9] (fun j wr => ∃ k : Nat, k ≤ 33 ∧ j = .int .i64 k ∧ Below w.heap.size w wr ∧ Hid (Block wr w.heap.size 36 (cells40 (f3 (row (r ^^^ c) i) i k)))) (fun j _ => 33 - (intOf j).toNat)
                case atStart => exact ⟨0, by omega, rfl, hbel, by rw [f3_zero]; exact HB⟩
                case round =>
                  clear hbel HB hcell
                  obtain ⟨k, hk, rfl, hbel, HB⟩ := hrel
                  by_cases hlt2 : k < 33
                  · have hcell := (HB.out.cell (i + k)).trans (cells40_get _ (i + k) (by omega))
                    have hfr := HB.out.frozen (i + k)
                    go_wp2
                    have e1 : IntKind.i64.wrap ((i : Int) + (k : Int)) = (i : Int) + (k : Int) := IntWalk.i64_in _ (by omega)
                    have e2 : (0 : Int) ≤ (i : Int) + (k : Int) := by omega
                    have e3 : (i : Int) + (k : Int) < 40 := by omega
                    have e4 : ((i : Int) + (k : Int)).toNat = i + k := by omega
                    go_region_with ((go_at_call 17; refine (divisor_calls k _ (by omega)).mono ?_; rintro e w' ⟨rfl, rfl⟩))
                    all_goals
                      go_wp2
                      go_roundw
                      case rel => exact ⟨k + 1, by omega, by go_num, (hbel.setCell (Nat.le_refl _) _).drew, by have := HB.out.set_ (i + k) (.bool (!(f3 (row (r ^^^ c) i) i k (i + k) == D.testBit k))); rw [cells40_set _ (f3 (row (r ^^^ c) i) i (k + 1)) (i + k) _ (fun j _ => f3_step (row (r ^^^ c) i) i k j)] at this; exact this⟩
                      case measure => simp [intOf]; omega
                  · obtain rfl : k = 33 := by omega
                    go_wp2
                    go_roundw
                    case rel => exact ⟨i + 1, by omega, by go_num, hbel, by rw [row_yes _ _ hbit, ← f3_end]; exact HB⟩
                    case measure => simp [intOf]; omega
              · have hb2 : (row (r ^^^ c) i).testBit i = false := by simpa using hbit
                rw [hb2] at hcell
                go_wp2
                go_roundw
                case rel => exact ⟨i + 1, by omega, by go_num, hbel, by rw [row_no _ _ hb2]; exact HB⟩
                case measure => simp [intOf]; omega
            · obtain rfl : i = 8 := by omega
              simp only [Int.cast_ofNat_Int]
              clear hlt hi
              have hy : lfs 8 (r ^^^ c) < 4294967296 := lfs_lt _ _ (xor_lt hr (by omega))
              go_wp2
              go_loopw [10, 11] (fun t i wr => ∃ k : Nat, k ≤ 32 ∧ i = .int .i64 k ∧ t = .int .u32 (lfs 8 (r ^^^ c) % 2 ^ k : Nat) ∧ Below w.heap.size w wr ∧ Hid (Block wr w.heap.size 36 (cells40 (row (r ^^^ c) 8).testBit))) (fun _ i _ => 32 - (intOf i).toNat)
              case atStart => exact ⟨0, by omega, rfl, by simp [Nat.mod_one], hbel, HB⟩
              case round =>
                clear hbel HB
                obtain ⟨k, hk, rfl, rfl, hbel, HB⟩ := hrel
                by_cases hlt : k < 32
                · have hcell := (HB.out.cell (8 + k)).trans (cells40_get _ (8 + k) (by omega))
                  rw [row8_bit] at hcell
                  have hs := mod_succ (lfs 8 (r ^^^ c)) k
                  have hlt2 : lfs 8 (r ^^^ c) % 2 ^ (k + 1) < 4294967296 := Nat.lt_of_le_of_lt (Nat.mod_le _ _) hy
                  by_cases hbit : (lfs 8 (r ^^^ c)).testBit k = true
                  · rw [hbit] at hcell hs
                    have HS := Lib.hid hs
                    clear hs
                    go_wp2
                    go_roundw
                    case rel => exact ⟨k + 1, by omega, by go_num, u32_eq' (add_bit _ k hy hlt HS.out), hbel, HB⟩
                    case measure => simp [intOf]; omega
                  · have hb2 : (lfs 8 (r ^^^ c)).testBit k = false := by simpa using hbit
                    rw [hb2] at hcell hs
                    have HS := Lib.hid hs
                    clear hs
                    go_wp2
                    go_roundw
                    case rel => exact ⟨k + 1, by omega, by go_num, by rw [HS.out]; simp, hbel, HB⟩
                    case measure => simp [intOf]; omega
                · obtain rfl : k = 32 := by omega
                  go_wp2
                  go_ret
                  exact ⟨ret_u32' (by rw [Nat.mod_eq_of_lt hy]), hbel⟩
end Go.Proofs.YtinobnmoafefeaaDoor.Crc
