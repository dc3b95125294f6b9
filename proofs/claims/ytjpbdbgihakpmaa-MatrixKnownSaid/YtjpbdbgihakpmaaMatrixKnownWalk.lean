/- The walk of MatrixKnown. -/
import Derived.Test.YtjpbdbgihakpmaaMatKnownR1
import Derived.Test.YtjpbdbgihakpmaaMatKnownR2
import Derived.Test.YtjpbdbgihakpmaaMatKnownR3
import Derived.Test.YtjpbdbgihakpmaaMatKnownKit
namespace Go.Proofs.Ytjpbdbgihakpmaa.matrixKnown
open Go.RowKit F8 GF Poly Mat
theorem wp_reg {P : Program} {reg reg' : Code} {Q : Exit → Act → World → Prop} {a : Act} {w : World} (h : Code.wp P reg Q a w) (e : reg = reg') : Code.wp P reg' Q a w := e ▸ h
set_option maxRecDepth 100000 in
set_option maxHeartbeats 8000000 in
theorem walk (w : World) : Calls Try.prog 3 #[] w fun e w' => e = .returned (.bool true) ∧ Below w.heap.size w w' := by
 go_enter Try.func3, Try.ntmps3
 go_wp2
 go_loopw [1] (fun i wr => ∃ k : Nat, k ≤ 81 ∧ i = .int .i64 k ∧ Below w.heap.size w wr) (fun i _ => 81 - (intOf i).toNat)
 case atStart => exact ⟨0, Nat.zero_le _, rfl, Below.refl _ _⟩
 case round =>
  obtain ⟨k, hk, rfl, HB⟩ := hrel
  by_cases hk81 : k < 81
  ·have hkn : (0 : Int) ≤ (k : Int) := by omega
   obtain ⟨x0, hx0⟩ : ∃ x : Nat, k % 3 = x := ⟨_, rfl⟩
   have tx0 : (k : Int).tmod 3 = (x0 : Int) := by rw [Int.tmod_eq_emod_of_nonneg (by omega), ← hx0]; simp
   have ux0 : (k : Int) % 3 = (x0 : Int) := by rw [← hx0]; simp
   have bx0 : x0 ≤ 80 := by omega
   obtain ⟨d3, hd3⟩ : ∃ x : Nat, k / 3 = x := ⟨_, rfl⟩
   have td3 : (k : Int).tdiv 3 = (d3 : Int) := by rw [Int.tdiv_eq_ediv_of_nonneg (by omega), ← hd3]; simp
   have ud3 : (k : Int) / 3 = (d3 : Int) := by rw [← hd3]; simp
   have bd3 : d3 ≤ 80 := by omega
   obtain ⟨x1, hx1⟩ : ∃ x : Nat, d3 % 3 = x := ⟨_, rfl⟩
   have tx1 : (d3 : Int).tmod 3 = (x1 : Int) := by rw [Int.tmod_eq_emod_of_nonneg (by omega), ← hx1]; simp
   have ux1 : (d3 : Int) % 3 = (x1 : Int) := by rw [← hx1]; simp
   have bx1 : x1 ≤ 80 := by omega
   obtain ⟨d9, hd9⟩ : ∃ x : Nat, k / 9 = x := ⟨_, rfl⟩
   have td9 : (k : Int).tdiv 9 = (d9 : Int) := by rw [Int.tdiv_eq_ediv_of_nonneg (by omega), ← hd9]; simp
   have ud9 : (k : Int) / 9 = (d9 : Int) := by rw [← hd9]; simp
   have bd9 : d9 ≤ 80 := by omega
   obtain ⟨x2, hx2⟩ : ∃ x : Nat, d9 % 3 = x := ⟨_, rfl⟩
   have tx2 : (d9 : Int).tmod 3 = (x2 : Int) := by rw [Int.tmod_eq_emod_of_nonneg (by omega), ← hx2]; simp
   have ux2 : (d9 : Int) % 3 = (x2 : Int) := by rw [← hx2]; simp
   have bx2 : x2 ≤ 80 := by omega
   obtain ⟨x3, hx3⟩ : ∃ x : Nat, k / 27 = x := ⟨_, rfl⟩
   have tx3 : (k : Int).tdiv 27 = (x3 : Int) := by rw [Int.tdiv_eq_ediv_of_nonneg (by omega), ← hx3]; simp
   have ux3 : (k : Int) / 27 = (x3 : Int) := by rw [← hx3]; simp
   have bx3 : x3 ≤ 80 := by omega
   obtain ⟨y0, hy0⟩ : ∃ x : Nat, k % 5 = x := ⟨_, rfl⟩
   have ty0 : (k : Int).tmod 5 = (y0 : Int) := by rw [Int.tmod_eq_emod_of_nonneg (by omega), ← hy0]; simp
   have uy0 : (k : Int) % 5 = (y0 : Int) := by rw [← hy0]; simp
   have by0 : y0 ≤ 80 := by omega
   obtain ⟨q4, hq4⟩ : ∃ x : Nat, k % 4 = x := ⟨_, rfl⟩
   have tq4 : (k : Int).tmod 4 = (q4 : Int) := by rw [Int.tmod_eq_emod_of_nonneg (by omega), ← hq4]; simp
   have uq4 : (k : Int) % 4 = (q4 : Int) := by rw [← hq4]; simp
   have bq4 : q4 ≤ 80 := by omega
   have hq43 : q4 ≤ 3 := by omega
   clear hx0 hd3 hx1 hd9 hx2 hx3 hy0 hq4
   obtain ⟨b0, hb0⟩ : ∃ b, wr.heap.size = b := ⟨_, rfl⟩
   obtain ⟨a0, ha0⟩ : ∃ a, wr.alloc (.cells #[.int .u8 x0, .int .u8 x1, .int .u8 x2, .int .u8 x3] 5) = a := ⟨_, rfl⟩
   have hs0 : a0.heap.size = b0 + 1 := by rw [← ha0]; simp [hb0]
   have hk0 := Block.new wr 5 #[.int .u8 x0, .int .u8 x1, .int .u8 x2, .int .u8 x3]
   rw [ha0, hb0] at hk0
   have HB0 : Below w.heap.size w a0 := by rw [← ha0]; exact HB.alloc HB.size _
   obtain ⟨a1, ha1⟩ : ∃ a, a0.alloc (.cells #[.int .i64 2, .int .i64 2, .slice (some ⟨b0, 0, none⟩) 4 4] 24) = a := ⟨_, rfl⟩
   have hs1 : a1.heap.size = b0 + 1 + 1 := by rw [← ha1]; simp [hs0]
   replace hk0 := hk0.alloc (.cells #[.int .i64 2, .int .i64 2, .slice (some ⟨b0, 0, none⟩) 4 4] 24)
   rw [ha1] at hk0
   have hk1 := Block.new a0 24 #[.int .i64 2, .int .i64 2, .slice (some ⟨b0, 0, none⟩) 4 4]
   rw [ha1, hs0] at hk1
   have HB1 : Below w.heap.size w a1 := by rw [← ha1]; exact HB0.alloc HB0.size _
   obtain ⟨a2, ha2⟩ : ∃ a, a1.alloc (.cells #[.int .u8 y0, .int .u8 1] 5) = a := ⟨_, rfl⟩
   have hs2 : a2.heap.size = b0 + 1 + 1 + 1 := by rw [← ha2]; simp [hs1]
   replace hk0 := hk0.alloc (.cells #[.int .u8 y0, .int .u8 1] 5)
   replace hk1 := hk1.alloc (.cells #[.int .u8 y0, .int .u8 1] 5)
   rw [ha2] at hk0 hk1
   have hk2 := Block.new a1 5 #[.int .u8 y0, .int .u8 1]
   rw [ha2, hs1] at hk2
   have HB2 : Below w.heap.size w a2 := by rw [← ha2]; exact HB1.alloc HB1.size _
   obtain ⟨a3, ha3⟩ : ∃ a, a2.alloc (.cells #[.int .i64 2, .int .i64 1, .slice (some ⟨b0 + 1 + 1, 0, none⟩) 2 2] 24) = a := ⟨_, rfl⟩
   have hs3 : a3.heap.size = b0 + 1 + 1 + 1 + 1 := by rw [← ha3]; simp [hs2]
   replace hk0 := hk0.alloc (.cells #[.int .i64 2, .int .i64 1, .slice (some ⟨b0 + 1 + 1, 0, none⟩) 2 2] 24)
   replace hk1 := hk1.alloc (.cells #[.int .i64 2, .int .i64 1, .slice (some ⟨b0 + 1 + 1, 0, none⟩) 2 2] 24)
   replace hk2 := hk2.alloc (.cells #[.int .i64 2, .int .i64 1, .slice (some ⟨b0 + 1 + 1, 0, none⟩) 2 2] 24)
   rw [ha3] at hk0 hk1 hk2
   have hk3 := Block.new a2 24 #[.int .i64 2, .int .i64 1, .slice (some ⟨b0 + 1 + 1, 0, none⟩) 2 2]
   rw [ha3, hs2] at hk3
   have HB3 : Below w.heap.size w a3 := by rw [← ha3]; exact HB2.alloc HB2.size _
   obtain ⟨a4, ha4⟩ : ∃ a, a3.alloc (.cells #[.int .u8 3, .int .u8 k] 5) = a := ⟨_, rfl⟩
   have hs4 : a4.heap.size = b0 + 1 + 1 + 1 + 1 + 1 := by rw [← ha4]; simp [hs3]
   replace hk0 := hk0.alloc (.cells #[.int .u8 3, .int .u8 k] 5)
   replace hk1 := hk1.alloc (.cells #[.int .u8 3, .int .u8 k] 5)
   replace hk2 := hk2.alloc (.cells #[.int .u8 3, .int .u8 k] 5)
   replace hk3 := hk3.alloc (.cells #[.int .u8 3, .int .u8 k] 5)
   rw [ha4] at hk0 hk1 hk2 hk3
   have hk4 := Block.new a3 5 #[.int .u8 3, .int .u8 k]
   rw [ha4, hs3] at hk4
   have HB4 : Below w.heap.size w a4 := by rw [← ha4]; exact HB3.alloc HB3.size _
   obtain ⟨a5, ha5⟩ : ∃ a, a4.alloc (.cells #[.int .i64 1, .int .i64 2, .slice (some ⟨b0 + 1 + 1 + 1 + 1, 0, none⟩) 2 2] 24) = a := ⟨_, rfl⟩
   have hs5 : a5.heap.size = b0 + 1 + 1 + 1 + 1 + 1 + 1 := by rw [← ha5]; simp [hs4]
   replace hk0 := hk0.alloc (.cells #[.int .i64 1, .int .i64 2, .slice (some ⟨b0 + 1 + 1 + 1 + 1, 0, none⟩) 2 2] 24)
   replace hk1 := hk1.alloc (.cells #[.int .i64 1, .int .i64 2, .slice (some ⟨b0 + 1 + 1 + 1 + 1, 0, none⟩) 2 2] 24)
   replace hk2 := hk2.alloc (.cells #[.int .i64 1, .int .i64 2, .slice (some ⟨b0 + 1 + 1 + 1 + 1, 0, none⟩) 2 2] 24)
   replace hk3 := hk3.alloc (.cells #[.int .i64 1, .int .i64 2, .slice (some ⟨b0 + 1 + 1 + 1 + 1, 0, none⟩) 2 2] 24)
   replace hk4 := hk4.alloc (.cells #[.int .i64 1, .int .i64 2, .slice (some ⟨b0 + 1 + 1 + 1 + 1, 0, none⟩) 2 2] 24)
   rw [ha5] at hk0 hk1 hk2 hk3 hk4
   have hk5 := Block.new a4 24 #[.int .i64 1, .int .i64 2, .slice (some ⟨b0 + 1 + 1 + 1 + 1, 0, none⟩) 2 2]
   rw [ha5, hs4] at hk5
   have HB5 : Below w.heap.size w a5 := by rw [← ha5]; exact HB4.alloc HB4.size _
   obtain ⟨qa0, qa1, qa2⟩ := cells3 hk1
   obtain ⟨qb0, qb1, qb2⟩ := cells3 hk3
   obtain ⟨qc0, qc1, qc2⟩ := cells3 hk5
   have hYa : ∀ V, Below a5.heap.size a5 V → Bytes V (some ⟨b0, 0, none⟩) [x0, x1, x2, x3] := fun V hV => bytes_blk (hk0.below hV hk0.lt) (by intro z hz; simp at hz; omega) rfl
   have hYb : ∀ V, Below a5.heap.size a5 V → Bytes V (some ⟨b0 + 1 + 1, 0, none⟩) [y0, 1] := fun V hV => bytes_blk (hk2.below hV hk2.lt) (by intro z hz; simp at hz; omega) rfl
   have hYc : ∀ V, Below a5.heap.size a5 V → Bytes V (some ⟨b0 + 1 + 1 + 1 + 1, 0, none⟩) [3, k] := fun V hV => bytes_blk (hk4.below hV hk4.lt) (by intro z hz; simp at hz; omega) rfl
   have HKOnea : Hid (∀ V, Below a5.heap.size a5 V → Calls Try.prog 12 #[.agg #[.int .i64 2, .int .i64 2, .slice (some ⟨b0, 0, none⟩) 4 4]] V (Ok V)) := Lib.hid (fun V hV => matrixOne.walk V 2 2 (some ⟨b0, 0, none⟩) [x0, x1, x2, x3] 4 ⟨by decide, by decide⟩ ⟨by decide, by decide⟩ (hYa V hV) (by simp) (by decide))
   have HKTwoab : Hid (∀ V, Below a5.heap.size a5 V → Calls Try.prog 13 #[.agg #[.int .i64 2, .int .i64 2, .slice (some ⟨b0, 0, none⟩) 4 4], .agg #[.int .i64 2, .int .i64 1, .slice (some ⟨b0 + 1 + 1, 0, none⟩) 2 2]] V (Ok V)) := Lib.hid (fun V hV => matrixTwo.walk V 2 2 (some ⟨b0, 0, none⟩) [x0, x1, x2, x3] 4 ⟨by decide, by decide⟩ ⟨by decide, by decide⟩ (hYa V hV) (by simp) (by decide) 2 1 (some ⟨b0 + 1 + 1, 0, none⟩) [y0, 1] 2 ⟨by decide, by decide⟩ ⟨by decide, by decide⟩ (hYb V hV) (by simp) (by decide))
   have HKTwobc : Hid (∀ V, Below a5.heap.size a5 V → Calls Try.prog 13 #[.agg #[.int .i64 2, .int .i64 1, .slice (some ⟨b0 + 1 + 1, 0, none⟩) 2 2], .agg #[.int .i64 1, .int .i64 2, .slice (some ⟨b0 + 1 + 1 + 1 + 1, 0, none⟩) 2 2]] V (Ok V)) := Lib.hid (fun V hV => matrixTwo.walk V 2 1 (some ⟨b0 + 1 + 1, 0, none⟩) [y0, 1] 2 ⟨by decide, by decide⟩ ⟨by decide, by decide⟩ (hYb V hV) (by simp) (by decide) 1 2 (some ⟨b0 + 1 + 1 + 1 + 1, 0, none⟩) [3, k] 2 ⟨by decide, by decide⟩ ⟨by decide, by decide⟩ (hYc V hV) (by simp) (by decide))
   have HKTwoca : Hid (∀ V, Below a5.heap.size a5 V → Calls Try.prog 13 #[.agg #[.int .i64 1, .int .i64 2, .slice (some ⟨b0 + 1 + 1 + 1 + 1, 0, none⟩) 2 2], .agg #[.int .i64 2, .int .i64 2, .slice (some ⟨b0, 0, none⟩) 4 4]] V (Ok V)) := Lib.hid (fun V hV => matrixTwo.walk V 1 2 (some ⟨b0 + 1 + 1 + 1 + 1, 0, none⟩) [3, k] 2 ⟨by decide, by decide⟩ ⟨by decide, by decide⟩ (hYc V hV) (by simp) (by decide) 2 2 (some ⟨b0, 0, none⟩) [x0, x1, x2, x3] 4 ⟨by decide, by decide⟩ ⟨by decide, by decide⟩ (hYa V hV) (by simp) (by decide))
   have HKProductscab : Hid (∀ V, Below a5.heap.size a5 V → Calls Try.prog 14 #[.agg #[.int .i64 1, .int .i64 2, .slice (some ⟨b0 + 1 + 1 + 1 + 1, 0, none⟩) 2 2], .agg #[.int .i64 2, .int .i64 2, .slice (some ⟨b0, 0, none⟩) 4 4], .agg #[.int .i64 2, .int .i64 1, .slice (some ⟨b0 + 1 + 1, 0, none⟩) 2 2]] V (Ok V)) := Lib.hid (fun V hV => matrixProducts.walk V 1 2 (some ⟨b0 + 1 + 1 + 1 + 1, 0, none⟩) [3, k] 2 ⟨by decide, by decide⟩ ⟨by decide, by decide⟩ (hYc V hV) (by simp) (by decide) 2 2 (some ⟨b0, 0, none⟩) [x0, x1, x2, x3] 4 ⟨by decide, by decide⟩ ⟨by decide, by decide⟩ (hYa V hV) (by simp) (by decide) 2 1 (some ⟨b0 + 1 + 1, 0, none⟩) [y0, 1] 2 ⟨by decide, by decide⟩ ⟨by decide, by decide⟩ (hYb V hV) (by simp) (by decide))
   have HKProductsaab : Hid (∀ V, Below a5.heap.size a5 V → Calls Try.prog 14 #[.agg #[.int .i64 2, .int .i64 2, .slice (some ⟨b0, 0, none⟩) 4 4], .agg #[.int .i64 2, .int .i64 2, .slice (some ⟨b0, 0, none⟩) 4 4], .agg #[.int .i64 2, .int .i64 1, .slice (some ⟨b0 + 1 + 1, 0, none⟩) 2 2]] V (Ok V)) := Lib.hid (fun V hV => matrixProducts.walk V 2 2 (some ⟨b0, 0, none⟩) [x0, x1, x2, x3] 4 ⟨by decide, by decide⟩ ⟨by decide, by decide⟩ (hYa V hV) (by simp) (by decide) 2 2 (some ⟨b0, 0, none⟩) [x0, x1, x2, x3] 4 ⟨by decide, by decide⟩ ⟨by decide, by decide⟩ (hYa V hV) (by simp) (by decide) 2 1 (some ⟨b0 + 1 + 1, 0, none⟩) [y0, 1] 2 ⟨by decide, by decide⟩ ⟨by decide, by decide⟩ (hYb V hV) (by simp) (by decide))
   have HKSolvesaba : Hid (∀ V, Below a5.heap.size a5 V → Calls Try.prog 15 #[.agg #[.int .i64 2, .int .i64 2, .slice (some ⟨b0, 0, none⟩) 4 4], .agg #[.int .i64 2, .int .i64 1, .slice (some ⟨b0 + 1 + 1, 0, none⟩) 2 2], .agg #[.int .i64 2, .int .i64 2, .slice (some ⟨b0, 0, none⟩) 4 4]] V (Ok V)) := Lib.hid (fun V hV => matrixSolves.walk V 2 2 (some ⟨b0, 0, none⟩) [x0, x1, x2, x3] 4 ⟨by decide, by decide⟩ ⟨by decide, by decide⟩ (hYa V hV) (by simp) (by decide) 2 1 (some ⟨b0 + 1 + 1, 0, none⟩) [y0, 1] 2 ⟨by decide, by decide⟩ ⟨by decide, by decide⟩ (hYb V hV) (by simp) (by decide) 2 2 (some ⟨b0, 0, none⟩) [x0, x1, x2, x3] 4 ⟨by decide, by decide⟩ ⟨by decide, by decide⟩ (hYa V hV) (by simp) (by decide))
   have HKSolvesbcb : Hid (∀ V, Below a5.heap.size a5 V → Calls Try.prog 15 #[.agg #[.int .i64 2, .int .i64 1, .slice (some ⟨b0 + 1 + 1, 0, none⟩) 2 2], .agg #[.int .i64 1, .int .i64 2, .slice (some ⟨b0 + 1 + 1 + 1 + 1, 0, none⟩) 2 2], .agg #[.int .i64 2, .int .i64 1, .slice (some ⟨b0 + 1 + 1, 0, none⟩) 2 2]] V (Ok V)) := Lib.hid (fun V hV => matrixSolves.walk V 2 1 (some ⟨b0 + 1 + 1, 0, none⟩) [y0, 1] 2 ⟨by decide, by decide⟩ ⟨by decide, by decide⟩ (hYb V hV) (by simp) (by decide) 1 2 (some ⟨b0 + 1 + 1 + 1 + 1, 0, none⟩) [3, k] 2 ⟨by decide, by decide⟩ ⟨by decide, by decide⟩ (hYc V hV) (by simp) (by decide) 2 1 (some ⟨b0 + 1 + 1, 0, none⟩) [y0, 1] 2 ⟨by decide, by decide⟩ ⟨by decide, by decide⟩ (hYb V hV) (by simp) (by decide))
   have HKSolvescbc : Hid (∀ V, Below a5.heap.size a5 V → Calls Try.prog 15 #[.agg #[.int .i64 1, .int .i64 2, .slice (some ⟨b0 + 1 + 1 + 1 + 1, 0, none⟩) 2 2], .agg #[.int .i64 2, .int .i64 1, .slice (some ⟨b0 + 1 + 1, 0, none⟩) 2 2], .agg #[.int .i64 1, .int .i64 2, .slice (some ⟨b0 + 1 + 1 + 1 + 1, 0, none⟩) 2 2]] V (Ok V)) := Lib.hid (fun V hV => matrixSolves.walk V 1 2 (some ⟨b0 + 1 + 1 + 1 + 1, 0, none⟩) [3, k] 2 ⟨by decide, by decide⟩ ⟨by decide, by decide⟩ (hYc V hV) (by simp) (by decide) 2 1 (some ⟨b0 + 1 + 1, 0, none⟩) [y0, 1] 2 ⟨by decide, by decide⟩ ⟨by decide, by decide⟩ (hYb V hV) (by simp) (by decide) 1 2 (some ⟨b0 + 1 + 1 + 1 + 1, 0, none⟩) [3, k] 2 ⟨by decide, by decide⟩ ⟨by decide, by decide⟩ (hYc V hV) (by simp) (by decide))
   have KPacks : ∀ V, Below a5.heap.size a5 V → Calls Try.prog 16 #[.slice (some ⟨b0, 0, none⟩) q4 4, .agg #[.int .i64 2, .int .i64 2, .slice (some ⟨b0, 0, none⟩) 4 4]] V (Ok V) := fun V hV => by
    have h := matrixPacks.walk V (some ⟨b0, 0, none⟩) ([x0, x1, x2, x3].take q4) 4 (bytes_take (hYa V hV) q4) (by simp; omega) (by decide) 2 2 (some ⟨b0, 0, none⟩) [x0, x1, x2, x3] 4 ⟨by decide, by decide⟩ ⟨by decide, by decide⟩ (hYa V hV) (by simp) (by decide)
    rw [show ([x0, x1, x2, x3].take q4).length = q4 by simp; omega] at h
    exact h
   have HKPacks := Lib.hid KPacks
   clear KPacks
   have HL : Below a5.heap.size a5 a5 := Below.refl _ _
   clear hYa hYb hYc hk0 hk2 hk4 HB0 HB1 HB2 HB3 HB4
   go_wp2_with fail
   clear ha0 ha1 ha2 ha3 ha4 ha5 qa0 qa1 qa2 qb0 qb1 qb2 qc0 qc1 qc2 HL
   simp only [List.append_eq, List.cons_append, List.nil_append]
   have HL : Below a5.heap.size a5 a5.drew := (Below.refl _ _).drew
   have hqw : IntKind.u8.wrap (q4 : Int) = (q4 : Int) := IntWalk.u8_in _ (by omega)
   obtain ⟨qa0, qa1, qa2⟩ := cells3 (hk1.below HL hk1.lt)
   obtain ⟨qb0, qb1, qb2⟩ := cells3 (hk3.below HL hk3.lt)
   obtain ⟨qc0, qc1, qc2⟩ := cells3 (hk5.below HL hk5.lt)
   go_region_held (fun wz => wz.cell? ⟨b0 + 1, 0, none⟩ = some (.int .i64 2) ∧ wz.cell? ⟨b0 + 1, 1, none⟩ = some (.int .i64 2) ∧ wz.cell? ⟨b0 + 1, 2, none⟩ = some (.slice (some ⟨b0, 0, none⟩) 4 4) ∧ wz.cell? ⟨b0 + 1 + 1 + 1, 0, none⟩ = some (.int .i64 2) ∧ wz.cell? ⟨b0 + 1 + 1 + 1, 1, none⟩ = some (.int .i64 1) ∧ wz.cell? ⟨b0 + 1 + 1 + 1, 2, none⟩ = some (.slice (some ⟨b0 + 1 + 1, 0, none⟩) 2 2) ∧ wz.cell? ⟨b0 + 1 + 1 + 1 + 1 + 1, 0, none⟩ = some (.int .i64 1) ∧ wz.cell? ⟨b0 + 1 + 1 + 1 + 1 + 1, 1, none⟩ = some (.int .i64 2) ∧ wz.cell? ⟨b0 + 1 + 1 + 1 + 1 + 1, 2, none⟩ = some (.slice (some ⟨b0 + 1 + 1 + 1 + 1, 0, none⟩) 2 2)) (first | exact ⟨qa0, qa1, qa2, qb0, qb1, qb2, qc0, qc1, qc2⟩ | exact ⟨cal qa0, cal qa1, cal qa2, cal qb0, cal qb1, cal qb2, cal qc0, cal qc1, cal qc2⟩)
    (((first | (go_at_call 12; (first | (with_reducible refine (HKOnea.out _ HL).mono ?_))) | (go_at_call 13; (first | (with_reducible refine (HKTwoab.out _ HL).mono ?_) | (with_reducible refine (HKTwobc.out _ HL).mono ?_) | (with_reducible refine (HKTwoca.out _ HL).mono ?_))) | (go_at_call 14; (first | (with_reducible refine (HKProductscab.out _ HL).mono ?_) | (with_reducible refine (HKProductsaab.out _ HL).mono ?_))) | (go_at_call 15; (first | (with_reducible refine (HKSolvesaba.out _ HL).mono ?_) | (with_reducible refine (HKSolvesbcb.out _ HL).mono ?_) | (with_reducible refine (HKSolvescbc.out _ HL).mono ?_))) | (go_at_call 16; (first | (with_reducible refine (HKPacks.out _ HL).mono ?_))) | (go_at_call 17; (with_reducible refine (powK _ q4 hq43).mono ?_))); rintro e V ⟨rfl, HN⟩; have HL' := HL.trans (HN.mono HL.size); clear HL HN qa0 qa1 qa2 qb0 qb1 qb2 qc0 qc1 qc2; have HL := HL'; clear HL'; obtain ⟨qa0, qa1, qa2⟩ := cells3 (hk1.below HL hk1.lt); obtain ⟨qb0, qb1, qb2⟩ := cells3 (hk3.below HL hk3.lt); obtain ⟨qc0, qc1, qc2⟩ := cells3 (hk5.below HL hk5.lt)))
   go_wp2
   go_roundw
   case rel => exact ⟨k + 1, by omega, by go_num, HB5.trans (HL.mono HB5.size)⟩
   case measure => simp [intOf]; omega
  ·obtain rfl : k = 81 := by omega
   simp only [Int.cast_ofNat_Int]
   clear hk hk81
   obtain ⟨b0, hb0⟩ : ∃ b, wr.heap.size = b := ⟨_, rfl⟩
   obtain ⟨v0, hv0⟩ : ∃ a, wr.alloc (.cells #[.int .i64 (-1), .int .i64 0, .int .i64 1, .int .i64 2, .int .i64 65536, .int .i64 65537, .int .i64 4611686018427387904] 3) = a := ⟨_, rfl⟩
   have hl7 := Block.new wr 3 #[.int .i64 (-1), .int .i64 0, .int .i64 1, .int .i64 2, .int .i64 65536, .int .i64 65537, .int .i64 4611686018427387904]
   rw [hv0, hb0] at hl7
   have HB0 : Below w.heap.size w v0 := by rw [← hv0]; exact HB.alloc HB.size _
   go_wp2_with fail
   clear hv0 hb0 HB
   go_loopw [115] (fun i wr => ∃ j : Nat, j ≤ 7 ∧ i = .int .i64 j ∧ Below v0.heap.size v0 wr) (fun i _ => 7 - (intOf i).toNat)
   case atStart => exact ⟨0, Nat.zero_le _, rfl, Below.refl _ _⟩
   case round =>
    obtain ⟨j, hj, rfl, HV⟩ := hrel
    by_cases hj7 : j < 7
    ·obtain ⟨n, hcn, hn1, hn2⟩ := lit7 (hl7.below HV hl7.lt) j hj7
     have hjn : (0 : Int) ≤ (j : Int) := by omega
     have HB1 : Below w.heap.size w wr := HB0.trans (HV.mono HB0.size)
     obtain ⟨b1, hb1⟩ : ∃ b, wr.heap.size = b := ⟨_, rfl⟩
     obtain ⟨v1, hv1⟩ : ∃ a, wr.alloc (.cells #[.int .i64 (-1), .int .i64 0, .int .i64 1, .int .i64 2, .int .i64 4611686018427387904] 3) = a := ⟨_, rfl⟩
     have hl5 := Block.new wr 3 #[.int .i64 (-1), .int .i64 0, .int .i64 1, .int .i64 2, .int .i64 4611686018427387904]
     rw [hv1, hb1] at hl5
     have HB2 : Below w.heap.size w v1 := by rw [← hv1]; exact HB1.alloc HB1.size _
     have hm1 : Below v0.heap.size v0 v1 := by rw [← hv1]; exact HV.alloc HV.size _
     clear HB1
     have hdj : decide ((j : Int) < 7) = true := by simp; omega
     go_wp2_with fail
     clear hv1 hb1 hcn
     go_loopw [121] (fun i wr => ∃ l : Nat, l ≤ 5 ∧ i = .int .i64 l ∧ Below v1.heap.size v1 wr) (fun i _ => 5 - (intOf i).toNat)
     case atStart => exact ⟨0, Nat.zero_le _, rfl, Below.refl _ _⟩
     case round =>
      obtain ⟨l, hl, rfl, HV1⟩ := hrel
      by_cases hl5n : l < 5
      ·obtain ⟨c, hcc, hc1, hc2⟩ := lit5 (hl5.below HV1 hl5.lt) l hl5n
       have hln : (0 : Int) ≤ (l : Int) := by omega
       have HB3 : Below w.heap.size w wr := HB2.trans (HV1.mono HB2.size)
       obtain ⟨b2, hb2⟩ : ∃ b, wr.heap.size = b := ⟨_, rfl⟩
       have hm := Block.new wr 24 #[.int .i64 n, .int .i64 c, .slice none 0 0]
       rw [hb2] at hm
       have HB4 : Below w.heap.size w (wr.alloc (.cells #[.int .i64 n, .int .i64 c, .slice none 0 0] 24)) := HB3.alloc HB3.size _
       clear HB3
       have HV2 : Below v1.heap.size v1 (wr.alloc (.cells #[.int .i64 n, .int .i64 c, .slice none 0 0] 24)) := HV1.alloc HV1.size _
       go_wp2_with fail
       clear hb2 hcc
       generalize wr.alloc (.cells #[.int .i64 n, .int .i64 c, .slice none 0 0] 24) = v2 at *
       clear HV1 hl5 hl7 HV HB2 HB0 hm1 HB4 wr
       obtain ⟨rb, hrb⟩ : ∃ x, RightB n c 0 = x := ⟨_, rfl⟩
       rcases (by omega : (n < 9 ∧ c < 9) ∨ (n < 9 ∧ ¬ c < 9) ∨ ¬ n < 9) with ⟨h9, h9c⟩ | ⟨h9, h9c⟩ | h9
       ·refine wp_reg (region1 _ _ _ _ _ _ _ _ _ _ _ _ _ _ _ _ _ _ _ _ _ _ _ _ _ _ _ _ _ _ _ _ _ _ _ _ _ _ _ _ _ _ _ _ _ _ _ _ _ _ _ _ _ _ _ _ _ _ _ _ _ _ _ _ _ _ _ _ _ _ _ _ _ _ _ _ _ _ _ _ _ _ _ _ _ _ _ _ _ _ _ _ _ _ _ _ _ _ _ _ _ _ _ _ _ _ _ _ _ _ _ _ _ _ _ _ _ _ _ _ _ _ _ _ _ _ _ _ _ _ _ _ _ _ _ _ _ _ _ _ _ _ _ _ _ _ _ _ _ _ _ _ _ _ _ _ _ _ _ _ _ _ _ _ _ _ _ _ _ _ _ _ _ _ _ _ _ _ _ _ _ _ _ _ n c b2 v2 rb hn1 hn2 hc1 hc2 hrb hm h9 h9c _ ?_ ?_) (by kernel_rfl)
        ·exact fun _ _ _ _ _ h => h
        intro x153 x154 x156 x157 V HL
        clear hm hrb
        go_wp2
        go_roundw
        case rel => exact ⟨l + 1, by omega, by go_num, HV2.trans (HL.mono HV2.size)⟩
        case measure => simp [intOf]; omega
       ·refine wp_reg (region2 _ _ _ _ _ _ _ _ _ _ _ _ _ _ _ _ _ _ _ _ _ _ _ _ _ _ _ _ _ _ _ _ _ _ _ _ _ _ _ _ _ _ _ _ _ _ _ _ _ _ _ _ _ _ _ _ _ _ _ _ _ _ _ _ _ _ _ _ _ _ _ _ _ _ _ _ _ _ _ _ _ _ _ _ _ _ _ _ _ _ _ _ _ _ _ _ _ _ _ _ _ _ _ _ _ _ _ _ _ _ _ _ _ _ _ _ _ _ _ _ _ _ _ _ _ _ _ _ _ _ _ _ _ _ _ _ _ _ _ _ _ _ _ _ _ _ _ _ _ _ _ _ _ _ _ _ _ _ _ _ _ _ _ _ _ _ _ _ _ _ _ _ _ _ _ _ _ _ _ _ _ _ _ _ n c b2 v2 rb hn1 hn2 hc1 hc2 hrb hm h9 h9c _ ?_ ?_) (by kernel_rfl)
        ·exact fun _ _ _ _ _ h => h
        intro x153 x154 x156 x157 V HL
        clear hm hrb
        go_wp2
        go_roundw
        case rel => exact ⟨l + 1, by omega, by go_num, HV2.trans (HL.mono HV2.size)⟩
        case measure => simp [intOf]; omega
       ·refine wp_reg (region3 _ _ _ _ _ _ _ _ _ _ _ _ _ _ _ _ _ _ _ _ _ _ _ _ _ _ _ _ _ _ _ _ _ _ _ _ _ _ _ _ _ _ _ _ _ _ _ _ _ _ _ _ _ _ _ _ _ _ _ _ _ _ _ _ _ _ _ _ _ _ _ _ _ _ _ _ _ _ _ _ _ _ _ _ _ _ _ _ _ _ _ _ _ _ _ _ _ _ _ _ _ _ _ _ _ _ _ _ _ _ _ _ _ _ _ _ _ _ _ _ _ _ _ _ _ _ _ _ _ _ _ _ _ _ _ _ _ _ _ _ _ _ _ _ _ _ _ _ _ _ _ _ _ _ _ _ _ _ _ _ _ _ _ _ _ _ _ _ _ _ _ _ _ _ _ _ _ _ _ _ _ _ _ _ n c b2 v2 rb hn1 hn2 hc1 hc2 hrb hm h9 _ ?_ ?_) (by kernel_rfl)
        ·exact fun _ _ _ _ _ h => h
        intro x153 x154 x156 x157 V HL
        clear hm hrb
        go_wp2
        go_roundw
        case rel => exact ⟨l + 1, by omega, by go_num, HV2.trans (HL.mono HV2.size)⟩
        case measure => simp [intOf]; omega
      ·obtain rfl : l = 5 := by omega
       simp only [Int.cast_ofNat_Int]
       clear hl hl5n
       go_wp2
       go_roundw
       case rel => exact ⟨j + 1, by omega, by go_num, hm1.trans (HV1.mono hm1.size)⟩
       case measure => simp [intOf]; omega
    ·obtain rfl : j = 7 := by omega
     simp only [Int.cast_ofNat_Int]
     clear hj hj7
     have HB := HB0.trans (HV.mono HB0.size)
     clear hl7 HB0 HV
     go_wp2_with (first | (go_at_call 18; (with_reducible refine (makesF ?hx ?hy ?hz).mono ?_); (case hx | hy | hz => (first | with_reducible exact blkA _ _ _ _ _ | with_reducible exact blkB _ _ _ _ _ | with_reducible exact blkC _ _ _ _ _ | exact blkA _ _ _ _ _ | exact blkB _ _ _ _ _ | exact blkC _ _ _ _ _)); rintro e V ⟨rfl, HN⟩; have HB' := tr3 HB HN; clear HB HN; have HB := HB'; clear HB') | (go_at_call 18; (with_reducible refine (makes0 _).mono ?_); rintro e V ⟨rfl, HN⟩; have HB' := HB.trans (HN.mono HB.size); clear HB HN; have HB := HB'; clear HB') | (go_at_call 22; (with_reducible refine (bounds_calls _).mono ?_); rintro e V ⟨rfl, HN⟩; have HB' := HB.trans (HN.mono HB.size); clear HB HN; have HB := HB'; clear HB') | (go_at_call 23; (with_reducible refine (works_calls _).mono ?_); rintro e V ⟨rfl, HN⟩; have HB' := HB.trans (HN.mono HB.size); clear HB HN; have HB := HB'; clear HB'))
     go_ret
     exact ⟨rfl, HB⟩
end Go.Proofs.Ytjpbdbgihakpmaa.matrixKnown
