/- Which codes are valid: the chapter's examples. -/
import Derived.Test.YtikfjbomogekbaaCfChk
namespace Go.Proofs.Ytikfjbomogekbaa.Cf
open Go.RowKit
attribute [local go_sem] Oper.semAt_some
set_option linter.unusedVariables false

deriving instance DecidableEq for Sh
theorem ex1 : chk ⟨1, 6, 3, 0, 0, 1, 5⟩ = some ⟨1, 3, 3, 5⟩ := by decide +kernel
theorem exc1 (w : World) : Calls Try.prog 8 #[.agg #[.int .u8 1, .int .i64 6, .int .i64 3, .int .i64 0, .int .i64 0, .int .i64 1, .int .i64 5]] w fun e w' => e = .returned (.tuple #[.agg #[.int .i64 1, .int .i64 3, .int .i64 3, .int .i64 5, .int .i64 1], .int .i64 0]) ∧ Below w.heap.size w w' := by
  have h := check_calls ⟨1, 6, 3, 0, 0, 1, 5⟩ (by unfold C.Ok; decide) w
  rw [ex1] at h
  exact h
theorem ex2 : chk ⟨2, 6, 3, 4, 0, 0, 4⟩ = some ⟨2, 6, 3, 4⟩ := by decide +kernel
theorem exc2 (w : World) : Calls Try.prog 8 #[.agg #[.int .u8 2, .int .i64 6, .int .i64 3, .int .i64 4, .int .i64 0, .int .i64 0, .int .i64 4]] w fun e w' => e = .returned (.tuple #[.agg #[.int .i64 2, .int .i64 6, .int .i64 3, .int .i64 4, .int .i64 1], .int .i64 0]) ∧ Below w.heap.size w w' := by
  have h := check_calls ⟨2, 6, 3, 4, 0, 0, 4⟩ (by unfold C.Ok; decide) w
  rw [ex2] at h
  exact h
theorem ex3 : chk ⟨3, 6, 3, 4, 0, 0, 4⟩ = some ⟨4, 9, 3, 4⟩ := by decide +kernel
theorem exc3 (w : World) : Calls Try.prog 8 #[.agg #[.int .u8 3, .int .i64 6, .int .i64 3, .int .i64 4, .int .i64 0, .int .i64 0, .int .i64 4]] w fun e w' => e = .returned (.tuple #[.agg #[.int .i64 4, .int .i64 9, .int .i64 3, .int .i64 4, .int .i64 1], .int .i64 0]) ∧ Below w.heap.size w w' := by
  have h := check_calls ⟨3, 6, 3, 4, 0, 0, 4⟩ (by unfold C.Ok; decide) w
  rw [ex3] at h
  exact h
theorem ex4 : chk ⟨4, 5, 3, 0, 0, 0, 4⟩ = some ⟨4, 9, 3, 4⟩ := by decide +kernel
theorem exc4 (w : World) : Calls Try.prog 8 #[.agg #[.int .u8 4, .int .i64 5, .int .i64 3, .int .i64 0, .int .i64 0, .int .i64 0, .int .i64 4]] w fun e w' => e = .returned (.tuple #[.agg #[.int .i64 4, .int .i64 9, .int .i64 3, .int .i64 4, .int .i64 1], .int .i64 0]) ∧ Below w.heap.size w w' := by
  have h := check_calls ⟨4, 5, 3, 0, 0, 0, 4⟩ (by unfold C.Ok; decide) w
  rw [ex4] at h
  exact h
theorem ex5 : chk ⟨5, 6, 2, 0, 2, 0, 4⟩ = some ⟨1, 2, 2, 2⟩ := by decide +kernel
theorem exc5 (w : World) : Calls Try.prog 8 #[.agg #[.int .u8 5, .int .i64 6, .int .i64 2, .int .i64 0, .int .i64 2, .int .i64 0, .int .i64 4]] w fun e w' => e = .returned (.tuple #[.agg #[.int .i64 1, .int .i64 2, .int .i64 2, .int .i64 2, .int .i64 1], .int .i64 0]) ∧ Below w.heap.size w w' := by
  have h := check_calls ⟨5, 6, 2, 0, 2, 0, 4⟩ (by unfold C.Ok; decide) w
  rw [ex5] at h
  exact h
theorem ex6 : chk ⟨1, 6, 3, 0, 0, 2, 6⟩ = none := by decide +kernel
theorem exc6 (w : World) : Calls Try.prog 8 #[.agg #[.int .u8 1, .int .i64 6, .int .i64 3, .int .i64 0, .int .i64 0, .int .i64 2, .int .i64 6]] w fun e w' => e = .returned (.tuple #[.agg #[.int .i64 0, .int .i64 0, .int .i64 0, .int .i64 0, .int .i64 0], .int .i64 130]) ∧ Below w.heap.size w w' := by
  have h := check_calls ⟨1, 6, 3, 0, 0, 2, 6⟩ (by unfold C.Ok; decide) w
  rw [ex6] at h
  exact h
theorem ex7 : chk ⟨3, 5, 3, 4, 0, 1, 5⟩ = none := by decide +kernel
theorem exc7 (w : World) : Calls Try.prog 8 #[.agg #[.int .u8 3, .int .i64 5, .int .i64 3, .int .i64 4, .int .i64 0, .int .i64 1, .int .i64 5]] w fun e w' => e = .returned (.tuple #[.agg #[.int .i64 0, .int .i64 0, .int .i64 0, .int .i64 0, .int .i64 0], .int .i64 130]) ∧ Below w.heap.size w w' := by
  have h := check_calls ⟨3, 5, 3, 4, 0, 1, 5⟩ (by unfold C.Ok; decide) w
  rw [ex7] at h
  exact h
set_option maxRecDepth 100000 in
set_option maxHeartbeats 6400000 in
theorem works_calls (w : World) : Calls Try.prog 13 #[] w fun e w' => e = .returned (.bool true) ∧ Below w.heap.size w w' := by
  have hEq := eq_shape
  have HB0 := Lib.hid (Below.refl w.heap.size w)
  have H1 := Lib.hid exc1
  have H2 := Lib.hid exc2
  have H3 := Lib.hid exc3
  have H4 := Lib.hid exc4
  have H5 := Lib.hid exc5
  have H6 := Lib.hid exc6
  have H7 := Lib.hid exc7
  go_enter Try.func13, Try.ntmps13
  go_wp2_with (first | (go_at_call 8; (with_reducible refine (H1.out _).mono ?_); rintro e w1 ⟨rfl, hb1⟩; have HB1 := Lib.hid hb1; clear hb1) | (go_at_call 8; (with_reducible refine (H2.out _).mono ?_); rintro e w2 ⟨rfl, hb2⟩; have HB2 := Lib.hid ((HB1.out.alloc HB1.out.size (.cells #[.int .i64 1, .int .i64 3, .int .i64 3, .int .i64 5, .int .i64 1] 25)).trans (hb2.mono (by rw [World.size_alloc]; have := HB1.out.size; omega))); have K1 := Lib.hid ((Block.new w1 25 #[.int .i64 1, .int .i64 3, .int .i64 3, .int .i64 5, .int .i64 1]).below hb2 (by rw [World.size_alloc]; omega)); clear hb2) | (go_at_call 8; (with_reducible refine (H3.out _).mono ?_); rintro e w3 ⟨rfl, hb3⟩; have HB3 := Lib.hid ((HB2.out.alloc HB2.out.size (.cells #[.int .i64 2, .int .i64 6, .int .i64 3, .int .i64 4, .int .i64 1] 25)).trans (hb3.mono (by rw [World.size_alloc]; have := HB2.out.size; omega))); have K2 := Lib.hid ((Block.new w2 25 #[.int .i64 2, .int .i64 6, .int .i64 3, .int .i64 4, .int .i64 1]).below hb3 (by rw [World.size_alloc]; omega)); replace K1 := Lib.hid ((K1.out.alloc (.cells #[.int .i64 2, .int .i64 6, .int .i64 3, .int .i64 4, .int .i64 1] 25)).below hb3 (by rw [World.size_alloc]; have := K1.out.lt; omega)); clear hb3) | (go_at_call 8; (with_reducible refine (H4.out _).mono ?_); rintro e w4 ⟨rfl, hb4⟩; have HB4 := Lib.hid ((HB3.out.alloc HB3.out.size (.cells #[.int .i64 4, .int .i64 9, .int .i64 3, .int .i64 4, .int .i64 1] 25)).trans (hb4.mono (by rw [World.size_alloc]; have := HB3.out.size; omega))); have K3 := Lib.hid ((Block.new w3 25 #[.int .i64 4, .int .i64 9, .int .i64 3, .int .i64 4, .int .i64 1]).below hb4 (by rw [World.size_alloc]; omega)); replace K1 := Lib.hid ((K1.out.alloc (.cells #[.int .i64 4, .int .i64 9, .int .i64 3, .int .i64 4, .int .i64 1] 25)).below hb4 (by rw [World.size_alloc]; have := K1.out.lt; omega)); replace K2 := Lib.hid ((K2.out.alloc (.cells #[.int .i64 4, .int .i64 9, .int .i64 3, .int .i64 4, .int .i64 1] 25)).below hb4 (by rw [World.size_alloc]; have := K2.out.lt; omega)); clear hb4) | (go_at_call 8; (with_reducible refine (H5.out _).mono ?_); rintro e w5 ⟨rfl, hb5⟩; have HB5 := Lib.hid ((HB4.out.alloc HB4.out.size (.cells #[.int .i64 4, .int .i64 9, .int .i64 3, .int .i64 4, .int .i64 1] 25)).trans (hb5.mono (by rw [World.size_alloc]; have := HB4.out.size; omega))); have K4 := Lib.hid ((Block.new w4 25 #[.int .i64 4, .int .i64 9, .int .i64 3, .int .i64 4, .int .i64 1]).below hb5 (by rw [World.size_alloc]; omega)); replace K1 := Lib.hid ((K1.out.alloc (.cells #[.int .i64 4, .int .i64 9, .int .i64 3, .int .i64 4, .int .i64 1] 25)).below hb5 (by rw [World.size_alloc]; have := K1.out.lt; omega)); replace K2 := Lib.hid ((K2.out.alloc (.cells #[.int .i64 4, .int .i64 9, .int .i64 3, .int .i64 4, .int .i64 1] 25)).below hb5 (by rw [World.size_alloc]; have := K2.out.lt; omega)); replace K3 := Lib.hid ((K3.out.alloc (.cells #[.int .i64 4, .int .i64 9, .int .i64 3, .int .i64 4, .int .i64 1] 25)).below hb5 (by rw [World.size_alloc]; have := K3.out.lt; omega)); clear hb5) | (go_at_call 8; (with_reducible refine (H6.out _).mono ?_); rintro e w6 ⟨rfl, hb6⟩; have HB6 := Lib.hid ((HB5.out.alloc HB5.out.size (.cells #[.int .i64 1, .int .i64 2, .int .i64 2, .int .i64 2, .int .i64 1] 25)).trans (hb6.mono (by rw [World.size_alloc]; have := HB5.out.size; omega))); have K5 := Lib.hid ((Block.new w5 25 #[.int .i64 1, .int .i64 2, .int .i64 2, .int .i64 2, .int .i64 1]).below hb6 (by rw [World.size_alloc]; omega)); replace K1 := Lib.hid ((K1.out.alloc (.cells #[.int .i64 1, .int .i64 2, .int .i64 2, .int .i64 2, .int .i64 1] 25)).below hb6 (by rw [World.size_alloc]; have := K1.out.lt; omega)); replace K2 := Lib.hid ((K2.out.alloc (.cells #[.int .i64 1, .int .i64 2, .int .i64 2, .int .i64 2, .int .i64 1] 25)).below hb6 (by rw [World.size_alloc]; have := K2.out.lt; omega)); replace K3 := Lib.hid ((K3.out.alloc (.cells #[.int .i64 1, .int .i64 2, .int .i64 2, .int .i64 2, .int .i64 1] 25)).below hb6 (by rw [World.size_alloc]; have := K3.out.lt; omega)); replace K4 := Lib.hid ((K4.out.alloc (.cells #[.int .i64 1, .int .i64 2, .int .i64 2, .int .i64 2, .int .i64 1] 25)).below hb6 (by rw [World.size_alloc]; have := K4.out.lt; omega)); clear hb6) | (go_at_call 8; (with_reducible refine (H7.out _).mono ?_); rintro e w7 ⟨rfl, hb7⟩; have HB7 := Lib.hid ((HB6.out.alloc HB6.out.size (.cells #[.int .i64 0, .int .i64 0, .int .i64 0, .int .i64 0, .int .i64 0] 25)).trans (hb7.mono (by rw [World.size_alloc]; have := HB6.out.size; omega))); replace K1 := Lib.hid ((K1.out.alloc (.cells #[.int .i64 0, .int .i64 0, .int .i64 0, .int .i64 0, .int .i64 0] 25)).below hb7 (by rw [World.size_alloc]; have := K1.out.lt; omega)); replace K2 := Lib.hid ((K2.out.alloc (.cells #[.int .i64 0, .int .i64 0, .int .i64 0, .int .i64 0, .int .i64 0] 25)).below hb7 (by rw [World.size_alloc]; have := K2.out.lt; omega)); replace K3 := Lib.hid ((K3.out.alloc (.cells #[.int .i64 0, .int .i64 0, .int .i64 0, .int .i64 0, .int .i64 0] 25)).below hb7 (by rw [World.size_alloc]; have := K3.out.lt; omega)); replace K4 := Lib.hid ((K4.out.alloc (.cells #[.int .i64 0, .int .i64 0, .int .i64 0, .int .i64 0, .int .i64 0] 25)).below hb7 (by rw [World.size_alloc]; have := K4.out.lt; omega)); replace K5 := Lib.hid ((K5.out.alloc (.cells #[.int .i64 0, .int .i64 0, .int .i64 0, .int .i64 0, .int .i64 0] 25)).below hb7 (by rw [World.size_alloc]; have := K5.out.lt; omega)); have c10 : w7.cell? ⟨w1.heap.size, 0, none⟩ = some (.int .i64 1) := K1.out.cell 0; have c11 : w7.cell? ⟨w1.heap.size, 1, none⟩ = some (.int .i64 3) := K1.out.cell 1; have c12 : w7.cell? ⟨w1.heap.size, 2, none⟩ = some (.int .i64 3) := K1.out.cell 2; have c13 : w7.cell? ⟨w1.heap.size, 3, none⟩ = some (.int .i64 5) := K1.out.cell 3; have c14 : w7.cell? ⟨w1.heap.size, 4, none⟩ = some (.int .i64 1) := K1.out.cell 4; have l1 := K1.out.lt; have c20 : w7.cell? ⟨w2.heap.size, 0, none⟩ = some (.int .i64 2) := K2.out.cell 0; have c21 : w7.cell? ⟨w2.heap.size, 1, none⟩ = some (.int .i64 6) := K2.out.cell 1; have c22 : w7.cell? ⟨w2.heap.size, 2, none⟩ = some (.int .i64 3) := K2.out.cell 2; have c23 : w7.cell? ⟨w2.heap.size, 3, none⟩ = some (.int .i64 4) := K2.out.cell 3; have c24 : w7.cell? ⟨w2.heap.size, 4, none⟩ = some (.int .i64 1) := K2.out.cell 4; have l2 := K2.out.lt; have c30 : w7.cell? ⟨w3.heap.size, 0, none⟩ = some (.int .i64 4) := K3.out.cell 0; have c31 : w7.cell? ⟨w3.heap.size, 1, none⟩ = some (.int .i64 9) := K3.out.cell 1; have c32 : w7.cell? ⟨w3.heap.size, 2, none⟩ = some (.int .i64 3) := K3.out.cell 2; have c33 : w7.cell? ⟨w3.heap.size, 3, none⟩ = some (.int .i64 4) := K3.out.cell 3; have c34 : w7.cell? ⟨w3.heap.size, 4, none⟩ = some (.int .i64 1) := K3.out.cell 4; have l3 := K3.out.lt; have c40 : w7.cell? ⟨w4.heap.size, 0, none⟩ = some (.int .i64 4) := K4.out.cell 0; have c41 : w7.cell? ⟨w4.heap.size, 1, none⟩ = some (.int .i64 9) := K4.out.cell 1; have c42 : w7.cell? ⟨w4.heap.size, 2, none⟩ = some (.int .i64 3) := K4.out.cell 2; have c43 : w7.cell? ⟨w4.heap.size, 3, none⟩ = some (.int .i64 4) := K4.out.cell 3; have c44 : w7.cell? ⟨w4.heap.size, 4, none⟩ = some (.int .i64 1) := K4.out.cell 4; have l4 := K4.out.lt; have c50 : w7.cell? ⟨w5.heap.size, 0, none⟩ = some (.int .i64 1) := K5.out.cell 0; have c51 : w7.cell? ⟨w5.heap.size, 1, none⟩ = some (.int .i64 2) := K5.out.cell 1; have c52 : w7.cell? ⟨w5.heap.size, 2, none⟩ = some (.int .i64 2) := K5.out.cell 2; have c53 : w7.cell? ⟨w5.heap.size, 3, none⟩ = some (.int .i64 2) := K5.out.cell 3; have c54 : w7.cell? ⟨w5.heap.size, 4, none⟩ = some (.int .i64 1) := K5.out.cell 4; have l5 := K5.out.lt; clear hb7))
  go_ret
  exact ⟨rfl, HB7.out.alloc HB7.out.size _⟩
/-- Alpha is a byte. -/
theorem kind_a {c : C} {s : Sh} (hi : In c) (h : kind c = some s) : s.a ≤ 255 := by
  unfold In at hi
  rcases kind_some h with ⟨-, hg, rfl⟩ | ⟨-, hg, rfl⟩ | ⟨-, hg, rfl⟩ | ⟨-, hg, rfl⟩ | ⟨-, hg, rfl⟩
  · dsimp only; omega
  · unfold GMsr at hg; dsimp only; omega
  · unfold GMbr at hg; dsimp only; omega
  · unfold GTr at hg; dsimp only; omega
  · dsimp only; omega
end Go.Proofs.Ytikfjbomogekbaa.Cf
