/- Which codes are valid: Check. -/
import Derived.Test.YtikfjbomogekbaaCfCode9
import Derived.Laws.StructEq
namespace Go.Proofs.Ytikfjbomogekbaa.Cf
open Go.RowKit
attribute [local go_sem] Oper.semAt_some
set_option linter.unusedVariables false

/-- Two shapes held against each other. -/
theorem eq_shape (a b c d e a' b' c' d' e' : Int) (w : World) : (Op.equalIn 10000 25 (.agg #[.int .i64 a, .int .i64 b, .int .i64 c, .int .i64 d, .int .i64 e]) (.agg #[.int .i64 a', .int .i64 b', .int .i64 c', .int .i64 d', .int .i64 e'])).run Try.prog w = .ok (a == a' && b == b' && c == c' && d == d' && e == e') w := by
  have u3 := Try.underlying3
  have a3 := Try.isAgg3
  have z3 := Try.sizeOf3
  have hS : Try.prog.underlying 25 = some (.struct (Try.prog.fieldsOf 25)) := by kernel_rfl
  have hp : Try.prog.stoodInHeld 25 = false := by kernel_rfl
  rw [show (10000 : Nat) = 9999 + 1 from rfl, run_equalIn_agg w 9999 25 _ _ hS hp]
  simp only [Program.fieldsOf, Try.underlying25]
  go_simp
  by_cases h1 : a = a' <;> by_cases h2 : b = b' <;> by_cases h3 : c = c' <;> by_cases h4 : d = d' <;> by_cases h5 : e = e' <;> simp [h1, h2, h3, h4, h5]
/-- How large a kind's numbers may be. -/
theorem kind_bd {c : C} {s : Sh} (hi : In c) (h : kind c = some s) : 1 ≤ s.a ∧ 0 ≤ s.s ∧ s.s ≤ 1000 ∧ 0 ≤ s.o ∧ s.o ≤ 2000 := by
  unfold In at hi
  rcases kind_some h with ⟨-, hg, rfl⟩ | ⟨-, hg, rfl⟩ | ⟨-, hg, rfl⟩ | ⟨-, hg, rfl⟩ | ⟨-, hg, rfl⟩
  · unfold GReed at hg; dsimp only; omega
  · unfold GMsr at hg; dsimp only; omega
  · unfold GMbr at hg; dsimp only; omega
  · unfold GTr at hg; dsimp only; omega
  · unfold GLo at hg; dsimp only
    have h0 := Int.ediv_nonneg (show 0 ≤ c.k by omega) (show 0 ≤ c.r by omega)
    have h1 := Int.ediv_le_self c.r (show 0 ≤ c.k by omega)
    refine ⟨by omega, by omega, by omega, ?_, ?_⟩ <;> split <;> omega
/-- The error of Check. -/
def eZ : Option Sh → Int
  | none => 130
  | some _ => 0
set_option maxRecDepth 100000 in
set_option maxHeartbeats 3200000 in
theorem check_none (c : C) (hok : c.Ok) (w : World) (hs : shp c = none) : Calls Try.prog 8 #[.agg (cV c)] w fun e w' => e = .returned (.tuple #[sV none, .int .i64 130]) ∧ Below w.heap.size w w' := by
  obtain ⟨code, n, k, d, r, t, ww⟩ := c
  obtain ⟨U, hU⟩ : ∃ V, w.alloc (.cells #[.int .u8 (code : Nat), .int .i64 n, .int .i64 k, .int .i64 d, .int .i64 r, .int .i64 t, .int .i64 ww] 23) = V := ⟨_, rfl⟩
  obtain ⟨V, hV⟩ : ∃ V, U.alloc (.cells #[.int .i64 0, .int .i64 0, .int .i64 0, .int .i64 0, .int .i64 0] 25) = V := ⟨_, rfl⟩
  have hus : U.heap.size = w.heap.size + 1 := by rw [← hU, World.size_alloc]
  have hbc : Block V w.heap.size 23 #[.int .u8 (code : Nat), .int .i64 n, .int .i64 k, .int .i64 d, .int .i64 r, .int .i64 t, .int .i64 ww] := by rw [← hV, ← hU]; exact (Block.new w _ _).alloc _
  have hbr : Block V (w.heap.size + 1) 25 #[.int .i64 0, .int .i64 0, .int .i64 0, .int .i64 0, .int .i64 0] := by rw [← hus, ← hV]; exact Block.new U _ _
  have hbel : Below w.heap.size w V := by rw [← hV]; exact (by rw [← hU]; exact (Below.refl _ _).alloc (Nat.le_refl _) _ : Below w.heap.size w U).alloc (by omega) _
  have x0 : V.cell? ⟨w.heap.size, 0, none⟩ = some (.int .u8 (code : Nat)) := hbc.cell 0
  have x1 : V.cell? ⟨w.heap.size, 1, none⟩ = some (.int .i64 n) := hbc.cell 1
  have x2 : V.cell? ⟨w.heap.size, 2, none⟩ = some (.int .i64 k) := hbc.cell 2
  have x3 : V.cell? ⟨w.heap.size, 3, none⟩ = some (.int .i64 d) := hbc.cell 3
  have x4 : V.cell? ⟨w.heap.size, 4, none⟩ = some (.int .i64 r) := hbc.cell 4
  have x5 : V.cell? ⟨w.heap.size, 5, none⟩ = some (.int .i64 t) := hbc.cell 5
  have x6 : V.cell? ⟨w.heap.size, 6, none⟩ = some (.int .i64 ww) := hbc.cell 6
  have HC := Lib.hid hbc
  have HR := Lib.hid hbr
  have HB := Lib.hid hbel
  clear hbc hbr hbel
  have HQ := Lib.hid (shapeOf_calls ⟨code, n, k, d, r, t, ww⟩ hok)
  unfold cV at HQ ⊢
  dsimp only at HQ ⊢
  have hEq := eq_shape
  rw [hs] at HQ
  have HQ : Hid (∀ X : World, Calls Try.prog 29 #[.agg #[.int .u8 (code : Nat), .int .i64 n, .int .i64 k, .int .i64 d, .int .i64 r, .int .i64 t, .int .i64 ww]] X fun e w' => e = .returned (.agg #[.int .i64 0, .int .i64 0, .int .i64 0, .int .i64 0, .int .i64 0]) ∧ Below X.heap.size X w') := HQ
  clear hs hok
  go_enter Try.func8, Try.ntmps8
  go_wp2_with ((go_at_call 29; (with_reducible refine (HQ.out _).mono ?_); rintro e w1 ⟨rfl, hb1⟩; have hC1 := HC.out.below hb1 HC.out.lt; have hR1 := HR.out.below hb1 HR.out.lt; have HB1 := Lib.hid (HB.out.trans (hb1.mono HB.out.size)); have y0 := hR1.cell 0; have f0 := hR1.frozen 0; have y1 := hR1.cell 1; have f1 := hR1.frozen 1; have y2 := hR1.cell 2; have f2 := hR1.frozen 2; have y3 := hR1.cell 3; have f3 := hR1.frozen 3; have y4 := hR1.cell 4; have f4 := hR1.frozen 4; have z1 : w1.cell? ⟨w.heap.size, 1, none⟩ = some (.int .i64 n) := hC1.cell 1; have z5 : w1.cell? ⟨w.heap.size, 5, none⟩ = some (.int .i64 t) := hC1.cell 5; have z6 : w1.cell? ⟨w.heap.size, 6, none⟩ = some (.int .i64 ww) := hC1.cell 6; have l1 := hC1.lt; have l2 := hR1.lt; have HR1 := Lib.hid hR1; clear hC1 hR1 hb1))
  obtain ⟨W, hW, hP, hBW⟩ := put5' HB1.out (by omega) HR1.out (.int .i64 0) (.int .i64 0) (.int .i64 0) (.int .i64 0) (.int .i64 0)
  obtain ⟨W2, hW2⟩ : ∃ W2, W.alloc (.cells #[.int .i64 0, .int .i64 0, .int .i64 0, .int .i64 0, .int .i64 0] 25) = W2 := ⟨_, rfl⟩
  rw [hW, hW2]
  have hP2 : Block W2 (w.heap.size + 1) 25 #[.int .i64 0, .int .i64 0, .int .i64 0, .int .i64 0, .int .i64 0] := by rw [← hW2]; exact hP.alloc _
  have hB2 : Below w.heap.size w W2 := by rw [← hW2]; exact hBW.alloc hBW.size _
  have p0 := hP2.cell 0
  have p1 := hP2.cell 1
  have p2 := hP2.cell 2
  have p3 := hP2.cell 3
  have p4 := hP2.cell 4
  refine bodyPost_ret (v := .tuple #[.agg #[.int .i64 0, .int .i64 0, .int .i64 0, .int .i64 0, .int .i64 0], .int .i64 130]) (by simp [results, Try.results8, go_sem, p0, p1, p2, p3, p4]) rfl ?_
  exact ⟨rfl, hB2⟩
set_option maxRecDepth 100000 in
set_option maxHeartbeats 6400000 in
theorem check_some (c : C) (hok : c.Ok) (w : World) (s : Sh) (hin : In c) (hki : kind c = some s) : Calls Try.prog 8 #[.agg (cV c)] w fun e w' => e = .returned (.tuple #[sV (chk c), .int .i64 (eZ (chk c))]) ∧ Below w.heap.size w w' := by
  obtain ⟨b1, b2, b3, b4, b5⟩ := kind_bd hin hki
  have hs : shp c = some s := by unfold shp; rw [if_pos hin]; exact hki
  have hchk : chk c = if Fit c s then some s else none := by unfold chk; rw [hs]
  rw [hchk]
  clear hchk hki
  obtain ⟨sa, sb, ss, so⟩ := s
  obtain ⟨code, n, k, d, r, t, ww⟩ := c
  obtain ⟨U, hU⟩ : ∃ V, w.alloc (.cells #[.int .u8 (code : Nat), .int .i64 n, .int .i64 k, .int .i64 d, .int .i64 r, .int .i64 t, .int .i64 ww] 23) = V := ⟨_, rfl⟩
  obtain ⟨V, hV⟩ : ∃ V, U.alloc (.cells #[.int .i64 0, .int .i64 0, .int .i64 0, .int .i64 0, .int .i64 0] 25) = V := ⟨_, rfl⟩
  have hus : U.heap.size = w.heap.size + 1 := by rw [← hU, World.size_alloc]
  have hbc : Block V w.heap.size 23 #[.int .u8 (code : Nat), .int .i64 n, .int .i64 k, .int .i64 d, .int .i64 r, .int .i64 t, .int .i64 ww] := by rw [← hV, ← hU]; exact (Block.new w _ _).alloc _
  have hbr : Block V (w.heap.size + 1) 25 #[.int .i64 0, .int .i64 0, .int .i64 0, .int .i64 0, .int .i64 0] := by rw [← hus, ← hV]; exact Block.new U _ _
  have hbel : Below w.heap.size w V := by rw [← hV]; exact (by rw [← hU]; exact (Below.refl _ _).alloc (Nat.le_refl _) _ : Below w.heap.size w U).alloc (by omega) _
  have x0 : V.cell? ⟨w.heap.size, 0, none⟩ = some (.int .u8 (code : Nat)) := hbc.cell 0
  have x1 : V.cell? ⟨w.heap.size, 1, none⟩ = some (.int .i64 n) := hbc.cell 1
  have x2 : V.cell? ⟨w.heap.size, 2, none⟩ = some (.int .i64 k) := hbc.cell 2
  have x3 : V.cell? ⟨w.heap.size, 3, none⟩ = some (.int .i64 d) := hbc.cell 3
  have x4 : V.cell? ⟨w.heap.size, 4, none⟩ = some (.int .i64 r) := hbc.cell 4
  have x5 : V.cell? ⟨w.heap.size, 5, none⟩ = some (.int .i64 t) := hbc.cell 5
  have x6 : V.cell? ⟨w.heap.size, 6, none⟩ = some (.int .i64 ww) := hbc.cell 6
  have HC := Lib.hid hbc
  have HR := Lib.hid hbr
  have HB := Lib.hid hbel
  clear hbc hbr hbel
  have HQ := Lib.hid (shapeOf_calls ⟨code, n, k, d, r, t, ww⟩ hok)
  unfold cV at HQ ⊢
  dsimp only at HQ ⊢
  have hEq := eq_shape
  rw [hs] at HQ
  have HQ : Hid (∀ X : World, Calls Try.prog 29 #[.agg #[.int .u8 (code : Nat), .int .i64 n, .int .i64 k, .int .i64 d, .int .i64 r, .int .i64 t, .int .i64 ww]] X fun e w' => e = .returned (.agg #[.int .i64 sa, .int .i64 sb, .int .i64 ss, .int .i64 so, .int .i64 1]) ∧ Below X.heap.size X w') := HQ
  dsimp only at b1 b2 b3 b4 b5
  unfold In at hin
  dsimp only at hin
  have HF : Hid (Fit ⟨code, n, k, d, r, t, ww⟩ ⟨sa, sb, ss, so⟩ ↔ ss + 2 * t ≤ ww ∧ ww ≤ n ∧ so < n ∧ ss + 2 * t < n) := Lib.hid Iff.rfl
  obtain ⟨R, hR⟩ : ∃ R, (if Fit ⟨code, n, k, d, r, t, ww⟩ ⟨sa, sb, ss, so⟩ then some (⟨sa, sb, ss, so⟩ : Sh) else none) = R := ⟨_, rfl⟩
  rw [hR]
  have HNo : Hid (¬ (ss + 2 * t ≤ ww ∧ ww ≤ n ∧ so < n ∧ ss + 2 * t < n) → R = none) := Lib.hid fun h => by rw [← hR]; exact if_neg fun hf => h (HF.out.1 hf)
  have HYes : Hid (ss + 2 * t ≤ ww ∧ ww ≤ n ∧ so < n ∧ ss + 2 * t < n → R = some ⟨sa, sb, ss, so⟩) := Lib.hid fun h => by rw [← hR]; exact if_pos (HF.out.2 h)
  clear hR HF hs hok
  have v1 : IntKind.i64.wrap (2 * t) = 2 * t := i64w (by omega) (by omega)
  obtain ⟨en, hen⟩ : ∃ en, ss + 2 * t = en := ⟨_, rfl⟩
  have v2 : IntKind.i64.wrap (ss + 2 * t) = en := by rw [hen]; exact i64w (by omega) (by omega)
  rw [hen] at HNo HYes
  have e1 : (sa == 0) = false := by simp; omega
  clear hen b2 b3 b4 b5
  by_cases h1 : ww < en
  · have HZ := Lib.hid (HNo.out (by omega))
    have d1 : decide (ww < en) = true := decide_eq_true h1
    go_enter Try.func8, Try.ntmps8
    go_wp2_with ((go_at_call 29; (with_reducible refine (HQ.out _).mono ?_); rintro e w1 ⟨rfl, hb1⟩; have hC1 := HC.out.below hb1 HC.out.lt; have hR1 := HR.out.below hb1 HR.out.lt; have HB1 := Lib.hid (HB.out.trans (hb1.mono HB.out.size)); have y0 := hR1.cell 0; have f0 := hR1.frozen 0; have y1 := hR1.cell 1; have f1 := hR1.frozen 1; have y2 := hR1.cell 2; have f2 := hR1.frozen 2; have y3 := hR1.cell 3; have f3 := hR1.frozen 3; have y4 := hR1.cell 4; have f4 := hR1.frozen 4; have z1 : w1.cell? ⟨w.heap.size, 1, none⟩ = some (.int .i64 n) := hC1.cell 1; have z5 : w1.cell? ⟨w.heap.size, 5, none⟩ = some (.int .i64 t) := hC1.cell 5; have z6 : w1.cell? ⟨w.heap.size, 6, none⟩ = some (.int .i64 ww) := hC1.cell 6; have l1 := hC1.lt; have l2 := hR1.lt; have HR1 := Lib.hid hR1; clear hC1 hR1 hb1))
    obtain ⟨W, hW, hP, hBW⟩ := put5' HB1.out (by omega) HR1.out (.int .i64 0) (.int .i64 0) (.int .i64 0) (.int .i64 0) (.int .i64 0)
    obtain ⟨W2, hW2⟩ : ∃ W2, W.alloc (.cells #[.int .i64 sa, .int .i64 sb, .int .i64 ss, .int .i64 so, .int .i64 1] 25) = W2 := ⟨_, rfl⟩
    rw [hW, hW2]
    have hP2 : Block W2 (w.heap.size + 1) 25 #[.int .i64 0, .int .i64 0, .int .i64 0, .int .i64 0, .int .i64 0] := by rw [← hW2]; exact hP.alloc _
    have hB2 : Below w.heap.size w W2 := by rw [← hW2]; exact hBW.alloc hBW.size _
    have p0 := hP2.cell 0
    have p1 := hP2.cell 1
    have p2 := hP2.cell 2
    have p3 := hP2.cell 3
    have p4 := hP2.cell 4
    refine bodyPost_ret (v := .tuple #[.agg #[.int .i64 0, .int .i64 0, .int .i64 0, .int .i64 0, .int .i64 0], .int .i64 130]) (by simp [results, Try.results8, go_sem, p0, p1, p2, p3, p4]) rfl ?_
    exact ⟨by rw [HZ.out]; rfl, hB2⟩
  have d1 : decide (ww < en) = false := decide_eq_false h1
  by_cases h2 : n < ww
  · have HZ := Lib.hid (HNo.out (by omega))
    have d2 : decide (n < ww) = true := decide_eq_true h2
    go_enter Try.func8, Try.ntmps8
    go_wp2_with ((go_at_call 29; (with_reducible refine (HQ.out _).mono ?_); rintro e w1 ⟨rfl, hb1⟩; have hC1 := HC.out.below hb1 HC.out.lt; have hR1 := HR.out.below hb1 HR.out.lt; have HB1 := Lib.hid (HB.out.trans (hb1.mono HB.out.size)); have y0 := hR1.cell 0; have f0 := hR1.frozen 0; have y1 := hR1.cell 1; have f1 := hR1.frozen 1; have y2 := hR1.cell 2; have f2 := hR1.frozen 2; have y3 := hR1.cell 3; have f3 := hR1.frozen 3; have y4 := hR1.cell 4; have f4 := hR1.frozen 4; have z1 : w1.cell? ⟨w.heap.size, 1, none⟩ = some (.int .i64 n) := hC1.cell 1; have z5 : w1.cell? ⟨w.heap.size, 5, none⟩ = some (.int .i64 t) := hC1.cell 5; have z6 : w1.cell? ⟨w.heap.size, 6, none⟩ = some (.int .i64 ww) := hC1.cell 6; have l1 := hC1.lt; have l2 := hR1.lt; have HR1 := Lib.hid hR1; clear hC1 hR1 hb1))
    obtain ⟨W, hW, hP, hBW⟩ := put5' HB1.out (by omega) HR1.out (.int .i64 0) (.int .i64 0) (.int .i64 0) (.int .i64 0) (.int .i64 0)
    obtain ⟨W2, hW2⟩ : ∃ W2, W.alloc (.cells #[.int .i64 sa, .int .i64 sb, .int .i64 ss, .int .i64 so, .int .i64 1] 25) = W2 := ⟨_, rfl⟩
    rw [hW, hW2]
    have hP2 : Block W2 (w.heap.size + 1) 25 #[.int .i64 0, .int .i64 0, .int .i64 0, .int .i64 0, .int .i64 0] := by rw [← hW2]; exact hP.alloc _
    have hB2 : Below w.heap.size w W2 := by rw [← hW2]; exact hBW.alloc hBW.size _
    have p0 := hP2.cell 0
    have p1 := hP2.cell 1
    have p2 := hP2.cell 2
    have p3 := hP2.cell 3
    have p4 := hP2.cell 4
    refine bodyPost_ret (v := .tuple #[.agg #[.int .i64 0, .int .i64 0, .int .i64 0, .int .i64 0, .int .i64 0], .int .i64 130]) (by simp [results, Try.results8, go_sem, p0, p1, p2, p3, p4]) rfl ?_
    exact ⟨by rw [HZ.out]; rfl, hB2⟩
  have d2 : decide (n < ww) = false := decide_eq_false h2
  by_cases h3 : n ≤ so
  · have HZ := Lib.hid (HNo.out (by omega))
    have d3 : decide (n ≤ so) = true := decide_eq_true h3
    go_enter Try.func8, Try.ntmps8
    go_wp2_with ((go_at_call 29; (with_reducible refine (HQ.out _).mono ?_); rintro e w1 ⟨rfl, hb1⟩; have hC1 := HC.out.below hb1 HC.out.lt; have hR1 := HR.out.below hb1 HR.out.lt; have HB1 := Lib.hid (HB.out.trans (hb1.mono HB.out.size)); have y0 := hR1.cell 0; have f0 := hR1.frozen 0; have y1 := hR1.cell 1; have f1 := hR1.frozen 1; have y2 := hR1.cell 2; have f2 := hR1.frozen 2; have y3 := hR1.cell 3; have f3 := hR1.frozen 3; have y4 := hR1.cell 4; have f4 := hR1.frozen 4; have z1 : w1.cell? ⟨w.heap.size, 1, none⟩ = some (.int .i64 n) := hC1.cell 1; have z5 : w1.cell? ⟨w.heap.size, 5, none⟩ = some (.int .i64 t) := hC1.cell 5; have z6 : w1.cell? ⟨w.heap.size, 6, none⟩ = some (.int .i64 ww) := hC1.cell 6; have l1 := hC1.lt; have l2 := hR1.lt; have HR1 := Lib.hid hR1; clear hC1 hR1 hb1))
    obtain ⟨W, hW, hP, hBW⟩ := put5' HB1.out (by omega) HR1.out (.int .i64 0) (.int .i64 0) (.int .i64 0) (.int .i64 0) (.int .i64 0)
    obtain ⟨W2, hW2⟩ : ∃ W2, W.alloc (.cells #[.int .i64 sa, .int .i64 sb, .int .i64 ss, .int .i64 so, .int .i64 1] 25) = W2 := ⟨_, rfl⟩
    rw [hW, hW2]
    have hP2 : Block W2 (w.heap.size + 1) 25 #[.int .i64 0, .int .i64 0, .int .i64 0, .int .i64 0, .int .i64 0] := by rw [← hW2]; exact hP.alloc _
    have hB2 : Below w.heap.size w W2 := by rw [← hW2]; exact hBW.alloc hBW.size _
    have p0 := hP2.cell 0
    have p1 := hP2.cell 1
    have p2 := hP2.cell 2
    have p3 := hP2.cell 3
    have p4 := hP2.cell 4
    refine bodyPost_ret (v := .tuple #[.agg #[.int .i64 0, .int .i64 0, .int .i64 0, .int .i64 0, .int .i64 0], .int .i64 130]) (by simp [results, Try.results8, go_sem, p0, p1, p2, p3, p4]) rfl ?_
    exact ⟨by rw [HZ.out]; rfl, hB2⟩
  have d3 : decide (n ≤ so) = false := decide_eq_false h3
  by_cases h4 : n ≤ en
  · have HZ := Lib.hid (HNo.out (by omega))
    have d4 : decide (n ≤ en) = true := decide_eq_true h4
    go_enter Try.func8, Try.ntmps8
    go_wp2_with ((go_at_call 29; (with_reducible refine (HQ.out _).mono ?_); rintro e w1 ⟨rfl, hb1⟩; have hC1 := HC.out.below hb1 HC.out.lt; have hR1 := HR.out.below hb1 HR.out.lt; have HB1 := Lib.hid (HB.out.trans (hb1.mono HB.out.size)); have y0 := hR1.cell 0; have f0 := hR1.frozen 0; have y1 := hR1.cell 1; have f1 := hR1.frozen 1; have y2 := hR1.cell 2; have f2 := hR1.frozen 2; have y3 := hR1.cell 3; have f3 := hR1.frozen 3; have y4 := hR1.cell 4; have f4 := hR1.frozen 4; have z1 : w1.cell? ⟨w.heap.size, 1, none⟩ = some (.int .i64 n) := hC1.cell 1; have z5 : w1.cell? ⟨w.heap.size, 5, none⟩ = some (.int .i64 t) := hC1.cell 5; have z6 : w1.cell? ⟨w.heap.size, 6, none⟩ = some (.int .i64 ww) := hC1.cell 6; have l1 := hC1.lt; have l2 := hR1.lt; have HR1 := Lib.hid hR1; clear hC1 hR1 hb1))
    obtain ⟨W, hW, hP, hBW⟩ := put5' HB1.out (by omega) HR1.out (.int .i64 0) (.int .i64 0) (.int .i64 0) (.int .i64 0) (.int .i64 0)
    obtain ⟨W2, hW2⟩ : ∃ W2, W.alloc (.cells #[.int .i64 sa, .int .i64 sb, .int .i64 ss, .int .i64 so, .int .i64 1] 25) = W2 := ⟨_, rfl⟩
    rw [hW, hW2]
    have hP2 : Block W2 (w.heap.size + 1) 25 #[.int .i64 0, .int .i64 0, .int .i64 0, .int .i64 0, .int .i64 0] := by rw [← hW2]; exact hP.alloc _
    have hB2 : Below w.heap.size w W2 := by rw [← hW2]; exact hBW.alloc hBW.size _
    have p0 := hP2.cell 0
    have p1 := hP2.cell 1
    have p2 := hP2.cell 2
    have p3 := hP2.cell 3
    have p4 := hP2.cell 4
    refine bodyPost_ret (v := .tuple #[.agg #[.int .i64 0, .int .i64 0, .int .i64 0, .int .i64 0, .int .i64 0], .int .i64 130]) (by simp [results, Try.results8, go_sem, p0, p1, p2, p3, p4]) rfl ?_
    exact ⟨by rw [HZ.out]; rfl, hB2⟩
  have d4 : decide (n ≤ en) = false := decide_eq_false h4
  have HZ := Lib.hid (HYes.out (by omega))
  go_enter Try.func8, Try.ntmps8
  go_wp2_with ((go_at_call 29; (with_reducible refine (HQ.out _).mono ?_); rintro e w1 ⟨rfl, hb1⟩; have hC1 := HC.out.below hb1 HC.out.lt; have hR1 := HR.out.below hb1 HR.out.lt; have HB1 := Lib.hid (HB.out.trans (hb1.mono HB.out.size)); have y0 := hR1.cell 0; have f0 := hR1.frozen 0; have y1 := hR1.cell 1; have f1 := hR1.frozen 1; have y2 := hR1.cell 2; have f2 := hR1.frozen 2; have y3 := hR1.cell 3; have f3 := hR1.frozen 3; have y4 := hR1.cell 4; have f4 := hR1.frozen 4; have z1 : w1.cell? ⟨w.heap.size, 1, none⟩ = some (.int .i64 n) := hC1.cell 1; have z5 : w1.cell? ⟨w.heap.size, 5, none⟩ = some (.int .i64 t) := hC1.cell 5; have z6 : w1.cell? ⟨w.heap.size, 6, none⟩ = some (.int .i64 ww) := hC1.cell 6; have l1 := hC1.lt; have l2 := hR1.lt; have HR1 := Lib.hid hR1; clear hC1 hR1 hb1))
  obtain ⟨W, hW, hP, hBW⟩ := put5' HB1.out (by omega) HR1.out (.int .i64 sa) (.int .i64 sb) (.int .i64 ss) (.int .i64 so) (.int .i64 1)
  obtain ⟨W2, hW2⟩ : ∃ W2, W.alloc (.cells #[.int .i64 sa, .int .i64 sb, .int .i64 ss, .int .i64 so, .int .i64 1] 25) = W2 := ⟨_, rfl⟩
  rw [hW, hW2]
  have hP2 : Block W2 (w.heap.size + 1) 25 #[.int .i64 sa, .int .i64 sb, .int .i64 ss, .int .i64 so, .int .i64 1] := by rw [← hW2]; exact hP.alloc _
  have hB2 : Below w.heap.size w W2 := by rw [← hW2]; exact hBW.alloc hBW.size _
  have p0 := hP2.cell 0
  have p1 := hP2.cell 1
  have p2 := hP2.cell 2
  have p3 := hP2.cell 3
  have p4 := hP2.cell 4
  refine bodyPost_ret (v := .tuple #[.agg #[.int .i64 sa, .int .i64 sb, .int .i64 ss, .int .i64 so, .int .i64 1], .int .i64 0]) (by simp [results, Try.results8, go_sem, p0, p1, p2, p3, p4]) rfl ?_
  exact ⟨by rw [HZ.out]; rfl, hB2⟩
/-- P13.1. -/
theorem check_calls (c : C) (hok : c.Ok) (w : World) : Calls Try.prog 8 #[.agg (cV c)] w fun e w' => e = .returned (.tuple #[sV (chk c), .int .i64 (eZ (chk c))]) ∧ Below w.heap.size w w' := by
  by_cases hi : In c
  · cases hk : kind c with
    | none =>
      have hs : shp c = none := by unfold shp; rw [if_pos hi]; exact hk
      have hc : chk c = none := by unfold chk; rw [hs]
      rw [hc]
      exact check_none c hok w hs
    | some s => exact check_some c hok w s hi hk
  · have hs : shp c = none := by unfold shp; rw [if_neg hi]
    have hc : chk c = none := by unfold chk; rw [hs]
    rw [hc]
    exact check_none c hok w hs
end Go.Proofs.Ytikfjbomogekbaa.Cf
