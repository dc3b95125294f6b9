/- Of the program, joined: CfChk, CfWorks, Open, CfOpen, GfMath, GfMath2, F8. -/
import Derived.Test.YtjoghbmedfmioabPc03
import Derived.Laws.StructEq
import Derived.Test.YtjoghbmedfmioabPc01
import Derived.OpenShut
import Derived.SizedLaws
import Derived.ProofKit
import Derived.Deep.Slices
import Derived.Deep.Fields
import Derived.ChangeSame
import Derived.Lib.SmallJoins
namespace Go.Proofs.Ytjoghbmedfmioab.Cf
open Go.RowKit
attribute [local go_sem] Oper.semAt_some
set_option linter.unusedVariables false
theorem eq_shape (a b c d e a' b' c' d' e' : Int) (w : World) : (Op.equalIn 10000 25 (.agg #[.int .i64 a, .int .i64 b, .int .i64 c, .int .i64 d, .int .i64 e]) (.agg #[.int .i64 a', .int .i64 b', .int .i64 c', .int .i64 d', .int .i64 e'])).run Try.prog w = .ok (a == a' && b == b' && c == c' && d == d' && e == e') w := by
 have u3 := Try.underlying3
 have a3 := Try.isAgg3
 have z3 := Try.sizeOf3
 have hS : Try.prog.underlying 25 = some (.struct (Try.prog.fieldsOf 25)) := by kernel_rfl
 have hp : Try.prog.stoodInHeld 25 = false := by kernel_rfl
 rw [show (10000 : Nat) = 9999 + 1 from rfl, run_equalIn_agg w 9999 25 _ _ hS hp]
 simp only [Program.fieldsOf, Try.underlying25]
 go_simp
 by_cases h1 : a = a' <;> by_cases h2 : b = b' <;> by_cases h3 : c = c' <;> by_cases h4 : d = d' <;> by_cases h5 : e = e' <;> simp [h1, h2, h3, h4, h5]
theorem kind_bd {c : C} {s : Sh} (hi : In c) (h : kind c = some s) : 1 ≤ s.a ∧ 0 ≤ s.s ∧ s.s ≤ 1000 ∧ 0 ≤ s.o ∧ s.o ≤ 2000 := by
 unfold In at hi
 rcases kind_some h with ⟨-, hg, rfl⟩ | ⟨-, hg, rfl⟩ | ⟨-, hg, rfl⟩ | ⟨-, hg, rfl⟩ | ⟨-, hg, rfl⟩
 ·unfold GReed at hg; dsimp only; omega
 ·unfold GMsr at hg; dsimp only; omega
 ·unfold GMbr at hg; dsimp only; omega
 ·unfold GTr at hg; dsimp only; omega
 ·unfold GLo at hg; dsimp only
  have h0 := Int.ediv_nonneg (show 0 ≤ c.k by omega) (show 0 ≤ c.r by omega)
  have h1 := Int.ediv_le_self c.r (show 0 ≤ c.k by omega)
  refine ⟨by omega, by omega, by omega, ?_, ?_⟩ <;> split <;> omega
def eZ : Option Sh → Int
 | none => 130
 | some _ => 0
set_option maxRecDepth 100000 in
set_option maxHeartbeats 3200000 in
theorem check_none (c : C) (hok : c.Ok) (w : World) (hs : shp c = none) : Calls Try.prog 4 #[.agg (cV c)] w fun e w' => e = .returned (.tuple #[sV none, .int .i64 130]) ∧ Below w.heap.size w w' := by
 obtain ⟨code, n, k, d, r, t, ww⟩ := c
 obtain ⟨U, hU⟩ : ∃ V, w.alloc (.cells #[.int .u8 (code : Nat), .int .i64 n, .int .i64 k, .int .i64 d, .int .i64 r, .int .i64 t, .int .i64 ww] 23) = V := ⟨_, rfl⟩
 obtain ⟨V, hV⟩ : ∃ V, U.alloc (.cells #[.int .i64 0, .int .i64 0, .int .i64 0, .int .i64 0, .int .i64 0] 25) = V := ⟨_, rfl⟩
 have hus : U.heap.size = w.heap.size + 1 := by rw [← hU, World.size_alloc]
 have hbc : Block V w.heap.size 23 #[.int .u8 (code : Nat), .int .i64 n, .int .i64 k, .int .i64 d, .int .i64 r, .int .i64 t, .int .i64 ww] := by rw [← hV, ← hU]; exact (Block.new w _ _).alloc _
 have hbr : Block V (w.heap.size + 1) 25 #[.int .i64 0, .int .i64 0, .int .i64 0, .int .i64 0, .int .i64 0] := by rw [← hus, ← hV]; exact Block.new U _ _
 have hbel : Below w.heap.size w V := by rw [← hV]; exact (by rw [← hU]; exact (Below.refl _ _).alloc (Nat.le_refl _) _ : Below w.heap.size w U).alloc (by omega) _
 have x0 : V.cell? ⟨w.heap.size, 0, none⟩ = some (.int .u8 (code : Nat)) := hbc.cell 0
 have x1 : V.cell? ⟨w.heap.size, 1, none⟩ = some (.int .i64 n) := hbc.cell 1
 have x2 : V.cell? ⟨w.heap.size, 2, none⟩ = some (.int .i64 k) := hbc.cell 2
 have x3 : V.cell? ⟨w.heap.size, 3, none⟩ = some (.int .i64 d) := hbc.cell 3
 have x4 : V.cell? ⟨w.heap.size, 4, none⟩ = some (.int .i64 r) := hbc.cell 4
 have x5 : V.cell? ⟨w.heap.size, 5, none⟩ = some (.int .i64 t) := hbc.cell 5
 have x6 : V.cell? ⟨w.heap.size, 6, none⟩ = some (.int .i64 ww) := hbc.cell 6
 have HC := Lib.hid hbc
 have HR := Lib.hid hbr
 have HB := Lib.hid hbel
 clear hbc hbr hbel
 have HQ := Lib.hid (shapeOf_calls ⟨code, n, k, d, r, t, ww⟩ hok)
 unfold cV at HQ ⊢
 dsimp only at HQ ⊢
 have hEq := eq_shape
 rw [hs] at HQ
 have HQ : Hid (∀ X : World, Calls Try.prog 19 #[.agg #[.int .u8 (code : Nat), .int .i64 n, .int .i64 k, .int .i64 d, .int .i64 r, .int .i64 t, .int .i64 ww]] X fun e w' => e = .returned (.agg #[.int .i64 0, .int .i64 0, .int .i64 0, .int .i64 0, .int .i64 0]) ∧ Below X.heap.size X w') := HQ
 clear hs hok
 go_enter Try.func4, Try.ntmps4
 go_wp2_with ((go_at_call 19; (with_reducible refine (HQ.out _).mono ?_); rintro e w1 ⟨rfl, hb1⟩; have hC1 := HC.out.below hb1 HC.out.lt; have hR1 := HR.out.below hb1 HR.out.lt; have HB1 := Lib.hid (HB.out.trans (hb1.mono HB.out.size)); have y0 := hR1.cell 0; have f0 := hR1.frozen 0; have y1 := hR1.cell 1; have f1 := hR1.frozen 1; have y2 := hR1.cell 2; have f2 := hR1.frozen 2; have y3 := hR1.cell 3; have f3 := hR1.frozen 3; have y4 := hR1.cell 4; have f4 := hR1.frozen 4; have z1 : w1.cell? ⟨w.heap.size, 1, none⟩ = some (.int .i64 n) := hC1.cell 1; have z5 : w1.cell? ⟨w.heap.size, 5, none⟩ = some (.int .i64 t) := hC1.cell 5; have z6 : w1.cell? ⟨w.heap.size, 6, none⟩ = some (.int .i64 ww) := hC1.cell 6; have l1 := hC1.lt; have l2 := hR1.lt; have HR1 := Lib.hid hR1; clear hC1 hR1 hb1))
 obtain ⟨W, hW, hP, hBW⟩ := put5' HB1.out (by omega) HR1.out (.int .i64 0) (.int .i64 0) (.int .i64 0) (.int .i64 0) (.int .i64 0)
 obtain ⟨W2, hW2⟩ : ∃ W2, W.alloc (.cells #[.int .i64 0, .int .i64 0, .int .i64 0, .int .i64 0, .int .i64 0] 25) = W2 := ⟨_, rfl⟩
 rw [hW, hW2]
 have hP2 : Block W2 (w.heap.size + 1) 25 #[.int .i64 0, .int .i64 0, .int .i64 0, .int .i64 0, .int .i64 0] := by rw [← hW2]; exact hP.alloc _
 have hB2 : Below w.heap.size w W2 := by rw [← hW2]; exact hBW.alloc hBW.size _
 have p0 := hP2.cell 0
 have p1 := hP2.cell 1
 have p2 := hP2.cell 2
 have p3 := hP2.cell 3
 have p4 := hP2.cell 4
 refine bodyPost_ret (v := .tuple #[.agg #[.int .i64 0, .int .i64 0, .int .i64 0, .int .i64 0, .int .i64 0], .int .i64 130]) (by simp [results, Try.results4, go_sem, p0, p1, p2, p3, p4]) rfl ?_
 exact ⟨rfl, hB2⟩
set_option maxRecDepth 100000 in
set_option maxHeartbeats 6400000 in
theorem check_some (c : C) (hok : c.Ok) (w : World) (s : Sh) (hin : In c) (hki : kind c = some s) : Calls Try.prog 4 #[.agg (cV c)] w fun e w' => e = .returned (.tuple #[sV (chk c), .int .i64 (eZ (chk c))]) ∧ Below w.heap.size w w' := by
 obtain ⟨b1, b2, b3, b4, b5⟩ := kind_bd hin hki
 have hs : shp c = some s := by unfold shp; rw [if_pos hin]; exact hki
 have hchk : chk c = if Fit c s then some s else none := by unfold chk; rw [hs]
 rw [hchk]
 clear hchk hki
 obtain ⟨sa, sb, ss, so⟩ := s
 obtain ⟨code, n, k, d, r, t, ww⟩ := c
 obtain ⟨U, hU⟩ : ∃ V, w.alloc (.cells #[.int .u8 (code : Nat), .int .i64 n, .int .i64 k, .int .i64 d, .int .i64 r, .int .i64 t, .int .i64 ww] 23) = V := ⟨_, rfl⟩
 obtain ⟨V, hV⟩ : ∃ V, U.alloc (.cells #[.int .i64 0, .int .i64 0, .int .i64 0, .int .i64 0, .int .i64 0] 25) = V := ⟨_, rfl⟩
 have hus : U.heap.size = w.heap.size + 1 := by rw [← hU, World.size_alloc]
 have hbc : Block V w.heap.size 23 #[.int .u8 (code : Nat), .int .i64 n, .int .i64 k, .int .i64 d, .int .i64 r, .int .i64 t, .int .i64 ww] := by rw [← hV, ← hU]; exact (Block.new w _ _).alloc _
 have hbr : Block V (w.heap.size + 1) 25 #[.int .i64 0, .int .i64 0, .int .i64 0, .int .i64 0, .int .i64 0] := by rw [← hus, ← hV]; exact Block.new U _ _
 have hbel : Below w.heap.size w V := by rw [← hV]; exact (by rw [← hU]; exact (Below.refl _ _).alloc (Nat.le_refl _) _ : Below w.heap.size w U).alloc (by omega) _
 have x0 : V.cell? ⟨w.heap.size, 0, none⟩ = some (.int .u8 (code : Nat)) := hbc.cell 0
 have x1 : V.cell? ⟨w.heap.size, 1, none⟩ = some (.int .i64 n) := hbc.cell 1
 have x2 : V.cell? ⟨w.heap.size, 2, none⟩ = some (.int .i64 k) := hbc.cell 2
 have x3 : V.cell? ⟨w.heap.size, 3, none⟩ = some (.int .i64 d) := hbc.cell 3
 have x4 : V.cell? ⟨w.heap.size, 4, none⟩ = some (.int .i64 r) := hbc.cell 4
 have x5 : V.cell? ⟨w.heap.size, 5, none⟩ = some (.int .i64 t) := hbc.cell 5
 have x6 : V.cell? ⟨w.heap.size, 6, none⟩ = some (.int .i64 ww) := hbc.cell 6
 have HC := Lib.hid hbc
 have HR := Lib.hid hbr
 have HB := Lib.hid hbel
 clear hbc hbr hbel
 have HQ := Lib.hid (shapeOf_calls ⟨code, n, k, d, r, t, ww⟩ hok)
 unfold cV at HQ ⊢
 dsimp only at HQ ⊢
 have hEq := eq_shape
 rw [hs] at HQ
 have HQ : Hid (∀ X : World, Calls Try.prog 19 #[.agg #[.int .u8 (code : Nat), .int .i64 n, .int .i64 k, .int .i64 d, .int .i64 r, .int .i64 t, .int .i64 ww]] X fun e w' => e = .returned (.agg #[.int .i64 sa, .int .i64 sb, .int .i64 ss, .int .i64 so, .int .i64 1]) ∧ Below X.heap.size X w') := HQ
 dsimp only at b1 b2 b3 b4 b5
 unfold In at hin
 dsimp only at hin
 have HF : Hid (Fit ⟨code, n, k, d, r, t, ww⟩ ⟨sa, sb, ss, so⟩ ↔ ss + 2 * t ≤ ww ∧ ww ≤ n ∧ so < n ∧ ss + 2 * t < n) := Lib.hid Iff.rfl
 obtain ⟨R, hR⟩ : ∃ R, (if Fit ⟨code, n, k, d, r, t, ww⟩ ⟨sa, sb, ss, so⟩ then some (⟨sa, sb, ss, so⟩ : Sh) else none) = R := ⟨_, rfl⟩
 rw [hR]
 have HNo : Hid (¬ (ss + 2 * t ≤ ww ∧ ww ≤ n ∧ so < n ∧ ss + 2 * t < n) → R = none) := Lib.hid fun h => by rw [← hR]; exact if_neg fun hf => h (HF.out.1 hf)
 have HYes : Hid (ss + 2 * t ≤ ww ∧ ww ≤ n ∧ so < n ∧ ss + 2 * t < n → R = some ⟨sa, sb, ss, so⟩) := Lib.hid fun h => by rw [← hR]; exact if_pos (HF.out.2 h)
 clear hR HF hs hok
 have v1 : IntKind.i64.wrap (2 * t) = 2 * t := i64w (by omega) (by omega)
 obtain ⟨en, hen⟩ : ∃ en, ss + 2 * t = en := ⟨_, rfl⟩
 have v2 : IntKind.i64.wrap (ss + 2 * t) = en := by rw [hen]; exact i64w (by omega) (by omega)
 rw [hen] at HNo HYes
 have e1 : (sa == 0) = false := by simp; omega
 clear hen b2 b3 b4 b5
 by_cases h1 : ww < en
 ·have HZ := Lib.hid (HNo.out (by omega))
  have d1 : decide (ww < en) = true := decide_eq_true h1
  go_enter Try.func4, Try.ntmps4
  go_wp2_with ((go_at_call 19; (with_reducible refine (HQ.out _).mono ?_); rintro e w1 ⟨rfl, hb1⟩; have hC1 := HC.out.below hb1 HC.out.lt; have hR1 := HR.out.below hb1 HR.out.lt; have HB1 := Lib.hid (HB.out.trans (hb1.mono HB.out.size)); have y0 := hR1.cell 0; have f0 := hR1.frozen 0; have y1 := hR1.cell 1; have f1 := hR1.frozen 1; have y2 := hR1.cell 2; have f2 := hR1.frozen 2; have y3 := hR1.cell 3; have f3 := hR1.frozen 3; have y4 := hR1.cell 4; have f4 := hR1.frozen 4; have z1 : w1.cell? ⟨w.heap.size, 1, none⟩ = some (.int .i64 n) := hC1.cell 1; have z5 : w1.cell? ⟨w.heap.size, 5, none⟩ = some (.int .i64 t) := hC1.cell 5; have z6 : w1.cell? ⟨w.heap.size, 6, none⟩ = some (.int .i64 ww) := hC1.cell 6; have l1 := hC1.lt; have l2 := hR1.lt; have HR1 := Lib.hid hR1; clear hC1 hR1 hb1))
  obtain ⟨W, hW, hP, hBW⟩ := put5' HB1.out (by omega) HR1.out (.int .i64 0) (.int .i64 0) (.int .i64 0) (.int .i64 0) (.int .i64 0)
  obtain ⟨W2, hW2⟩ : ∃ W2, W.alloc (.cells #[.int .i64 sa, .int .i64 sb, .int .i64 ss, .int .i64 so, .int .i64 1] 25) = W2 := ⟨_, rfl⟩
  rw [hW, hW2]
  have hP2 : Block W2 (w.heap.size + 1) 25 #[.int .i64 0, .int .i64 0, .int .i64 0, .int .i64 0, .int .i64 0] := by rw [← hW2]; exact hP.alloc _
  have hB2 : Below w.heap.size w W2 := by rw [← hW2]; exact hBW.alloc hBW.size _
  have p0 := hP2.cell 0
  have p1 := hP2.cell 1
  have p2 := hP2.cell 2
  have p3 := hP2.cell 3
  have p4 := hP2.cell 4
  refine bodyPost_ret (v := .tuple #[.agg #[.int .i64 0, .int .i64 0, .int .i64 0, .int .i64 0, .int .i64 0], .int .i64 130]) (by simp [results, Try.results4, go_sem, p0, p1, p2, p3, p4]) rfl ?_
  exact ⟨by rw [HZ.out]; rfl, hB2⟩
 have d1 : decide (ww < en) = false := decide_eq_false h1
 by_cases h2 : n < ww
 ·have HZ := Lib.hid (HNo.out (by omega))
  have d2 : decide (n < ww) = true := decide_eq_true h2
  go_enter Try.func4, Try.ntmps4
  go_wp2_with ((go_at_call 19; (with_reducible refine (HQ.out _).mono ?_); rintro e w1 ⟨rfl, hb1⟩; have hC1 := HC.out.below hb1 HC.out.lt; have hR1 := HR.out.below hb1 HR.out.lt; have HB1 := Lib.hid (HB.out.trans (hb1.mono HB.out.size)); have y0 := hR1.cell 0; have f0 := hR1.frozen 0; have y1 := hR1.cell 1; have f1 := hR1.frozen 1; have y2 := hR1.cell 2; have f2 := hR1.frozen 2; have y3 := hR1.cell 3; have f3 := hR1.frozen 3; have y4 := hR1.cell 4; have f4 := hR1.frozen 4; have z1 : w1.cell? ⟨w.heap.size, 1, none⟩ = some (.int .i64 n) := hC1.cell 1; have z5 : w1.cell? ⟨w.heap.size, 5, none⟩ = some (.int .i64 t) := hC1.cell 5; have z6 : w1.cell? ⟨w.heap.size, 6, none⟩ = some (.int .i64 ww) := hC1.cell 6; have l1 := hC1.lt; have l2 := hR1.lt; have HR1 := Lib.hid hR1; clear hC1 hR1 hb1))
  obtain ⟨W, hW, hP, hBW⟩ := put5' HB1.out (by omega) HR1.out (.int .i64 0) (.int .i64 0) (.int .i64 0) (.int .i64 0) (.int .i64 0)
  obtain ⟨W2, hW2⟩ : ∃ W2, W.alloc (.cells #[.int .i64 sa, .int .i64 sb, .int .i64 ss, .int .i64 so, .int .i64 1] 25) = W2 := ⟨_, rfl⟩
  rw [hW, hW2]
  have hP2 : Block W2 (w.heap.size + 1) 25 #[.int .i64 0, .int .i64 0, .int .i64 0, .int .i64 0, .int .i64 0] := by rw [← hW2]; exact hP.alloc _
  have hB2 : Below w.heap.size w W2 := by rw [← hW2]; exact hBW.alloc hBW.size _
  have p0 := hP2.cell 0
  have p1 := hP2.cell 1
  have p2 := hP2.cell 2
  have p3 := hP2.cell 3
  have p4 := hP2.cell 4
  refine bodyPost_ret (v := .tuple #[.agg #[.int .i64 0, .int .i64 0, .int .i64 0, .int .i64 0, .int .i64 0], .int .i64 130]) (by simp [results, Try.results4, go_sem, p0, p1, p2, p3, p4]) rfl ?_
  exact ⟨by rw [HZ.out]; rfl, hB2⟩
 have d2 : decide (n < ww) = false := decide_eq_false h2
 by_cases h3 : n ≤ so
 ·have HZ := Lib.hid (HNo.out (by omega))
  have d3 : decide (n ≤ so) = true := decide_eq_true h3
  go_enter Try.func4, Try.ntmps4
  go_wp2_with ((go_at_call 19; (with_reducible refine (HQ.out _).mono ?_); rintro e w1 ⟨rfl, hb1⟩; have hC1 := HC.out.below hb1 HC.out.lt; have hR1 := HR.out.below hb1 HR.out.lt; have HB1 := Lib.hid (HB.out.trans (hb1.mono HB.out.size)); have y0 := hR1.cell 0; have f0 := hR1.frozen 0; have y1 := hR1.cell 1; have f1 := hR1.frozen 1; have y2 := hR1.cell 2; have f2 := hR1.frozen 2; have y3 := hR1.cell 3; have f3 := hR1.frozen 3; have y4 := hR1.cell 4; have f4 := hR1.frozen 4; have z1 : w1.cell? ⟨w.heap.size, 1, none⟩ = some (.int .i64 n) := hC1.cell 1; have z5 : w1.cell? ⟨w.heap.size, 5, none⟩ = some (.int .i64 t) := hC1.cell 5; have z6 : w1.cell? ⟨w.heap.size, 6, none⟩ = some (.int .i64 ww) := hC1.cell 6; have l1 := hC1.lt; have l2 := hR1.lt; have HR1 := Lib.hid hR1; clear hC1 hR1 hb1))
  obtain ⟨W, hW, hP, hBW⟩ := put5' HB1.out (by omega) HR1.out (.int .i64 0) (.int .i64 0) (.int .i64 0) (.int .i64 0) (.int .i64 0)
  obtain ⟨W2, hW2⟩ : ∃ W2, W.alloc (.cells #[.int .i64 sa, .int .i64 sb, .int .i64 ss, .int .i64 so, .int .i64 1] 25) = W2 := ⟨_, rfl⟩
  rw [hW, hW2]
  have hP2 : Block W2 (w.heap.size + 1) 25 #[.int .i64 0, .int .i64 0, .int .i64 0, .int .i64 0, .int .i64 0] := by rw [← hW2]; exact hP.alloc _
  have hB2 : Below w.heap.size w W2 := by rw [← hW2]; exact hBW.alloc hBW.size _
  have p0 := hP2.cell 0
  have p1 := hP2.cell 1
  have p2 := hP2.cell 2
  have p3 := hP2.cell 3
  have p4 := hP2.cell 4
  refine bodyPost_ret (v := .tuple #[.agg #[.int .i64 0, .int .i64 0, .int .i64 0, .int .i64 0, .int .i64 0], .int .i64 130]) (by simp [results, Try.results4, go_sem, p0, p1, p2, p3, p4]) rfl ?_
  exact ⟨by rw [HZ.out]; rfl, hB2⟩
 have d3 : decide (n ≤ so) = false := decide_eq_false h3
 by_cases h4 : n ≤ en
 ·have HZ := Lib.hid (HNo.out (by omega))
  have d4 : decide (n ≤ en) = true := decide_eq_true h4
  go_enter Try.func4, Try.ntmps4
  go_wp2_with ((go_at_call 19; (with_reducible refine (HQ.out _).mono ?_); rintro e w1 ⟨rfl, hb1⟩; have hC1 := HC.out.below hb1 HC.out.lt; have hR1 := HR.out.below hb1 HR.out.lt; have HB1 := Lib.hid (HB.out.trans (hb1.mono HB.out.size)); have y0 := hR1.cell 0; have f0 := hR1.frozen 0; have y1 := hR1.cell 1; have f1 := hR1.frozen 1; have y2 := hR1.cell 2; have f2 := hR1.frozen 2; have y3 := hR1.cell 3; have f3 := hR1.frozen 3; have y4 := hR1.cell 4; have f4 := hR1.frozen 4; have z1 : w1.cell? ⟨w.heap.size, 1, none⟩ = some (.int .i64 n) := hC1.cell 1; have z5 : w1.cell? ⟨w.heap.size, 5, none⟩ = some (.int .i64 t) := hC1.cell 5; have z6 : w1.cell? ⟨w.heap.size, 6, none⟩ = some (.int .i64 ww) := hC1.cell 6; have l1 := hC1.lt; have l2 := hR1.lt; have HR1 := Lib.hid hR1; clear hC1 hR1 hb1))
  obtain ⟨W, hW, hP, hBW⟩ := put5' HB1.out (by omega) HR1.out (.int .i64 0) (.int .i64 0) (.int .i64 0) (.int .i64 0) (.int .i64 0)
  obtain ⟨W2, hW2⟩ : ∃ W2, W.alloc (.cells #[.int .i64 sa, .int .i64 sb, .int .i64 ss, .int .i64 so, .int .i64 1] 25) = W2 := ⟨_, rfl⟩
  rw [hW, hW2]
  have hP2 : Block W2 (w.heap.size + 1) 25 #[.int .i64 0, .int .i64 0, .int .i64 0, .int .i64 0, .int .i64 0] := by rw [← hW2]; exact hP.alloc _
  have hB2 : Below w.heap.size w W2 := by rw [← hW2]; exact hBW.alloc hBW.size _
  have p0 := hP2.cell 0
  have p1 := hP2.cell 1
  have p2 := hP2.cell 2
  have p3 := hP2.cell 3
  have p4 := hP2.cell 4
  refine bodyPost_ret (v := .tuple #[.agg #[.int .i64 0, .int .i64 0, .int .i64 0, .int .i64 0, .int .i64 0], .int .i64 130]) (by simp [results, Try.results4, go_sem, p0, p1, p2, p3, p4]) rfl ?_
  exact ⟨by rw [HZ.out]; rfl, hB2⟩
 have d4 : decide (n ≤ en) = false := decide_eq_false h4
 have HZ := Lib.hid (HYes.out (by omega))
 go_enter Try.func4, Try.ntmps4
 go_wp2_with ((go_at_call 19; (with_reducible refine (HQ.out _).mono ?_); rintro e w1 ⟨rfl, hb1⟩; have hC1 := HC.out.below hb1 HC.out.lt; have hR1 := HR.out.below hb1 HR.out.lt; have HB1 := Lib.hid (HB.out.trans (hb1.mono HB.out.size)); have y0 := hR1.cell 0; have f0 := hR1.frozen 0; have y1 := hR1.cell 1; have f1 := hR1.frozen 1; have y2 := hR1.cell 2; have f2 := hR1.frozen 2; have y3 := hR1.cell 3; have f3 := hR1.frozen 3; have y4 := hR1.cell 4; have f4 := hR1.frozen 4; have z1 : w1.cell? ⟨w.heap.size, 1, none⟩ = some (.int .i64 n) := hC1.cell 1; have z5 : w1.cell? ⟨w.heap.size, 5, none⟩ = some (.int .i64 t) := hC1.cell 5; have z6 : w1.cell? ⟨w.heap.size, 6, none⟩ = some (.int .i64 ww) := hC1.cell 6; have l1 := hC1.lt; have l2 := hR1.lt; have HR1 := Lib.hid hR1; clear hC1 hR1 hb1))
 obtain ⟨W, hW, hP, hBW⟩ := put5' HB1.out (by omega) HR1.out (.int .i64 sa) (.int .i64 sb) (.int .i64 ss) (.int .i64 so) (.int .i64 1)
 obtain ⟨W2, hW2⟩ : ∃ W2, W.alloc (.cells #[.int .i64 sa, .int .i64 sb, .int .i64 ss, .int .i64 so, .int .i64 1] 25) = W2 := ⟨_, rfl⟩
 rw [hW, hW2]
 have hP2 : Block W2 (w.heap.size + 1) 25 #[.int .i64 sa, .int .i64 sb, .int .i64 ss, .int .i64 so, .int .i64 1] := by rw [← hW2]; exact hP.alloc _
 have hB2 : Below w.heap.size w W2 := by rw [← hW2]; exact hBW.alloc hBW.size _
 have p0 := hP2.cell 0
 have p1 := hP2.cell 1
 have p2 := hP2.cell 2
 have p3 := hP2.cell 3
 have p4 := hP2.cell 4
 refine bodyPost_ret (v := .tuple #[.agg #[.int .i64 sa, .int .i64 sb, .int .i64 ss, .int .i64 so, .int .i64 1], .int .i64 0]) (by simp [results, Try.results4, go_sem, p0, p1, p2, p3, p4]) rfl ?_
 exact ⟨by rw [HZ.out]; rfl, hB2⟩
theorem check_calls (c : C) (hok : c.Ok) (w : World) : Calls Try.prog 4 #[.agg (cV c)] w fun e w' => e = .returned (.tuple #[sV (chk c), .int .i64 (eZ (chk c))]) ∧ Below w.heap.size w w' := by
 by_cases hi : In c
 ·cases hk : kind c with
  | none =>
   have hs : shp c = none := by unfold shp; rw [if_pos hi]; exact hk
   have hc : chk c = none := by unfold chk; rw [hs]
   rw [hc]
   exact check_none c hok w hs
  | some s => exact check_some c hok w s hi hk
 ·have hs : shp c = none := by unfold shp; rw [if_neg hi]
  have hc : chk c = none := by unfold chk; rw [hs]
  rw [hc]
  exact check_none c hok w hs
end Go.Proofs.Ytjoghbmedfmioab.Cf

namespace Go.Proofs.Ytjoghbmedfmioab.Cf
open Go.RowKit
attribute [local go_sem] Oper.semAt_some
set_option linter.unusedVariables false
deriving instance DecidableEq for Sh
theorem ex1 : chk ⟨1, 6, 3, 0, 0, 1, 5⟩ = some ⟨1, 3, 3, 5⟩ := by decide +kernel
theorem exc1 (w : World) : Calls Try.prog 4 #[.agg #[.int .u8 1, .int .i64 6, .int .i64 3, .int .i64 0, .int .i64 0, .int .i64 1, .int .i64 5]] w fun e w' => e = .returned (.tuple #[.agg #[.int .i64 1, .int .i64 3, .int .i64 3, .int .i64 5, .int .i64 1], .int .i64 0]) ∧ Below w.heap.size w w' := by
 have h := check_calls ⟨1, 6, 3, 0, 0, 1, 5⟩ (by unfold C.Ok; decide) w
 rw [ex1] at h
 exact h
theorem ex2 : chk ⟨2, 6, 3, 4, 0, 0, 4⟩ = some ⟨2, 6, 3, 4⟩ := by decide +kernel
theorem exc2 (w : World) : Calls Try.prog 4 #[.agg #[.int .u8 2, .int .i64 6, .int .i64 3, .int .i64 4, .int .i64 0, .int .i64 0, .int .i64 4]] w fun e w' => e = .returned (.tuple #[.agg #[.int .i64 2, .int .i64 6, .int .i64 3, .int .i64 4, .int .i64 1], .int .i64 0]) ∧ Below w.heap.size w w' := by
 have h := check_calls ⟨2, 6, 3, 4, 0, 0, 4⟩ (by unfold C.Ok; decide) w
 rw [ex2] at h
 exact h
theorem ex3 : chk ⟨3, 6, 3, 4, 0, 0, 4⟩ = some ⟨4, 9, 3, 4⟩ := by decide +kernel
theorem exc3 (w : World) : Calls Try.prog 4 #[.agg #[.int .u8 3, .int .i64 6, .int .i64 3, .int .i64 4, .int .i64 0, .int .i64 0, .int .i64 4]] w fun e w' => e = .returned (.tuple #[.agg #[.int .i64 4, .int .i64 9, .int .i64 3, .int .i64 4, .int .i64 1], .int .i64 0]) ∧ Below w.heap.size w w' := by
 have h := check_calls ⟨3, 6, 3, 4, 0, 0, 4⟩ (by unfold C.Ok; decide) w
 rw [ex3] at h
 exact h
theorem ex4 : chk ⟨4, 5, 3, 0, 0, 0, 4⟩ = some ⟨4, 9, 3, 4⟩ := by decide +kernel
theorem exc4 (w : World) : Calls Try.prog 4 #[.agg #[.int .u8 4, .int .i64 5, .int .i64 3, .int .i64 0, .int .i64 0, .int .i64 0, .int .i64 4]] w fun e w' => e = .returned (.tuple #[.agg #[.int .i64 4, .int .i64 9, .int .i64 3, .int .i64 4, .int .i64 1], .int .i64 0]) ∧ Below w.heap.size w w' := by
 have h := check_calls ⟨4, 5, 3, 0, 0, 0, 4⟩ (by unfold C.Ok; decide) w
 rw [ex4] at h
 exact h
theorem ex5 : chk ⟨5, 6, 2, 0, 2, 0, 4⟩ = some ⟨1, 2, 2, 2⟩ := by decide +kernel
theorem exc5 (w : World) : Calls Try.prog 4 #[.agg #[.int .u8 5, .int .i64 6, .int .i64 2, .int .i64 0, .int .i64 2, .int .i64 0, .int .i64 4]] w fun e w' => e = .returned (.tuple #[.agg #[.int .i64 1, .int .i64 2, .int .i64 2, .int .i64 2, .int .i64 1], .int .i64 0]) ∧ Below w.heap.size w w' := by
 have h := check_calls ⟨5, 6, 2, 0, 2, 0, 4⟩ (by unfold C.Ok; decide) w
 rw [ex5] at h
 exact h
theorem ex6 : chk ⟨1, 6, 3, 0, 0, 2, 6⟩ = none := by decide +kernel
theorem exc6 (w : World) : Calls Try.prog 4 #[.agg #[.int .u8 1, .int .i64 6, .int .i64 3, .int .i64 0, .int .i64 0, .int .i64 2, .int .i64 6]] w fun e w' => e = .returned (.tuple #[.agg #[.int .i64 0, .int .i64 0, .int .i64 0, .int .i64 0, .int .i64 0], .int .i64 130]) ∧ Below w.heap.size w w' := by
 have h := check_calls ⟨1, 6, 3, 0, 0, 2, 6⟩ (by unfold C.Ok; decide) w
 rw [ex6] at h
 exact h
theorem ex7 : chk ⟨3, 5, 3, 4, 0, 1, 5⟩ = none := by decide +kernel
theorem exc7 (w : World) : Calls Try.prog 4 #[.agg #[.int .u8 3, .int .i64 5, .int .i64 3, .int .i64 4, .int .i64 0, .int .i64 1, .int .i64 5]] w fun e w' => e = .returned (.tuple #[.agg #[.int .i64 0, .int .i64 0, .int .i64 0, .int .i64 0, .int .i64 0], .int .i64 130]) ∧ Below w.heap.size w w' := by
 have h := check_calls ⟨3, 5, 3, 4, 0, 1, 5⟩ (by unfold C.Ok; decide) w
 rw [ex7] at h
 exact h
set_option maxRecDepth 100000 in
set_option maxHeartbeats 6400000 in
theorem works_calls (w : World) : Calls Try.prog 5 #[] w fun e w' => e = .returned (.bool true) ∧ Below w.heap.size w w' := by
 have hEq := eq_shape
 have HB0 := Lib.hid (Below.refl w.heap.size w)
 have H1 := Lib.hid exc1
 have H2 := Lib.hid exc2
 have H3 := Lib.hid exc3
 have H4 := Lib.hid exc4
 have H5 := Lib.hid exc5
 have H6 := Lib.hid exc6
 have H7 := Lib.hid exc7
 go_enter Try.func5, Try.ntmps5
 go_wp2_with (first | (go_at_call 4; (with_reducible refine (H1.out _).mono ?_); rintro e w1 ⟨rfl, hb1⟩; have HB1 := Lib.hid hb1; clear hb1) | (go_at_call 4; (with_reducible refine (H2.out _).mono ?_); rintro e w2 ⟨rfl, hb2⟩; have HB2 := Lib.hid ((HB1.out.alloc HB1.out.size (.cells #[.int .i64 1, .int .i64 3, .int .i64 3, .int .i64 5, .int .i64 1] 25)).trans (hb2.mono (by rw [World.size_alloc]; have := HB1.out.size; omega))); have K1 := Lib.hid ((Block.new w1 25 #[.int .i64 1, .int .i64 3, .int .i64 3, .int .i64 5, .int .i64 1]).below hb2 (by rw [World.size_alloc]; omega)); clear hb2) | (go_at_call 4; (with_reducible refine (H3.out _).mono ?_); rintro e w3 ⟨rfl, hb3⟩; have HB3 := Lib.hid ((HB2.out.alloc HB2.out.size (.cells #[.int .i64 2, .int .i64 6, .int .i64 3, .int .i64 4, .int .i64 1] 25)).trans (hb3.mono (by rw [World.size_alloc]; have := HB2.out.size; omega))); have K2 := Lib.hid ((Block.new w2 25 #[.int .i64 2, .int .i64 6, .int .i64 3, .int .i64 4, .int .i64 1]).below hb3 (by rw [World.size_alloc]; omega)); replace K1 := Lib.hid ((K1.out.alloc (.cells #[.int .i64 2, .int .i64 6, .int .i64 3, .int .i64 4, .int .i64 1] 25)).below hb3 (by rw [World.size_alloc]; have := K1.out.lt; omega)); clear hb3) | (go_at_call 4; (with_reducible refine (H4.out _).mono ?_); rintro e w4 ⟨rfl, hb4⟩; have HB4 := Lib.hid ((HB3.out.alloc HB3.out.size (.cells #[.int .i64 4, .int .i64 9, .int .i64 3, .int .i64 4, .int .i64 1] 25)).trans (hb4.mono (by rw [World.size_alloc]; have := HB3.out.size; omega))); have K3 := Lib.hid ((Block.new w3 25 #[.int .i64 4, .int .i64 9, .int .i64 3, .int .i64 4, .int .i64 1]).below hb4 (by rw [World.size_alloc]; omega)); replace K1 := Lib.hid ((K1.out.alloc (.cells #[.int .i64 4, .int .i64 9, .int .i64 3, .int .i64 4, .int .i64 1] 25)).below hb4 (by rw [World.size_alloc]; have := K1.out.lt; omega)); replace K2 := Lib.hid ((K2.out.alloc (.cells #[.int .i64 4, .int .i64 9, .int .i64 3, .int .i64 4, .int .i64 1] 25)).below hb4 (by rw [World.size_alloc]; have := K2.out.lt; omega)); clear hb4) | (go_at_call 4; (with_reducible refine (H5.out _).mono ?_); rintro e w5 ⟨rfl, hb5⟩; have HB5 := Lib.hid ((HB4.out.alloc HB4.out.size (.cells #[.int .i64 4, .int .i64 9, .int .i64 3, .int .i64 4, .int .i64 1] 25)).trans (hb5.mono (by rw [World.size_alloc]; have := HB4.out.size; omega))); have K4 := Lib.hid ((Block.new w4 25 #[.int .i64 4, .int .i64 9, .int .i64 3, .int .i64 4, .int .i64 1]).below hb5 (by rw [World.size_alloc]; omega)); replace K1 := Lib.hid ((K1.out.alloc (.cells #[.int .i64 4, .int .i64 9, .int .i64 3, .int .i64 4, .int .i64 1] 25)).below hb5 (by rw [World.size_alloc]; have := K1.out.lt; omega)); replace K2 := Lib.hid ((K2.out.alloc (.cells #[.int .i64 4, .int .i64 9, .int .i64 3, .int .i64 4, .int .i64 1] 25)).below hb5 (by rw [World.size_alloc]; have := K2.out.lt; omega)); replace K3 := Lib.hid ((K3.out.alloc (.cells #[.int .i64 4, .int .i64 9, .int .i64 3, .int .i64 4, .int .i64 1] 25)).below hb5 (by rw [World.size_alloc]; have := K3.out.lt; omega)); clear hb5) | (go_at_call 4; (with_reducible refine (H6.out _).mono ?_); rintro e w6 ⟨rfl, hb6⟩; have HB6 := Lib.hid ((HB5.out.alloc HB5.out.size (.cells #[.int .i64 1, .int .i64 2, .int .i64 2, .int .i64 2, .int .i64 1] 25)).trans (hb6.mono (by rw [World.size_alloc]; have := HB5.out.size; omega))); have K5 := Lib.hid ((Block.new w5 25 #[.int .i64 1, .int .i64 2, .int .i64 2, .int .i64 2, .int .i64 1]).below hb6 (by rw [World.size_alloc]; omega)); replace K1 := Lib.hid ((K1.out.alloc (.cells #[.int .i64 1, .int .i64 2, .int .i64 2, .int .i64 2, .int .i64 1] 25)).below hb6 (by rw [World.size_alloc]; have := K1.out.lt; omega)); replace K2 := Lib.hid ((K2.out.alloc (.cells #[.int .i64 1, .int .i64 2, .int .i64 2, .int .i64 2, .int .i64 1] 25)).below hb6 (by rw [World.size_alloc]; have := K2.out.lt; omega)); replace K3 := Lib.hid ((K3.out.alloc (.cells #[.int .i64 1, .int .i64 2, .int .i64 2, .int .i64 2, .int .i64 1] 25)).below hb6 (by rw [World.size_alloc]; have := K3.out.lt; omega)); replace K4 := Lib.hid ((K4.out.alloc (.cells #[.int .i64 1, .int .i64 2, .int .i64 2, .int .i64 2, .int .i64 1] 25)).below hb6 (by rw [World.size_alloc]; have := K4.out.lt; omega)); clear hb6) | (go_at_call 4; (with_reducible refine (H7.out _).mono ?_); rintro e w7 ⟨rfl, hb7⟩; have HB7 := Lib.hid ((HB6.out.alloc HB6.out.size (.cells #[.int .i64 0, .int .i64 0, .int .i64 0, .int .i64 0, .int .i64 0] 25)).trans (hb7.mono (by rw [World.size_alloc]; have := HB6.out.size; omega))); replace K1 := Lib.hid ((K1.out.alloc (.cells #[.int .i64 0, .int .i64 0, .int .i64 0, .int .i64 0, .int .i64 0] 25)).below hb7 (by rw [World.size_alloc]; have := K1.out.lt; omega)); replace K2 := Lib.hid ((K2.out.alloc (.cells #[.int .i64 0, .int .i64 0, .int .i64 0, .int .i64 0, .int .i64 0] 25)).below hb7 (by rw [World.size_alloc]; have := K2.out.lt; omega)); replace K3 := Lib.hid ((K3.out.alloc (.cells #[.int .i64 0, .int .i64 0, .int .i64 0, .int .i64 0, .int .i64 0] 25)).below hb7 (by rw [World.size_alloc]; have := K3.out.lt; omega)); replace K4 := Lib.hid ((K4.out.alloc (.cells #[.int .i64 0, .int .i64 0, .int .i64 0, .int .i64 0, .int .i64 0] 25)).below hb7 (by rw [World.size_alloc]; have := K4.out.lt; omega)); replace K5 := Lib.hid ((K5.out.alloc (.cells #[.int .i64 0, .int .i64 0, .int .i64 0, .int .i64 0, .int .i64 0] 25)).below hb7 (by rw [World.size_alloc]; have := K5.out.lt; omega)); have c10 : w7.cell? ⟨w1.heap.size, 0, none⟩ = some (.int .i64 1) := K1.out.cell 0; have c11 : w7.cell? ⟨w1.heap.size, 1, none⟩ = some (.int .i64 3) := K1.out.cell 1; have c12 : w7.cell? ⟨w1.heap.size, 2, none⟩ = some (.int .i64 3) := K1.out.cell 2; have c13 : w7.cell? ⟨w1.heap.size, 3, none⟩ = some (.int .i64 5) := K1.out.cell 3; have c14 : w7.cell? ⟨w1.heap.size, 4, none⟩ = some (.int .i64 1) := K1.out.cell 4; have l1 := K1.out.lt; have c20 : w7.cell? ⟨w2.heap.size, 0, none⟩ = some (.int .i64 2) := K2.out.cell 0; have c21 : w7.cell? ⟨w2.heap.size, 1, none⟩ = some (.int .i64 6) := K2.out.cell 1; have c22 : w7.cell? ⟨w2.heap.size, 2, none⟩ = some (.int .i64 3) := K2.out.cell 2; have c23 : w7.cell? ⟨w2.heap.size, 3, none⟩ = some (.int .i64 4) := K2.out.cell 3; have c24 : w7.cell? ⟨w2.heap.size, 4, none⟩ = some (.int .i64 1) := K2.out.cell 4; have l2 := K2.out.lt; have c30 : w7.cell? ⟨w3.heap.size, 0, none⟩ = some (.int .i64 4) := K3.out.cell 0; have c31 : w7.cell? ⟨w3.heap.size, 1, none⟩ = some (.int .i64 9) := K3.out.cell 1; have c32 : w7.cell? ⟨w3.heap.size, 2, none⟩ = some (.int .i64 3) := K3.out.cell 2; have c33 : w7.cell? ⟨w3.heap.size, 3, none⟩ = some (.int .i64 4) := K3.out.cell 3; have c34 : w7.cell? ⟨w3.heap.size, 4, none⟩ = some (.int .i64 1) := K3.out.cell 4; have l3 := K3.out.lt; have c40 : w7.cell? ⟨w4.heap.size, 0, none⟩ = some (.int .i64 4) := K4.out.cell 0; have c41 : w7.cell? ⟨w4.heap.size, 1, none⟩ = some (.int .i64 9) := K4.out.cell 1; have c42 : w7.cell? ⟨w4.heap.size, 2, none⟩ = some (.int .i64 3) := K4.out.cell 2; have c43 : w7.cell? ⟨w4.heap.size, 3, none⟩ = some (.int .i64 4) := K4.out.cell 3; have c44 : w7.cell? ⟨w4.heap.size, 4, none⟩ = some (.int .i64 1) := K4.out.cell 4; have l4 := K4.out.lt; have c50 : w7.cell? ⟨w5.heap.size, 0, none⟩ = some (.int .i64 1) := K5.out.cell 0; have c51 : w7.cell? ⟨w5.heap.size, 1, none⟩ = some (.int .i64 2) := K5.out.cell 1; have c52 : w7.cell? ⟨w5.heap.size, 2, none⟩ = some (.int .i64 2) := K5.out.cell 2; have c53 : w7.cell? ⟨w5.heap.size, 3, none⟩ = some (.int .i64 2) := K5.out.cell 3; have c54 : w7.cell? ⟨w5.heap.size, 4, none⟩ = some (.int .i64 1) := K5.out.cell 4; have l5 := K5.out.lt; clear hb7))
 go_ret
 exact ⟨rfl, HB7.out.alloc HB7.out.size _⟩
end Go.Proofs.Ytjoghbmedfmioab.Cf

namespace Go.Proofs.Ytjoghbmedfmioab
open Go.RowKit
section
variable {n : Int}
theorem wf_bounds_u8 (h : (Lit.int .u8 n).wf = true) : 0 ≤ n ∧ n ≤ 255 := by
 simp [Lit.wf, IntKind.min, IntKind.max, IntKind.signed, IntKind.bits] at h
 omega
theorem wf_bounds_u16 (h : (Lit.int .u16 n).wf = true) : 0 ≤ n ∧ n ≤ 65535 := by
 simp [Lit.wf, IntKind.min, IntKind.max, IntKind.signed, IntKind.bits] at h
 omega
theorem wf_bounds_u32 (h : (Lit.int .u32 n).wf = true) : 0 ≤ n ∧ n ≤ 4294967295 := by
 simp [Lit.wf, IntKind.min, IntKind.max, IntKind.signed, IntKind.bits] at h
 omega
theorem wf_bounds_u64 (h : (Lit.int .u64 n).wf = true) : 0 ≤ n ∧ n ≤ 18446744073709551615 := by
 simp [Lit.wf, IntKind.min, IntKind.max, IntKind.signed, IntKind.bits] at h
 omega
theorem wf_bounds_i8 (h : (Lit.int .i8 n).wf = true) : -128 ≤ n ∧ n < 128 := by
 simp [Lit.wf, IntKind.min, IntKind.max, IntKind.signed, IntKind.bits] at h
 omega
theorem wf_bounds_i16 (h : (Lit.int .i16 n).wf = true) : -32768 ≤ n ∧ n < 32768 := by
 simp [Lit.wf, IntKind.min, IntKind.max, IntKind.signed, IntKind.bits] at h
 omega
theorem wf_bounds_i32 (h : (Lit.int .i32 n).wf = true) : -2147483648 ≤ n ∧ n < 2147483648 := by
 simp [Lit.wf, IntKind.min, IntKind.max, IntKind.signed, IntKind.bits] at h
 omega
theorem wf_bounds_i64 (h : (Lit.int .i64 n).wf = true) : -9223372036854775808 ≤ n ∧ n < 9223372036854775808 := by
 simp [Lit.wf, IntKind.min, IntKind.max, IntKind.signed, IntKind.bits] at h
 omega
end
theorem bytes_of {W : World} {x : Addr} {len cap : Nat} {zs : List Int} (hl : len ≤ cap) (hz : zs.length = cap) (hcell : ∀ i, i < zs.length → W.cell? (x.add i) = some (.int .u8 (zs.getD i 0)))
  (hwz : ∀ n ∈ zs, (Lit.int .u8 n).wf = true) : Bytes W (some x) ((zs.take len).map Int.toNat) ∧ ((zs.take len).map Int.toNat).length = len := by
 have hw : ∀ n ∈ zs, 0 ≤ n ∧ n < 256 := fun n hn => by
  have := bounds_u8 (hwz n hn); omega
 have hlen : ((zs.take len).map Int.toNat).length = len := by rw [List.length_map, List.length_take]; omega
 refine ⟨⟨?_, ?_⟩, hlen⟩
 ·intro k u hu
  have hk : k < len := by have := (List.getElem?_eq_some_iff.1 hu).1; rw [bv_length, hlen] at this; exact this
  have hc := hcell k (by omega)
  have hs : (x.add k).spot = none := World.cell?_spot hc
  have hx : x.spot = none := by
   by_cases h0 : k = 0
   ·subst h0; simpa [Addr.add] using hs
   ·have h0 := hcell 0 (by omega); have := World.cell?_spot h0; simpa [Addr.add] using this
  obtain ⟨b, off, spot⟩ := x
  obtain rfl : spot = none := hx
  refine ⟨b, off, rfl, ?_⟩
  have e : (⟨b, off, none⟩ : Addr).add k = ⟨b, off + k, none⟩ := by unfold Addr.add; split <;> simp_all
  rw [e] at hc
  rw [hc]
  have hkz : k < zs.length := by omega
  simp only [bv, List.map_map, List.getElem?_map, List.getElem?_take, if_pos hk, List.getElem?_eq_getElem hkz, Option.map_some, Function.comp] at hu
  rw [← hu, List.getD_eq_getElem?_getD, List.getElem?_eq_getElem hkz]
  have := hw _ (List.getElem_mem hkz)
  simp [Int.toNat_of_nonneg this.1]
 ·intro c hc
  obtain ⟨n, hn, rfl⟩ := List.mem_map.1 hc
  have := hw n (List.mem_of_mem_take hn)
  omega
end Go.Proofs.Ytjoghbmedfmioab

namespace Go.Proofs.Ytjoghbmedfmioab.Cf
open Go.RowKit Go.ChangeShapes Go.WideShapes Go.Deep Go.Joins
set_option linter.unusedVariables false
set_option linter.unusedSimpArgs false
theorem cells_config : Try.prog.cellsOf 23 = 7 := by kernel_rfl
theorem list7 {α : Type} : ∀ {l : List α}, l.length = 7 → ∃ a b c d e f g, l = [a, b, c, d, e, f, g]
 | [a, b, c, d, e, f, g], _ => ⟨a, b, c, d, e, f, g, rfl⟩
section
variable {H : Type} {enc : TypeId × Value → H} {W : World}
theorem cells_int : Try.prog.cellsOf 3 = 1 := by kernel_rfl
theorem cells_u8 : Try.prog.cellsOf 5 = 1 := by kernel_rfl
set_option maxRecDepth 100000 in
theorem open_config {v : Value} {d : DataW H} {p : List MemPlace} {b0 base : Nat} (hv : Value.okWide Try.prog W .any b0 23 v) (h : DataW.Trod enc Try.prog W base (fun _ => true) true 23 v d p) :
  ∃ c : C, c.Ok ∧ v = .agg (cV c) := by
 obtain ⟨cs, rfl, hsz⟩ := okWide_struct Try.underlying23 hv
 obtain ⟨l⟩ := cs
 obtain ⟨v0, v1, v2, v3, v4, v5, v6, rfl⟩ := list7 (hsz.trans cells_config)
 obtain ⟨fuel, hf⟩ := h
 obtain ⟨xs, n, _, -, hl, hlen, hf⟩ := DataW.trod_struct Try.underlying23 hf
 obtain ⟨y0, y1, y2, y3, y4, y5, y6, rfl⟩ := list7 hlen
 have h0 : DataW.trod enc Try.prog W base (fun _ => true) true n 5 [v0] = some y0 := by simpa [Value.cells, cells_u8] using hf 0 _ rfl
 have h1 : DataW.trod enc Try.prog W base (fun _ => true) true n 3 [v1] = some y1 := by simpa [Value.cells, cells_int] using hf 1 _ rfl
 have h2 : DataW.trod enc Try.prog W base (fun _ => true) true n 3 [v2] = some y2 := by simpa [Value.cells, cells_int] using hf 2 _ rfl
 have h3 : DataW.trod enc Try.prog W base (fun _ => true) true n 3 [v3] = some y3 := by simpa [Value.cells, cells_int] using hf 3 _ rfl
 have h4 : DataW.trod enc Try.prog W base (fun _ => true) true n 3 [v4] = some y4 := by simpa [Value.cells, cells_int] using hf 4 _ rfl
 have h5 : DataW.trod enc Try.prog W base (fun _ => true) true n 3 [v5] = some y5 := by simpa [Value.cells, cells_int] using hf 5 _ rfl
 have h6 : DataW.trod enc Try.prog W base (fun _ => true) true n 3 [v6] = some y6 := by simpa [Value.cells, cells_int] using hf 6 _ rfl
 obtain ⟨n0, e0, -, w0⟩ := DataW.trod_int Try.underlying5 h0
 obtain ⟨n1, e1, -, w1⟩ := DataW.trod_int Try.underlying3 h1
 obtain ⟨n2, e2, -, w2⟩ := DataW.trod_int Try.underlying3 h2
 obtain ⟨n3, e3, -, w3⟩ := DataW.trod_int Try.underlying3 h3
 obtain ⟨n4, e4, -, w4⟩ := DataW.trod_int Try.underlying3 h4
 obtain ⟨n5, e5, -, w5⟩ := DataW.trod_int Try.underlying3 h5
 obtain ⟨n6, e6, -, w6⟩ := DataW.trod_int Try.underlying3 h6
 simp at e0 e1 e2 e3 e4 e5 e6
 subst e0 e1 e2 e3 e4 e5 e6
 have b0 := wf_bounds_u8 w0
 obtain ⟨m, rfl⟩ := Int.eq_ofNat_of_zero_le b0.1
 have b1 := wf_bounds_i64 w1
 have b2 := wf_bounds_i64 w2
 have b3 := wf_bounds_i64 w3
 have b4 := wf_bounds_i64 w4
 have b5 := wf_bounds_i64 w5
 have b6 := wf_bounds_i64 w6
 refine ⟨⟨m, n1, n2, n3, n4, n5, n6⟩, ?_, rfl⟩
 unfold C.Ok
 dsimp only
 omega
end
end Go.Proofs.Ytjoghbmedfmioab.Cf

namespace Go.Proofs.Ytjoghbmedfmioab.GF
def gx (n : Nat) : Nat := if 256 ≤ 2 * n then (2 * n) ^^^ 285 else 2 * n
def gp : Nat → Nat
 | 0 => 1
 | n + 1 => gx (gp n)
def lt : List Nat := [
 0, 0, 1, 25, 2, 50, 26, 198, 3, 223, 51, 238, 27, 104, 199, 75, 4, 100, 224, 14, 52, 141, 239, 129, 28, 193, 105, 248, 200, 8, 76, 113,
 5, 138, 101, 47, 225, 36, 15, 33, 53, 147, 142, 218, 240, 18, 130, 69, 29, 181, 194, 125, 106, 39, 249, 185, 201, 154, 9, 120, 77, 228, 114, 166,
 6, 191, 139, 98, 102, 221, 48, 253, 226, 152, 37, 179, 16, 145, 34, 136, 54, 208, 148, 206, 143, 150, 219, 189, 241, 210, 19, 92, 131, 56, 70, 64,
 30, 66, 182, 163, 195, 72, 126, 110, 107, 58, 40, 84, 250, 133, 186, 61, 202, 94, 155, 159, 10, 21, 121, 43, 78, 212, 229, 172, 115, 243, 167, 87,
 7, 112, 192, 247, 140, 128, 99, 13, 103, 74, 222, 237, 49, 197, 254, 24, 227, 165, 153, 119, 38, 184, 180, 124, 17, 68, 146, 217, 35, 32, 137, 46,
 55, 63, 209, 91, 149, 188, 207, 205, 144, 135, 151, 178, 220, 252, 190, 97, 242, 86, 211, 171, 20, 42, 93, 158, 132, 60, 57, 83, 71, 109, 65, 162,
 31, 45, 67, 216, 183, 123, 164, 118, 196, 23, 73, 236, 127, 12, 111, 246, 108, 161, 59, 82, 41, 157, 85, 170, 251, 96, 134, 177, 187, 204, 62, 90,
 203, 89, 95, 176, 156, 169, 160, 81, 11, 245, 22, 235, 122, 117, 44, 215, 79, 174, 213, 233, 230, 231, 173, 232, 116, 214, 244, 234, 168, 80, 88, 175]
def gl (a : Nat) : Nat := lt.getD a 0
def gm (a b : Nat) : Nat := if a = 0 then 0 else if b = 0 then 0 else gp ((gl a + gl b) % 255)
theorem xor_swap (a b c d : Nat) : (a ^^^ b) ^^^ (c ^^^ d) = (a ^^^ c) ^^^ (b ^^^ d) := by
 rw [Nat.xor_assoc, Nat.xor_assoc, ← Nat.xor_assoc b c d, ← Nat.xor_assoc c b d, Nat.xor_comm b c]
theorem gx_lt' : ∀ n, n < 256 → gx n < 256 := by decide +kernel
theorem gx_lt {n : Nat} (h : n < 256) : gx n < 256 := gx_lt' n h
theorem gp_lt (n : Nat) : gp n < 256 := by
 induction n with
 | zero => decide
 | succ n ih => exact gx_lt ih
theorem gp_255 : gp 255 = 1 := by decide +kernel
theorem gp_add255 (n : Nat) : gp (n + 255) = gp n := by
 induction n with
 | zero => rw [Nat.zero_add]; exact gp_255
 | succ n ih => rw [Nat.succ_add]; show gx (gp (n + 255)) = gx (gp n); rw [ih]
theorem gp_mod (n : Nat) : gp (n % 255) = gp n := by
 induction n using Nat.strongRecOn with
 | ind n ih =>
  rcases Nat.lt_or_ge n 255 with h | h
  ·rw [Nat.mod_eq_of_lt h]
  ·obtain ⟨m, rfl⟩ : ∃ m, n = m + 255 := ⟨n - 255, by omega⟩
   rw [gp_add255, Nat.add_mod_right]; exact ih m (by omega)
theorem gl_gp' : ∀ n, n < 255 → gl (gp n) = n := by decide +kernel
theorem gl_gp (n : Nat) : gl (gp n) = n % 255 := by rw [← gp_mod]; exact gl_gp' _ (by omega)
theorem gp_gl' : ∀ a, a < 256 → a ≠ 0 → gp (gl a) = a := by decide +kernel
theorem gp_gl {a : Nat} (h : a < 256) (h0 : a ≠ 0) : gp (gl a) = a := gp_gl' a h h0
theorem gl_lt' : ∀ a, a < 256 → gl a < 255 := by decide +kernel
theorem gl_lt {a : Nat} (h : a < 256) : gl a < 255 := gl_lt' a h
theorem gp_ne (n : Nat) : gp n ≠ 0 := by
 have h : ∀ n, n < 255 → gp n ≠ 0 := by decide +kernel
 rw [← gp_mod]; exact h _ (by omega)
theorem gp_inj {m n : Nat} (hm : m < 255) (hn : n < 255) (h : gp m = gp n) : m = n := by
 rw [← gl_gp' m hm, ← gl_gp' n hn, h]
theorem gm_lt (a b : Nat) : gm a b < 256 := by
 unfold gm; split; · decide
 split; · decide
 exact gp_lt _
theorem gm_zero (a : Nat) : gm a 0 = 0 := by unfold gm; split <;> rfl
theorem zero_gm (b : Nat) : gm 0 b = 0 := by unfold gm; rfl
theorem gm_pow (m n : Nat) : gm (gp m) (gp n) = gp (m + n) := by
 unfold gm
 rw [if_neg (gp_ne m), if_neg (gp_ne n), gl_gp, gl_gp, ← Nat.add_mod, gp_mod]
theorem gm_eq_zero {a b : Nat} : gm a b = 0 ↔ a = 0 ∨ b = 0 := by
 unfold gm
 by_cases ha : a = 0
 ·simp [ha]
 ·by_cases hb : b = 0
  ·simp [hb]
  ·simp [ha, hb, gp_ne]
theorem pow_of {a : Nat} (h : a < 256) (h0 : a ≠ 0) : ∃ n, n < 255 ∧ a = gp n := ⟨gl a, gl_lt h, (gp_gl h h0).symm⟩
theorem gm_comm (a b : Nat) : gm a b = gm b a := by
 unfold gm
 by_cases ha : a = 0 <;> by_cases hb : b = 0 <;> simp [ha, hb, Nat.add_comm]
theorem gm_assoc {a b c : Nat} (ha : a < 256) (hb : b < 256) (hc : c < 256) : gm (gm a b) c = gm a (gm b c) := by
 by_cases a0 : a = 0
 ·subst a0; simp [zero_gm]
 by_cases b0 : b = 0
 ·subst b0; simp [zero_gm, gm_zero]
 by_cases c0 : c = 0
 ·subst c0; simp [gm_zero]
 obtain ⟨i, _, rfl⟩ := pow_of ha a0
 obtain ⟨j, _, rfl⟩ := pow_of hb b0
 obtain ⟨k, _, rfl⟩ := pow_of hc c0
 rw [gm_pow, gm_pow, gm_pow, gm_pow, Nat.add_assoc]
theorem gm_one {a : Nat} (ha : a < 256) : gm a 1 = a := by
 by_cases a0 : a = 0
 ·subst a0; rfl
 obtain ⟨i, _, rfl⟩ := pow_of ha a0
 exact gm_pow i 0
theorem one_gm {a : Nat} (ha : a < 256) : gm 1 a = a := by rw [gm_comm]; exact gm_one ha
def rmA (a b : Nat) : Nat → Nat
 | 0 => 0
 | k + 1 => if b.testBit k then rmA a b k ^^^ (a <<< k) else rmA a b k
def rmR (n : Nat) : Nat → Nat
 | 0 => n
 | j + 1 => if (rmR n j).testBit (14 - j) then rmR n j ^^^ (285 <<< (6 - j)) else rmR n j
def rm (a b : Nat) : Nat := rmR (rmA a b 8) 7 % 256
theorem rm_lt (a b : Nat) : rm a b < 256 := Nat.mod_lt _ (by decide)
theorem rmA_xor_left (a a' b k : Nat) : rmA (a ^^^ a') b k = rmA a b k ^^^ rmA a' b k := by
 induction k with
 | zero => simp [rmA]
 | succ k ih =>
  simp only [rmA]
  rw [ih, Nat.shiftLeft_xor_distrib]
  cases b.testBit k
  ·rfl
  ·exact xor_swap _ _ _ _
theorem rmA_xor_right (a b b' k : Nat) : rmA a (b ^^^ b') k = rmA a b k ^^^ rmA a b' k := by
 induction k with
 | zero => simp [rmA]
 | succ k ih =>
  simp only [rmA, Nat.testBit_xor]
  rw [ih]
  cases b.testBit k <;> cases b'.testBit k
  ·rfl
  ·simp [Nat.xor_assoc]
  ·simp only [Bool.xor_false, if_true, Bool.false_eq_true, if_false]
   rw [Nat.xor_assoc, Nat.xor_assoc, Nat.xor_comm (a <<< k)]
  ·simp only [Bool.xor_self, if_true, Bool.false_eq_true, if_false]
   rw [xor_swap, Nat.xor_self, Nat.xor_zero]
theorem rmR_xor (n m j : Nat) : rmR (n ^^^ m) j = rmR n j ^^^ rmR m j := by
 induction j with
 | zero => rfl
 | succ j ih =>
  simp only [rmR]
  rw [ih, Nat.testBit_xor]
  generalize 285 <<< (6 - j) = c
  cases (rmR n j).testBit (14 - j) <;> cases (rmR m j).testBit (14 - j)
  ·rfl
  ·simp [Nat.xor_assoc]
  ·simp only [Bool.xor_false, if_true, Bool.false_eq_true, if_false]
   rw [Nat.xor_assoc, Nat.xor_assoc, Nat.xor_comm c]
  ·simp only [Bool.xor_self, if_true, Bool.false_eq_true, if_false]
   rw [xor_swap, Nat.xor_self, Nat.xor_zero]
theorem xor_mod256 (a b : Nat) : (a ^^^ b) % 256 = (a % 256) ^^^ (b % 256) := Nat.xor_mod_two_pow (n := 8)
theorem rm_xor_left (a a' b : Nat) : rm (a ^^^ a') b = rm a b ^^^ rm a' b := by
 unfold rm; rw [rmA_xor_left, rmR_xor, xor_mod256]
theorem rm_xor_right (a b b' : Nat) : rm a (b ^^^ b') = rm a b ^^^ rm a b' := by
 unfold rm; rw [rmA_xor_right, rmR_xor, xor_mod256]
theorem bits_sum : ∀ n, n < 256 → n = ((((((((128 * (n / 128 % 2)) ^^^ (64 * (n / 64 % 2))) ^^^ (32 * (n / 32 % 2))) ^^^ (16 * (n / 16 % 2))) ^^^ (8 * (n / 8 % 2))) ^^^ (4 * (n / 4 % 2))) ^^^ (2 * (n / 2 % 2))) ^^^ (n % 2)) := by decide +kernel
theorem lin_ext (f g : Nat → Nat) (hf : ∀ a b, f (a ^^^ b) = f a ^^^ f b) (hg : ∀ a b, g (a ^^^ b) = g a ^^^ g b)
  (h : ∀ i, i < 8 → f (2 ^ i) = g (2 ^ i)) (n : Nat) (hn : n < 256) : f n = g n := by
 have f0 : f 0 = 0 := by have := hf 0 0; rw [Nat.xor_self, Nat.xor_self] at this; exact this
 have g0 : g 0 = 0 := by have := hg 0 0; rw [Nat.xor_self, Nat.xor_self] at this; exact this
 have hb : ∀ i, i < 8 → ∀ m, f (2 ^ i * (m % 2)) = g (2 ^ i * (m % 2)) := by
  intro i hi m
  rcases Nat.mod_two_eq_zero_or_one m with e | e <;> rw [e]
  ·rw [Nat.mul_zero, f0, g0]
  ·rw [Nat.mul_one]; exact h i hi
 rw [bits_sum n hn]
 rw [hf, hf, hf, hf, hf, hf, hf, hg, hg, hg, hg, hg, hg, hg]
 have b0 := hb 0 (by decide) n; have b1 := hb 1 (by decide) (n / 2); have b2 := hb 2 (by decide) (n / 4); have b3 := hb 3 (by decide) (n / 8)
 have b4 := hb 4 (by decide) (n / 16); have b5 := hb 5 (by decide) (n / 32); have b6 := hb 6 (by decide) (n / 64); have b7 := hb 7 (by decide) (n / 128)
 simp only [Nat.pow_zero, Nat.one_mul] at b0
 rw [show (128 : Nat) = 2 ^ 7 from rfl, show (64 : Nat) = 2 ^ 6 from rfl, show (32 : Nat) = 2 ^ 5 from rfl, show (16 : Nat) = 2 ^ 4 from rfl, show (8 : Nat) = 2 ^ 3 from rfl, show (4 : Nat) = 2 ^ 2 from rfl] at *
 rw [show f (2 * (n / 2 % 2)) = g (2 * (n / 2 % 2)) from b1, b0, b2, b3, b4, b5, b6, b7]
def gx' (n : Nat) : Nat := (2 * n) ^^^ (285 * (n / 128 % 2))
theorem gx_eq : ∀ n, n < 256 → gx n = gx' n := by decide +kernel
theorem mul_mod_xor (p a b : Nat) : p * ((a ^^^ b) % 2) = (p * (a % 2)) ^^^ (p * (b % 2)) := by
 have h : (a ^^^ b) % 2 = (a % 2) ^^^ (b % 2) := Nat.xor_mod_two_pow (n := 1)
 rw [h]
 rcases Nat.mod_two_eq_zero_or_one a with ha | ha <;> rcases Nat.mod_two_eq_zero_or_one b with hb | hb <;> rw [ha, hb] <;> simp
theorem gx'_xor (a b : Nat) : gx' (a ^^^ b) = gx' a ^^^ gx' b := by
 have h2 : 2 * (a ^^^ b) = (2 * a) ^^^ (2 * b) := by
  have := Nat.shiftLeft_xor_distrib (a := a) (b := b) (i := 1)
  simpa [Nat.shiftLeft_eq, Nat.mul_comm] using this
 unfold gx'
 rw [h2, show (a ^^^ b) / 128 = (a / 128) ^^^ (b / 128) from Nat.xor_div_two_pow (n := 7), mul_mod_xor, xor_swap]
theorem rm_gx {a b : Nat} (ha : a < 256) (hb : b < 256) : rm a (gx b) = gx (rm a b) := by
 rw [gx_eq b hb, gx_eq _ (rm_lt a b)]
 refine lin_ext (fun b => rm a (gx' b)) (fun b => gx' (rm a b)) (fun x y => ?_) (fun x y => ?_) (fun i hi => ?_) b hb
 ·show rm a (gx' (x ^^^ y)) = _
  rw [gx'_xor, rm_xor_right]
 ·show gx' (rm a (x ^^^ y)) = _
  rw [rm_xor_right, gx'_xor]
 ·refine lin_ext (fun a => rm a (gx' (2 ^ i))) (fun a => gx' (rm a (2 ^ i))) (fun x y => ?_) (fun x y => ?_) (fun j hj => ?_) a ha
  ·exact rm_xor_left _ _ _
  ·show gx' (rm (x ^^^ y) _) = _
   rw [rm_xor_left, gx'_xor]
  ·revert i j
   have : ∀ i, i < 8 → ∀ j, j < 8 → rm (2 ^ j) (gx' (2 ^ i)) = gx' (rm (2 ^ j) (2 ^ i)) := by decide +kernel
   exact fun i hi j hj => this i hi j hj
theorem rm_one : ∀ a, a < 256 → rm a 1 = a := by decide +kernel
theorem rm_pow {a : Nat} (ha : a < 256) (n : Nat) : rm a (gp n) = gm a (gp n) := by
 induction n with
 | zero => rw [show gp 0 = 1 from rfl, rm_one a ha, gm_one ha]
 | succ n ih =>
  show rm a (gx (gp n)) = gm a (gp (n + 1))
  rw [rm_gx ha (gp_lt n), ih]
  by_cases a0 : a = 0
  ·subst a0; rw [zero_gm, zero_gm]; rfl
  obtain ⟨i, _, rfl⟩ := pow_of ha a0
  rw [gm_pow, gm_pow]; rfl
theorem rm_zero (a : Nat) : rm a 0 = 0 := by
 have := rm_xor_right a 0 0
 rw [Nat.xor_self, Nat.xor_self] at this; exact this
theorem rm_eq {a b : Nat} (ha : a < 256) (hb : b < 256) : rm a b = gm a b := by
 by_cases b0 : b = 0
 ·subst b0; rw [rm_zero, gm_zero]
 obtain ⟨n, _, rfl⟩ := pow_of hb b0
 exact rm_pow ha n
theorem gm_add {a b c : Nat} (ha : a < 256) (hb : b < 256) (hc : c < 256) : gm a (b ^^^ c) = gm a b ^^^ gm a c := by
 rw [← rm_eq ha (Nat.xor_lt_two_pow (n := 8) hb hc), ← rm_eq ha hb, ← rm_eq ha hc, rm_xor_right]
theorem add_gm {a b c : Nat} (ha : a < 256) (hb : b < 256) (hc : c < 256) : gm (a ^^^ b) c = gm a c ^^^ gm b c := by
 rw [gm_comm, gm_add hc ha hb, gm_comm c a, gm_comm c b]
theorem xor_lt {a b : Nat} (ha : a < 256) (hb : b < 256) : a ^^^ b < 256 := Nat.xor_lt_two_pow (n := 8) ha hb
def gq (a b : Nat) : Nat := if a = 0 then 0 else gp ((gl a + (255 - gl b)) % 255)
theorem gq_lt (a b : Nat) : gq a b < 256 := by
 unfold gq
 split
 ·decide
 ·exact gp_lt _
def ge (n : Int) : Nat := gp (n % 255).toNat
theorem ge_nat (n : Nat) : ge n = gp n := by
 unfold ge; rw [← gp_mod n]; congr 1
theorem ge_add (m n : Int) : ge (m + n) = gm (ge m) (ge n) := by
 unfold ge
 rw [gm_pow, ← gp_mod ((m % 255).toNat + (n % 255).toNat)]
 congr 1; omega
def gord (a : Nat) : Nat := if a = 0 then 0 else 255 / Nat.gcd 255 (gl a)
end Go.Proofs.Ytjoghbmedfmioab.GF

namespace Go.Proofs.Ytjoghbmedfmioab
structure F8 where
 n : Nat
 h : n < 256
namespace F8
theorem ext {a b : F8} (h : a.n = b.n) : a = b := by
 obtain ⟨a, ha⟩ := a; obtain ⟨b, hb⟩ := b; cases h; rfl
theorem n_inj {a b : F8} : a.n = b.n ↔ a = b := ⟨ext, fun h => by rw [h]⟩
instance : DecidableEq F8 := fun a b => if h : a.n = b.n then isTrue (ext h) else isFalse (fun e => h (by rw [e]))
instance : Zero F8 := ⟨⟨0, by decide⟩⟩
instance : One F8 := ⟨⟨1, by decide⟩⟩
instance : Add F8 := ⟨fun a b => ⟨a.n ^^^ b.n, GF.xor_lt a.h b.h⟩⟩
instance : Mul F8 := ⟨fun a b => ⟨GF.gm a.n b.n, GF.gm_lt _ _⟩⟩
instance : Div F8 := ⟨fun a b => ⟨GF.gq a.n b.n, GF.gq_lt _ _⟩⟩
instance : Inhabited F8 := ⟨0⟩
theorem n_mul (a b : F8) : (a * b).n = GF.gm a.n b.n := rfl
theorem n_eq_zero {a : F8} : a.n = 0 ↔ a = 0 := n_inj (b := 0)
theorem add_comm (a b : F8) : a + b = b + a := ext (Nat.xor_comm _ _)
theorem add_assoc (a b c : F8) : a + b + c = a + (b + c) := ext (Nat.xor_assoc _ _ _)
theorem add_zero (a : F8) : a + 0 = a := ext (Nat.xor_zero _)
theorem zero_add (a : F8) : 0 + a = a := ext (Nat.zero_xor _)
theorem mul_comm (a b : F8) : a * b = b * a := ext (GF.gm_comm _ _)
theorem mul_assoc (a b c : F8) : a * b * c = a * (b * c) := ext (GF.gm_assoc a.h b.h c.h)
theorem mul_one (a : F8) : a * 1 = a := ext (GF.gm_one a.h)
theorem one_mul (a : F8) : 1 * a = a := ext (GF.one_gm a.h)
theorem mul_zero (a : F8) : a * 0 = 0 := ext (GF.gm_zero _)
theorem zero_mul (a : F8) : 0 * a = 0 := ext (GF.zero_gm a.n)
theorem mul_add (a b c : F8) : a * (b + c) = a * b + a * c := ext (GF.gm_add a.h b.h c.h)
theorem add_mul (a b c : F8) : (a + b) * c = a * c + b * c := ext (GF.add_gm a.h b.h c.h)
theorem mul_eq_zero {a b : F8} : a * b = 0 ↔ a = 0 ∨ b = 0 := by
 rw [← n_eq_zero, ← n_eq_zero, ← n_eq_zero, n_mul, GF.gm_eq_zero]
theorem mul_ne_zero {a b : F8} (ha : a ≠ 0) (hb : b ≠ 0) : a * b ≠ 0 := fun h => (mul_eq_zero.1 h).elim ha hb
theorem one_ne_zero : (1 : F8) ≠ 0 := by decide
instance : Std.Associative (α := F8) (· + ·) := ⟨add_assoc⟩
instance : Std.Commutative (α := F8) (· + ·) := ⟨add_comm⟩
instance : Std.Associative (α := F8) (· * ·) := ⟨mul_assoc⟩
instance : Std.Commutative (α := F8) (· * ·) := ⟨mul_comm⟩
def bs (l : List F8) : List Nat := l.map F8.n
theorem bs_lt (l : List F8) : ∀ c ∈ bs l, c < 256 := by
 intro c hc; obtain ⟨x, _, rfl⟩ := List.mem_map.1 hc; exact x.h
theorem bs_length (l : List F8) : (bs l).length = l.length := by simp [bs]
theorem bs_append (a b : List F8) : bs (a ++ b) = bs a ++ bs b := by simp [bs]
end F8
end Go.Proofs.Ytjoghbmedfmioab
