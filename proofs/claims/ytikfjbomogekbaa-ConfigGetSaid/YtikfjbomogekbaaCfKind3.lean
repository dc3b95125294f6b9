/- The definition of valid codes: what a kind amounts to. -/
import Derived.Test.YtikfjbomogekbaaCfKind1
namespace Go.Proofs.Ytikfjbomogekbaa.Cf
open Go.RowKit
attribute [local go_sem] Oper.semAt_some
set_option linter.unusedVariables false

set_option maxRecDepth 100000 in
set_option maxHeartbeats 6400000 in
theorem rkind_3 (c : C) (hbd : Bd c) (hcode : c.code = 3) (w : World) : Calls Try.prog 30 #[.agg (cV c)] w (KRes c w) := by
  have HN : Hid (¬ GMbr c → chk c = none) := Lib.hid fun h => chk_none (by unfold kind kMbr; rw [if_neg (by omega)]; rw [if_neg (by omega)]; rw [if_pos hcode, if_neg h])
  have HY : Hid (GMbr c → kind c = some ⟨c.d, c.k * c.d - pairs c.k, c.k, c.d + 2 * c.t⟩) := Lib.hid fun h => kind3 hcode h
  obtain ⟨code, n, k, d, r, t, ww⟩ := c
  obtain ⟨⟨bn1, bn2, bt1, bt2⟩, bc, ⟨bk1, bk2⟩, ⟨bd1, bd2⟩, ⟨br1, br2⟩, bw⟩ := hbd
  dsimp only at hcode bn1 bn2 bt1 bt2 bc bk1 bk2 bd1 bd2 br1 br2 bw
  clear bc bw
  obtain ⟨U, hU⟩ : ∃ V, w.alloc (.cells #[.int .u8 (code : Nat), .int .i64 n, .int .i64 k, .int .i64 d, .int .i64 r, .int .i64 t, .int .i64 ww] 23) = V := ⟨_, rfl⟩
  obtain ⟨V, hV⟩ : ∃ V, U.alloc (.cells #[.int .i64 0, .int .i64 0, .int .i64 0, .int .i64 0, .int .i64 0] 29) = V := ⟨_, rfl⟩
  have hus : U.heap.size = w.heap.size + 1 := by rw [← hU, World.size_alloc]
  have hbc : Block V w.heap.size 23 #[.int .u8 (code : Nat), .int .i64 n, .int .i64 k, .int .i64 d, .int .i64 r, .int .i64 t, .int .i64 ww] := by rw [← hV, ← hU]; exact (Block.new w _ _).alloc _
  have hbr : Block V (w.heap.size + 1) 29 #[.int .i64 0, .int .i64 0, .int .i64 0, .int .i64 0, .int .i64 0] := by rw [← hus, ← hV]; exact Block.new U _ _
  have hbel : Below w.heap.size w V := by rw [← hV]; exact (by rw [← hU]; exact (Below.refl _ _).alloc (Nat.le_refl _) _ : Below w.heap.size w U).alloc (by omega) _
  have x0 : V.cell? ⟨w.heap.size, 0, none⟩ = some (.int .u8 (code : Nat)) := hbc.cell 0
  unfold cV
  dsimp only at HN HY ⊢
  have hmx : Try.prog.follows .mixedOrders = true := by kernel_rfl
  have g1 : ((code : Int) == 1) = false := by simp; omega
  have g2 : ((code : Int) == 2) = false := by simp; omega
  have g3 : ((code : Int) == 3) = true := by simp; omega
  clear hcode
  obtain ⟨V5, hV5⟩ : ∃ V5, V.alloc (.cells #[.int .i64 n, .int .i64 k, .int .i64 d] 104) = V5 := ⟨_, rfl⟩
  obtain ⟨M, hM⟩ : ∃ M, V.heap.size = M := ⟨_, rfl⟩
  have hm5 : Block V5 M 104 #[.int .i64 n, .int .i64 k, .int .i64 d] := by rw [← hV5, ← hM]; exact Block.new V _ _
  have hc5 : Block V5 w.heap.size 23 #[.int .u8 (code : Nat), .int .i64 n, .int .i64 k, .int .i64 d, .int .i64 r, .int .i64 t, .int .i64 ww] := by rw [← hV5]; exact hbc.alloc _
  have hr5 : Block V5 (w.heap.size + 1) 29 #[.int .i64 0, .int .i64 0, .int .i64 0, .int .i64 0, .int .i64 0] := by rw [← hV5]; exact hbr.alloc _
  have hb5 : Below w.heap.size w V5 := by rw [← hV5]; exact hbel.alloc hbel.size _
  have x1 : V.cell? ⟨w.heap.size, 1, none⟩ = some (.int .i64 n) := hbc.cell 1
  have x2 : V.cell? ⟨w.heap.size, 2, none⟩ = some (.int .i64 k) := hbc.cell 2
  have x3 : V.cell? ⟨w.heap.size, 3, none⟩ = some (.int .i64 d) := hbc.cell 3
  have x4 : V.cell? ⟨w.heap.size, 4, none⟩ = some (.int .i64 r) := hbc.cell 4
  have x5 : V.cell? ⟨w.heap.size, 5, none⟩ = some (.int .i64 t) := hbc.cell 5
  have X1 := cell_regrown (show V5.cell? ⟨w.heap.size, 1, none⟩ = some (.int .i64 n) from hc5.cell 1)
  have X2 := cell_regrown (show V5.cell? ⟨w.heap.size, 2, none⟩ = some (.int .i64 k) from hc5.cell 2)
  have X3 := cell_regrown (show V5.cell? ⟨w.heap.size, 3, none⟩ = some (.int .i64 d) from hc5.cell 3)
  have X4 := cell_regrown (show V5.cell? ⟨w.heap.size, 4, none⟩ = some (.int .i64 r) from hc5.cell 4)
  have X5 := cell_regrown (show V5.cell? ⟨w.heap.size, 5, none⟩ = some (.int .i64 t) from hc5.cell 5)
  have M0 := cell_regrown (show V5.cell? ⟨M, 0, none⟩ = some (.int .i64 n) from hm5.cell 0)
  have M1 := cell_regrown (show V5.cell? ⟨M, 1, none⟩ = some (.int .i64 k) from hm5.cell 1)
  have M2 := cell_regrown (show V5.cell? ⟨M, 2, none⟩ = some (.int .i64 d) from hm5.cell 2)
  have HR := Lib.hid hr5
  have HB := Lib.hid hb5
  clear hbc hbr hbel hm5 hc5 hr5 hb5
  have HAl : Hid (∀ X : World, Calls Try.prog 46 #[.agg #[.int .i64 n, .int .i64 k, .int .i64 d]] X fun e w' => e = .returned (.int .i64 d) ∧ Below X.heap.size X w') := Lib.hid fun X => R10.refAlpha_calls n k d X
  have HBb : Hid (∀ X : World, Calls Try.prog 47 #[.agg #[.int .i64 n, .int .i64 k, .int .i64 d]] X fun e w' => e = .returned (.int .i64 (k * d - pairs k)) ∧ Below X.heap.size X w') := Lib.hid fun X => R10.refB_calls n k d bk1 bk2 bd1 bd2 X
  have w2 : IntKind.i64.wrap (2 * t) = 2 * t := i64w (by omega) (by omega)
  have w3 : IntKind.i64.wrap (d + 2 * t) = d + 2 * t := i64w (by omega) (by omega)
  by_cases h1 : r = 0
  rotate_left
  · have HZ := Lib.hid (HN.out fun hg => h1 hg.2.2.2)
    have d1 : (r == 0) = false := by simpa using h1
    clear HN HY h1
    go_enter Try.func30, Try.ntmps30
    go_wp2_with fail
    clear hU hV hus hV5 hM
    refine QT.wp_region_float 19 21 hmx (fun _ _ d _ _ h => by cases d <;> exact h) (by kernel_rfl) rfl ?_
    simp only [List.take_succ_cons, List.take_zero, List.drop_succ_cons, List.drop_zero]
    repeat (go_big_quiet_step ((first | (go_at_call 46; (with_reducible exact Calls.regrown_of (HAl.out _))) | (go_at_call 47; (with_reducible exact Calls.regrown_of (HBb.out _))))))
    refine wpQuiet_nil ?_
    refine ⟨undef, .inr ⟨by kernel_rfl, rfl⟩, ?_⟩
    (try simp only [Act.put, List.setIfInBounds_toArray, List.set_cons_zero, List.set_cons_succ])
    refine ⟨.bool false, .inl ⟨by kernel_rfl, fun _ => by go_simp⟩, ?_⟩
    (try simp only [Act.put, List.setIfInBounds_toArray, List.set_cons_zero, List.set_cons_succ])
    intro _ hw'
    obtain ⟨⟨dq, osq⟩, hw''⟩ := hw'
    subst hw''
    have hRq := HR.out.below (below_regrown V5 dq osq) HR.out.lt
    have hBq := HB.out.trans ((below_regrown V5 dq osq).mono HB.out.size)
    dsimp only
    generalize Sort.grow (redrawn V5 dq) osq = wq at *
    clear X1 X2 X3 X4 X5 M0 M1 M2
    have y0 := hRq.cell 0
    have f0 := hRq.frozen 0
    have y1 := hRq.cell 1
    have f1 := hRq.frozen 1
    have y2 := hRq.cell 2
    have f2 := hRq.frozen 2
    have y3 := hRq.cell 3
    have f3 := hRq.frozen 3
    have y4 := hRq.cell 4
    have f4 := hRq.frozen 4
    have HRq := Lib.hid hRq
    have HBq := Lib.hid hBq
    clear hRq hBq
    go_wp2
    obtain ⟨W, hW, hP, hBW⟩ := put5' HBq.out (by omega) HRq.out (.int .i64 d) (.int .i64 (k * d - pairs k)) (.int .i64 k) (.int .i64 (d + 2 * t)) (.int .i64 1)
    rw [hW]
    have p0 := hP.cell 0
    have p1 := hP.cell 1
    have p2 := hP.cell 2
    have p3 := hP.cell 3
    have p4 := hP.cell 4
    refine bodyPost_ret (v := .tuple #[.agg #[.int .i64 d, .int .i64 (k * d - pairs k), .int .i64 k, .int .i64 (d + 2 * t), .int .i64 1], .bool false]) (by simp [results, Try.results30, go_sem, p0, p1, p2, p3, p4]) rfl ?_
    exact ⟨_, _, _, _, _, _, rfl, (fun h => by cases h), (fun _ => HZ.out), hBW⟩
  have d1 : (r == 0) = true := by simpa using h1
  have H1 := Lib.hid h1
  clear h1
  by_cases h2 : R10.Good n k d
  rotate_left
  · have HZ := Lib.hid (HN.out fun hg => h2 ⟨hg.1, hg.2.1, hg.2.2.1, bn2⟩)
    have HNe : Hid (∀ X : World, Calls Try.prog 48 #[.agg #[.int .i64 n, .int .i64 k, .int .i64 d]] X fun e w' => e = .returned (.int .i64 2) ∧ Below X.heap.size X w') := Lib.hid fun X => by
      have h := R10.refNew_calls n k d X
      unfold R10.refN at h; rw [if_neg h2] at h
      exact h
    clear HN HY h2
    go_enter Try.func30, Try.ntmps30
    go_wp2_with fail
    clear hU hV hus hV5 hM
    refine QT.wp_region_float 19 21 hmx (fun _ _ d _ _ h => by cases d <;> exact h) (by kernel_rfl) rfl ?_
    simp only [List.take_succ_cons, List.take_zero, List.drop_succ_cons, List.drop_zero]
    repeat (go_big_quiet_step ((first | (go_at_call 46; (with_reducible exact Calls.regrown_of (HAl.out _))) | (go_at_call 47; (with_reducible exact Calls.regrown_of (HBb.out _))) | (go_at_call 48; (with_reducible exact Calls.regrown_of (HNe.out _))))))
    refine wpQuiet_nil ?_
    refine ⟨.bool false, .inl ⟨by kernel_rfl, fun _ => by go_simp⟩, ?_⟩
    (try simp only [Act.put, List.setIfInBounds_toArray, List.set_cons_zero, List.set_cons_succ])
    refine ⟨.bool false, .inl ⟨by kernel_rfl, fun _ => by go_simp⟩, ?_⟩
    (try simp only [Act.put, List.setIfInBounds_toArray, List.set_cons_zero, List.set_cons_succ])
    intro _ hw'
    obtain ⟨⟨dq, osq⟩, hw''⟩ := hw'
    subst hw''
    have hRq := HR.out.below (below_regrown V5 dq osq) HR.out.lt
    have hBq := HB.out.trans ((below_regrown V5 dq osq).mono HB.out.size)
    dsimp only
    generalize Sort.grow (redrawn V5 dq) osq = wq at *
    clear X1 X2 X3 X4 X5 M0 M1 M2
    have y0 := hRq.cell 0
    have f0 := hRq.frozen 0
    have y1 := hRq.cell 1
    have f1 := hRq.frozen 1
    have y2 := hRq.cell 2
    have f2 := hRq.frozen 2
    have y3 := hRq.cell 3
    have f3 := hRq.frozen 3
    have y4 := hRq.cell 4
    have f4 := hRq.frozen 4
    have HRq := Lib.hid hRq
    have HBq := Lib.hid hBq
    clear hRq hBq
    go_wp2
    obtain ⟨W, hW, hP, hBW⟩ := put5' HBq.out (by omega) HRq.out (.int .i64 d) (.int .i64 (k * d - pairs k)) (.int .i64 k) (.int .i64 (d + 2 * t)) (.int .i64 1)
    rw [hW]
    have p0 := hP.cell 0
    have p1 := hP.cell 1
    have p2 := hP.cell 2
    have p3 := hP.cell 3
    have p4 := hP.cell 4
    refine bodyPost_ret (v := .tuple #[.agg #[.int .i64 d, .int .i64 (k * d - pairs k), .int .i64 k, .int .i64 (d + 2 * t), .int .i64 1], .bool false]) (by simp [results, Try.results30, go_sem, p0, p1, p2, p3, p4]) rfl ?_
    exact ⟨_, _, _, _, _, _, rfl, (fun h => by cases h), (fun _ => HZ.out), hBW⟩
  have HNe : Hid (∀ X : World, Calls Try.prog 48 #[.agg #[.int .i64 n, .int .i64 k, .int .i64 d]] X fun e w' => e = .returned (.int .i64 0) ∧ Below X.heap.size X w') := Lib.hid fun X => by
    have h := R10.refNew_calls n k d X
    unfold R10.refN at h; rw [if_pos h2] at h
    exact h
  have H2 := Lib.hid h2
  clear h2
  have HZ := Lib.hid (HY.out ⟨H2.out.1, H2.out.2.1, H2.out.2.2.1, H1.out⟩)
  clear HN HY
  go_enter Try.func30, Try.ntmps30
  go_wp2_with fail
  clear hU hV hus hV5 hM
  refine QT.wp_region_float 19 21 hmx (fun _ _ d _ _ h => by cases d <;> exact h) (by kernel_rfl) rfl ?_
  simp only [List.take_succ_cons, List.take_zero, List.drop_succ_cons, List.drop_zero]
  repeat (go_big_quiet_step ((first | (go_at_call 46; (with_reducible exact Calls.regrown_of (HAl.out _))) | (go_at_call 47; (with_reducible exact Calls.regrown_of (HBb.out _))) | (go_at_call 48; (with_reducible exact Calls.regrown_of (HNe.out _))))))
  refine wpQuiet_nil ?_
  refine ⟨.bool true, .inl ⟨by kernel_rfl, fun _ => by go_simp⟩, ?_⟩
  (try simp only [Act.put, List.setIfInBounds_toArray, List.set_cons_zero, List.set_cons_succ])
  refine ⟨.bool true, .inl ⟨by kernel_rfl, fun _ => by go_simp⟩, ?_⟩
  (try simp only [Act.put, List.setIfInBounds_toArray, List.set_cons_zero, List.set_cons_succ])
  intro _ hw'
  obtain ⟨⟨dq, osq⟩, hw''⟩ := hw'
  subst hw''
  have hRq := HR.out.below (below_regrown V5 dq osq) HR.out.lt
  have hBq := HB.out.trans ((below_regrown V5 dq osq).mono HB.out.size)
  dsimp only
  generalize Sort.grow (redrawn V5 dq) osq = wq at *
  clear X1 X2 X3 X4 X5 M0 M1 M2
  have y0 := hRq.cell 0
  have f0 := hRq.frozen 0
  have y1 := hRq.cell 1
  have f1 := hRq.frozen 1
  have y2 := hRq.cell 2
  have f2 := hRq.frozen 2
  have y3 := hRq.cell 3
  have f3 := hRq.frozen 3
  have y4 := hRq.cell 4
  have f4 := hRq.frozen 4
  have HRq := Lib.hid hRq
  have HBq := Lib.hid hBq
  clear hRq hBq
  go_wp2
  obtain ⟨W, hW, hP, hBW⟩ := put5' HBq.out (by omega) HRq.out (.int .i64 d) (.int .i64 (k * d - pairs k)) (.int .i64 k) (.int .i64 (d + 2 * t)) (.int .i64 1)
  rw [hW]
  have p0 := hP.cell 0
  have p1 := hP.cell 1
  have p2 := hP.cell 2
  have p3 := hP.cell 3
  have p4 := hP.cell 4
  refine bodyPost_ret (v := .tuple #[.agg #[.int .i64 d, .int .i64 (k * d - pairs k), .int .i64 k, .int .i64 (d + 2 * t), .int .i64 1], .bool true]) (by simp [results, Try.results30, go_sem, p0, p1, p2, p3, p4]) rfl ?_
  exact ⟨_, _, _, _, _, _, rfl, (fun _ => ⟨HZ.out, rfl⟩), (fun h => by cases h), hBW⟩
end Go.Proofs.Ytikfjbomogekbaa.Cf
