/- The definition of valid codes: what a kind amounts to. -/
import Derived.Test.YtikfjbomogekbaaCfChk
import Derived.Test.YtikfjbomogekbaaCfRef1
import Derived.Test.YtikfjbomogekbaaCfRef2
import Derived.Test.YtikfjbomogekbaaCfRef3
import Derived.Test.YtikfjbomogekbaaQuietTail
namespace Go.Proofs.Ytikfjbomogekbaa.Cf
open Go.RowKit
attribute [local go_sem] Oper.semAt_some
set_option linter.unusedVariables false

/-- The bounds that Check asks first. -/
def Bd (c : C) : Prop := In c ∧ c.code < 256 ∧ (0 ≤ c.k ∧ c.k ≤ 255) ∧ (0 ≤ c.d ∧ c.d ≤ 255) ∧ (0 ≤ c.r ∧ c.r ≤ 255) ∧ (0 ≤ c.w ∧ c.w ≤ c.n)
/-- What the definition's kind says: a shape and whether it counts. -/
def KRes (c : C) (w : World) (e : Ending) (w' : World) : Prop :=
  ∃ (a b s q l : Int) (ok : Bool), e = .returned (.tuple #[.agg #[.int .i64 a, .int .i64 b, .int .i64 s, .int .i64 q, .int .i64 l], .bool ok]) ∧ (ok = true → kind c = some ⟨a, b, s, q⟩ ∧ l = 1) ∧ (ok = false → chk c = none) ∧ Below w.heap.size w w'
theorem chk_none {c : C} (h : kind c = none) : chk c = none := by
  unfold chk shp
  by_cases hi : In c
  · rw [if_pos hi, h]
  · rw [if_neg hi]
theorem lo_good {c : C} {s : Sh} (h : chk c = some s) (hc : c.code = 5) : R12.Good c.n c.k c.r := by
  obtain ⟨hi, hk, hf⟩ := chk_some h
  unfold In at hi
  unfold Fit at hf
  rcases kind_some hk with ⟨e, hg, rfl⟩ | ⟨e, hg, rfl⟩ | ⟨e, hg, rfl⟩ | ⟨e, hg, rfl⟩ | ⟨e, hg, rfl⟩
  · omega
  · omega
  · omega
  · omega
  · unfold GLo at hg
    dsimp only at hf
    obtain ⟨g1, g2, g3, g4, g5, g6, g7, g8⟩ := hg
    exact ⟨g1, by omega, Int.dvd_of_emod_eq_zero g4, Int.dvd_of_emod_eq_zero g3, by omega, g5, Int.dvd_of_emod_eq_zero g7, by omega⟩
theorem good_lo {c : C} (hi : In c) (hg : R12.Good c.n c.k c.r) (hd : c.d = 0) : GLo c := by
  obtain ⟨g1, g2, g3, g4, g5, g6, g7, g8⟩ := hg
  unfold In at hi
  have h1 : c.r + 1 ≤ c.n := Int.le_of_dvd (by omega) g4
  have h2 : c.r ≤ c.k := Int.le_of_dvd (by omega) g7
  have h3 : 1 ≤ c.k / c.r := Int.le_ediv_of_mul_le (by omega) (by omega)
  exact ⟨g1, by omega, Int.emod_eq_zero_of_dvd g4, Int.emod_eq_zero_of_dvd g3, g6, by omega, Int.emod_eq_zero_of_dvd g7, hd⟩
set_option maxRecDepth 100000 in
set_option maxHeartbeats 6400000 in
theorem rkind_1 (c : C) (hbd : Bd c) (hcode : c.code = 1) (w : World) : Calls Try.prog 30 #[.agg (cV c)] w (KRes c w) := by
  have HN : Hid (¬ GReed c → chk c = none) := Lib.hid fun h => chk_none (by unfold kind kReed;  rw [if_pos hcode, if_neg h])
  have HY : Hid (GReed c → kind c = some ⟨1, c.k, c.k, c.k + 2 * c.t⟩) := Lib.hid fun h => kind1 hcode h
  obtain ⟨code, n, k, d, r, t, ww⟩ := c
  obtain ⟨⟨bn1, bn2, bt1, bt2⟩, bc, ⟨bk1, bk2⟩, ⟨bd1, bd2⟩, ⟨br1, br2⟩, bw⟩ := hbd
  dsimp only at hcode bn1 bn2 bt1 bt2 bc bk1 bk2 bd1 bd2 br1 br2 bw
  clear bc bw
  obtain ⟨U, hU⟩ : ∃ V, w.alloc (.cells #[.int .u8 (code : Nat), .int .i64 n, .int .i64 k, .int .i64 d, .int .i64 r, .int .i64 t, .int .i64 ww] 23) = V := ⟨_, rfl⟩
  obtain ⟨V, hV⟩ : ∃ V, U.alloc (.cells #[.int .i64 0, .int .i64 0, .int .i64 0, .int .i64 0, .int .i64 0] 29) = V := ⟨_, rfl⟩
  have hus : U.heap.size = w.heap.size + 1 := by rw [← hU, World.size_alloc]
  have hbc : Block V w.heap.size 23 #[.int .u8 (code : Nat), .int .i64 n, .int .i64 k, .int .i64 d, .int .i64 r, .int .i64 t, .int .i64 ww] := by rw [← hV, ← hU]; exact (Block.new w _ _).alloc _
  have hbr : Block V (w.heap.size + 1) 29 #[.int .i64 0, .int .i64 0, .int .i64 0, .int .i64 0, .int .i64 0] := by rw [← hus, ← hV]; exact Block.new U _ _
  have hbel : Below w.heap.size w V := by rw [← hV]; exact (by rw [← hU]; exact (Below.refl _ _).alloc (Nat.le_refl _) _ : Below w.heap.size w U).alloc (by omega) _
  have x0 : V.cell? ⟨w.heap.size, 0, none⟩ = some (.int .u8 (code : Nat)) := hbc.cell 0
  unfold cV
  dsimp only at HN HY ⊢
  have hmx : Try.prog.follows .mixedOrders = true := by kernel_rfl
  have g1 : ((code : Int) == 1) = true := by simp; omega
  clear hcode
  have X1 := cell_regrown (show V.cell? ⟨w.heap.size, 1, none⟩ = some (.int .i64 n) from hbc.cell 1)
  have X2 := cell_regrown (show V.cell? ⟨w.heap.size, 2, none⟩ = some (.int .i64 k) from hbc.cell 2)
  have X3 := cell_regrown (show V.cell? ⟨w.heap.size, 3, none⟩ = some (.int .i64 d) from hbc.cell 3)
  have X4 := cell_regrown (show V.cell? ⟨w.heap.size, 4, none⟩ = some (.int .i64 r) from hbc.cell 4)
  have X5 := cell_regrown (show V.cell? ⟨w.heap.size, 5, none⟩ = some (.int .i64 t) from hbc.cell 5)
  have HR := Lib.hid hbr
  have HB := Lib.hid hbel
  have HCd := Lib.hid hbc.drew
  have HRd := Lib.hid hbr.drew
  have HBd := Lib.hid hbel.drew
  clear hbc hbr hbel
  have w1 : IntKind.i64.wrap (2 * t) = 2 * t := i64w (by omega) (by omega)
  have w2 : IntKind.i64.wrap (k + 2 * t) = k + 2 * t := i64w (by omega) (by omega)
  by_cases h1 : 1 ≤ k
  rotate_left
  · have HZ := Lib.hid (HN.out fun hg => h1 hg.1)
    have d1 : decide (1 ≤ k) = false := decide_eq_false h1
    clear HN HY h1
    go_enter Try.func30, Try.ntmps30
    go_wp2_with fail
    clear hU hV hus
    refine QT.wp_region_float 27 31 hmx (fun _ _ d _ _ h => by cases d <;> exact h) (by kernel_rfl) rfl ?_
    simp only [List.take_succ_cons, List.take_zero, List.drop_succ_cons, List.drop_zero]
    repeat (go_big_quiet_step (fail))
    refine wpQuiet_nil ?_
    refine ⟨undef, .inr ⟨by kernel_rfl, rfl⟩, ?_⟩
    (try simp only [Act.put, List.setIfInBounds_toArray, List.set_cons_zero, List.set_cons_succ])
    refine ⟨undef, .inr ⟨by kernel_rfl, rfl⟩, ?_⟩
    (try simp only [Act.put, List.setIfInBounds_toArray, List.set_cons_zero, List.set_cons_succ])
    refine ⟨undef, .inr ⟨by kernel_rfl, rfl⟩, ?_⟩
    (try simp only [Act.put, List.setIfInBounds_toArray, List.set_cons_zero, List.set_cons_succ])
    refine ⟨.bool false, .inl ⟨by kernel_rfl, fun _ => by go_simp⟩, ?_⟩
    (try simp only [Act.put, List.setIfInBounds_toArray, List.set_cons_zero, List.set_cons_succ])
    intro _ hw'
    obtain ⟨⟨dq, osq⟩, hw''⟩ := hw'
    subst hw''
    have hRq := HR.out.below (below_regrown V dq osq) HR.out.lt
    have hBq := HB.out.trans ((below_regrown V dq osq).mono HB.out.size)
    dsimp only
    generalize Sort.grow (redrawn V dq) osq = wq at *
    clear X1 X2 X3 X4 X5
    have y0 := hRq.cell 0
    have f0 := hRq.frozen 0
    have y1 := hRq.cell 1
    have f1 := hRq.frozen 1
    have y2 := hRq.cell 2
    have f2 := hRq.frozen 2
    have y3 := hRq.cell 3
    have f3 := hRq.frozen 3
    have y4 := hRq.cell 4
    have f4 := hRq.frozen 4
    have HRq := Lib.hid hRq
    have HBq := Lib.hid hBq
    clear hRq hBq
    go_wp2
    obtain ⟨W, hW, hP, hBW⟩ := put5' HBq.out (by omega) HRq.out (.int .i64 1) (.int .i64 k) (.int .i64 k) (.int .i64 (k + 2 * t)) (.int .i64 1)
    rw [hW]
    have p0 := hP.cell 0
    have p1 := hP.cell 1
    have p2 := hP.cell 2
    have p3 := hP.cell 3
    have p4 := hP.cell 4
    refine bodyPost_ret (v := .tuple #[.agg #[.int .i64 1, .int .i64 k, .int .i64 k, .int .i64 (k + 2 * t), .int .i64 1], .bool false]) (by simp [results, Try.results30, go_sem, p0, p1, p2, p3, p4]) rfl ?_
    exact ⟨_, _, _, _, _, _, rfl, (fun h => by cases h), (fun _ => HZ.out), hBW⟩
  have d1 : decide (1 ≤ k) = true := decide_eq_true h1
  have H1 := Lib.hid h1
  clear h1
  by_cases h2 : k ≤ n
  rotate_left
  · have HZ := Lib.hid (HN.out fun hg => h2 hg.2.1)
    have d2 : decide (k ≤ n) = false := decide_eq_false h2
    clear HN HY h2
    go_enter Try.func30, Try.ntmps30
    go_wp2_with fail
    clear hU hV hus
    refine QT.wp_region_float 27 31 hmx (fun _ _ d _ _ h => by cases d <;> exact h) (by kernel_rfl) rfl ?_
    simp only [List.take_succ_cons, List.take_zero, List.drop_succ_cons, List.drop_zero]
    repeat (go_big_quiet_step (fail))
    refine wpQuiet_nil ?_
    refine ⟨undef, .inr ⟨by kernel_rfl, rfl⟩, ?_⟩
    (try simp only [Act.put, List.setIfInBounds_toArray, List.set_cons_zero, List.set_cons_succ])
    refine ⟨undef, .inr ⟨by kernel_rfl, rfl⟩, ?_⟩
    (try simp only [Act.put, List.setIfInBounds_toArray, List.set_cons_zero, List.set_cons_succ])
    refine ⟨undef, .inr ⟨by kernel_rfl, rfl⟩, ?_⟩
    (try simp only [Act.put, List.setIfInBounds_toArray, List.set_cons_zero, List.set_cons_succ])
    refine ⟨.bool false, .inl ⟨by kernel_rfl, fun _ => by go_simp⟩, ?_⟩
    (try simp only [Act.put, List.setIfInBounds_toArray, List.set_cons_zero, List.set_cons_succ])
    intro _ hw'
    obtain ⟨⟨dq, osq⟩, hw''⟩ := hw'
    subst hw''
    have hRq := HR.out.below (below_regrown V dq osq) HR.out.lt
    have hBq := HB.out.trans ((below_regrown V dq osq).mono HB.out.size)
    dsimp only
    generalize Sort.grow (redrawn V dq) osq = wq at *
    clear X1 X2 X3 X4 X5
    have y0 := hRq.cell 0
    have f0 := hRq.frozen 0
    have y1 := hRq.cell 1
    have f1 := hRq.frozen 1
    have y2 := hRq.cell 2
    have f2 := hRq.frozen 2
    have y3 := hRq.cell 3
    have f3 := hRq.frozen 3
    have y4 := hRq.cell 4
    have f4 := hRq.frozen 4
    have HRq := Lib.hid hRq
    have HBq := Lib.hid hBq
    clear hRq hBq
    go_wp2
    obtain ⟨W, hW, hP, hBW⟩ := put5' HBq.out (by omega) HRq.out (.int .i64 1) (.int .i64 k) (.int .i64 k) (.int .i64 (k + 2 * t)) (.int .i64 1)
    rw [hW]
    have p0 := hP.cell 0
    have p1 := hP.cell 1
    have p2 := hP.cell 2
    have p3 := hP.cell 3
    have p4 := hP.cell 4
    refine bodyPost_ret (v := .tuple #[.agg #[.int .i64 1, .int .i64 k, .int .i64 k, .int .i64 (k + 2 * t), .int .i64 1], .bool false]) (by simp [results, Try.results30, go_sem, p0, p1, p2, p3, p4]) rfl ?_
    exact ⟨_, _, _, _, _, _, rfl, (fun h => by cases h), (fun _ => HZ.out), hBW⟩
  have d2 : decide (k ≤ n) = true := decide_eq_true h2
  have H2 := Lib.hid h2
  clear h2
  by_cases h3 : d = 0
  rotate_left
  · have HZ := Lib.hid (HN.out fun hg => h3 hg.2.2.1)
    have d3 : (d == 0) = false := by simpa using h3
    clear HN HY h3
    go_enter Try.func30, Try.ntmps30
    go_wp2_with fail
    clear hU hV hus
    refine QT.wp_region_float 27 31 hmx (fun _ _ d _ _ h => by cases d <;> exact h) (by kernel_rfl) rfl ?_
    simp only [List.take_succ_cons, List.take_zero, List.drop_succ_cons, List.drop_zero]
    repeat (go_big_quiet_step (fail))
    refine wpQuiet_nil ?_
    refine ⟨undef, .inr ⟨by kernel_rfl, rfl⟩, ?_⟩
    (try simp only [Act.put, List.setIfInBounds_toArray, List.set_cons_zero, List.set_cons_succ])
    refine ⟨undef, .inr ⟨by kernel_rfl, rfl⟩, ?_⟩
    (try simp only [Act.put, List.setIfInBounds_toArray, List.set_cons_zero, List.set_cons_succ])
    refine ⟨undef, .inr ⟨by kernel_rfl, rfl⟩, ?_⟩
    (try simp only [Act.put, List.setIfInBounds_toArray, List.set_cons_zero, List.set_cons_succ])
    refine ⟨.bool false, .inl ⟨by kernel_rfl, fun _ => by go_simp⟩, ?_⟩
    (try simp only [Act.put, List.setIfInBounds_toArray, List.set_cons_zero, List.set_cons_succ])
    intro _ hw'
    obtain ⟨⟨dq, osq⟩, hw''⟩ := hw'
    subst hw''
    have hRq := HR.out.below (below_regrown V dq osq) HR.out.lt
    have hBq := HB.out.trans ((below_regrown V dq osq).mono HB.out.size)
    dsimp only
    generalize Sort.grow (redrawn V dq) osq = wq at *
    clear X1 X2 X3 X4 X5
    have y0 := hRq.cell 0
    have f0 := hRq.frozen 0
    have y1 := hRq.cell 1
    have f1 := hRq.frozen 1
    have y2 := hRq.cell 2
    have f2 := hRq.frozen 2
    have y3 := hRq.cell 3
    have f3 := hRq.frozen 3
    have y4 := hRq.cell 4
    have f4 := hRq.frozen 4
    have HRq := Lib.hid hRq
    have HBq := Lib.hid hBq
    clear hRq hBq
    go_wp2
    obtain ⟨W, hW, hP, hBW⟩ := put5' HBq.out (by omega) HRq.out (.int .i64 1) (.int .i64 k) (.int .i64 k) (.int .i64 (k + 2 * t)) (.int .i64 1)
    rw [hW]
    have p0 := hP.cell 0
    have p1 := hP.cell 1
    have p2 := hP.cell 2
    have p3 := hP.cell 3
    have p4 := hP.cell 4
    refine bodyPost_ret (v := .tuple #[.agg #[.int .i64 1, .int .i64 k, .int .i64 k, .int .i64 (k + 2 * t), .int .i64 1], .bool false]) (by simp [results, Try.results30, go_sem, p0, p1, p2, p3, p4]) rfl ?_
    exact ⟨_, _, _, _, _, _, rfl, (fun h => by cases h), (fun _ => HZ.out), hBW⟩
  have d3 : (d == 0) = true := by simpa using h3
  have H3 := Lib.hid h3
  clear h3
  by_cases h4 : r = 0
  rotate_left
  · have HZ := Lib.hid (HN.out fun hg => h4 hg.2.2.2)
    have d4 : (r == 0) = false := by simpa using h4
    clear HN HY h4
    have HSc : Hid ((fun X => X.cell? ⟨w.heap.size, 1, none⟩ = some (.int .i64 n) ∧ X.cell? ⟨w.heap.size, 2, none⟩ = some (.int .i64 k) ∧ X.cell? ⟨w.heap.size, 3, none⟩ = some (.int .i64 d) ∧ X.cell? ⟨w.heap.size, 4, none⟩ = some (.int .i64 r) ∧ X.cell? ⟨w.heap.size, 5, none⟩ = some (.int .i64 t)) V.drew) := Lib.hid ⟨HCd.out.cell 1, HCd.out.cell 2, HCd.out.cell 3, HCd.out.cell 4, HCd.out.cell 5⟩
    clear X1 X2 X3 X4 X5 HR HB HCd HRd HBd hus
    subst hV hU
    go_enter Try.func30, Try.ntmps30
    go_wp2_with fail
    go_region_held (fun X => X.cell? ⟨w.heap.size, 1, none⟩ = some (.int .i64 n) ∧ X.cell? ⟨w.heap.size, 2, none⟩ = some (.int .i64 k) ∧ X.cell? ⟨w.heap.size, 3, none⟩ = some (.int .i64 d) ∧ X.cell? ⟨w.heap.size, 4, none⟩ = some (.int .i64 r) ∧ X.cell? ⟨w.heap.size, 5, none⟩ = some (.int .i64 t)) (first | (with_reducible exact HSc.out) | (go_keep)) (fail)
    go_wp2
    refine bodyPost_ret (v := .tuple #[.agg #[.int .i64 1, .int .i64 k, .int .i64 k, .int .i64 (k + 2 * t), .int .i64 1], .bool false]) (by simp [results, Try.results30, go_sem]) rfl ?_
    exact ⟨_, _, _, _, _, _, rfl, (fun h => by cases h), (fun _ => HZ.out), (((Below.refl w.heap.size w).alloc (Nat.le_refl _) _).alloc (by rw [World.size_alloc]; omega) _).drew⟩
  have d4 : (r == 0) = true := by simpa using h4
  have H4 := Lib.hid h4
  clear h4
  have HZ := Lib.hid (HY.out ⟨H1.out, H2.out, H3.out, H4.out⟩)
  clear HN HY
  have HSc : Hid ((fun X => X.cell? ⟨w.heap.size, 1, none⟩ = some (.int .i64 n) ∧ X.cell? ⟨w.heap.size, 2, none⟩ = some (.int .i64 k) ∧ X.cell? ⟨w.heap.size, 3, none⟩ = some (.int .i64 d) ∧ X.cell? ⟨w.heap.size, 4, none⟩ = some (.int .i64 r) ∧ X.cell? ⟨w.heap.size, 5, none⟩ = some (.int .i64 t)) V.drew) := Lib.hid ⟨HCd.out.cell 1, HCd.out.cell 2, HCd.out.cell 3, HCd.out.cell 4, HCd.out.cell 5⟩
  clear X1 X2 X3 X4 X5 HR HB HCd HRd HBd hus
  subst hV hU
  go_enter Try.func30, Try.ntmps30
  go_wp2_with fail
  go_region_held (fun X => X.cell? ⟨w.heap.size, 1, none⟩ = some (.int .i64 n) ∧ X.cell? ⟨w.heap.size, 2, none⟩ = some (.int .i64 k) ∧ X.cell? ⟨w.heap.size, 3, none⟩ = some (.int .i64 d) ∧ X.cell? ⟨w.heap.size, 4, none⟩ = some (.int .i64 r) ∧ X.cell? ⟨w.heap.size, 5, none⟩ = some (.int .i64 t)) (first | (with_reducible exact HSc.out) | (go_keep)) (fail)
  go_wp2
  refine bodyPost_ret (v := .tuple #[.agg #[.int .i64 1, .int .i64 k, .int .i64 k, .int .i64 (k + 2 * t), .int .i64 1], .bool true]) (by simp [results, Try.results30, go_sem]) rfl ?_
  exact ⟨_, _, _, _, _, _, rfl, (fun _ => ⟨HZ.out, rfl⟩), (fun h => by cases h), (((Below.refl w.heap.size w).alloc (Nat.le_refl _) _).alloc (by rw [World.size_alloc]; omega) _).drew⟩
end Go.Proofs.Ytikfjbomogekbaa.Cf
