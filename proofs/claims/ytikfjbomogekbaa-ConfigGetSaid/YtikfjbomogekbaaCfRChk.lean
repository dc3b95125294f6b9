/- The definition of valid codes: Check. -/
import Derived.Test.YtikfjbomogekbaaCfKind5
namespace Go.Proofs.Ytikfjbomogekbaa.Cf
open Go.RowKit
attribute [local go_sem] Oper.semAt_some
set_option linter.unusedVariables false

set_option maxRecDepth 100000 in
set_option maxHeartbeats 6400000 in
theorem rcheck_calls (c : C) (hok : c.Ok) (w : World) : Calls Try.prog 9 #[.agg (cV c)] w fun e w' => e = .returned (.tuple #[sV (chk c), .int .i64 (eZ (chk c))]) ∧ Below w.heap.size w w' := by
  have HN : Hid ((∀ s, chk c = some s → False) → chk c = none) := Lib.hid fun h => by
    cases hc : chk c with
    | none => rfl
    | some s => exact absurd hc (fun e => h s e)
  have HBy : Hid (∀ s, chk c = some s → ((1 ≤ c.n ∧ c.n ≤ 255) ∧ (1 ≤ c.k ∧ c.k ≤ 255) ∧ (0 ≤ c.d ∧ c.d ≤ 255) ∧ (0 ≤ c.r ∧ c.r ≤ 255) ∧ (0 ≤ c.t ∧ c.t ≤ 127) ∧ (1 ≤ c.w ∧ c.w ≤ 255)) ∧ c.w ≤ c.n) := Lib.hid fun s h => ⟨chk_bytes h, (chk_pos h).2.2.2.2.2.2⟩
  have HCh : Hid (∀ s, In c → kind c = some s → chk c = if Fit c s then some s else none) := Lib.hid fun s hi hk => by unfold chk shp; rw [if_pos hi, hk]
  have HBd : Hid (∀ s, In c → kind c = some s → 1 ≤ s.a ∧ 0 ≤ s.s ∧ s.s ≤ 1000 ∧ 0 ≤ s.o ∧ s.o ≤ 2000) := Lib.hid fun s hi hk => kind_bd hi hk
  have HK : Hid (Bd c → ∀ X : World, Calls Try.prog 30 #[.agg (cV c)] X (KRes c X)) := Lib.hid fun h X => rkind_calls c h X
  obtain ⟨R, hR⟩ : ∃ R, chk c = R := ⟨_, rfl⟩
  rw [hR]
  have HR0 := Lib.hid hR
  clear hR
  obtain ⟨code, n, k, d, r, t, ww⟩ := c
  obtain ⟨U, hU⟩ : ∃ V, w.alloc (.cells #[.int .u8 (code : Nat), .int .i64 n, .int .i64 k, .int .i64 d, .int .i64 r, .int .i64 t, .int .i64 ww] 23) = V := ⟨_, rfl⟩
  obtain ⟨V, hV⟩ : ∃ V, U.alloc (.cells #[.int .i64 0, .int .i64 0, .int .i64 0, .int .i64 0, .int .i64 0] 29) = V := ⟨_, rfl⟩
  have hus : U.heap.size = w.heap.size + 1 := by rw [← hU, World.size_alloc]
  have hbc : Block V w.heap.size 23 #[.int .u8 (code : Nat), .int .i64 n, .int .i64 k, .int .i64 d, .int .i64 r, .int .i64 t, .int .i64 ww] := by rw [← hV, ← hU]; exact (Block.new w _ _).alloc _
  have hbr : Block V (w.heap.size + 1) 29 #[.int .i64 0, .int .i64 0, .int .i64 0, .int .i64 0, .int .i64 0] := by rw [← hus, ← hV]; exact Block.new U _ _
  have hbel : Below w.heap.size w V := by rw [← hV]; exact (by rw [← hU]; exact (Below.refl _ _).alloc (Nat.le_refl _) _ : Below w.heap.size w U).alloc (by omega) _
  have x0 : V.cell? ⟨w.heap.size, 0, none⟩ = some (.int .u8 (code : Nat)) := hbc.cell 0
  have x1 : V.cell? ⟨w.heap.size, 1, none⟩ = some (.int .i64 n) := hbc.cell 1
  have x2 : V.cell? ⟨w.heap.size, 2, none⟩ = some (.int .i64 k) := hbc.cell 2
  have x3 : V.cell? ⟨w.heap.size, 3, none⟩ = some (.int .i64 d) := hbc.cell 3
  have x4 : V.cell? ⟨w.heap.size, 4, none⟩ = some (.int .i64 r) := hbc.cell 4
  have x5 : V.cell? ⟨w.heap.size, 5, none⟩ = some (.int .i64 t) := hbc.cell 5
  have x6 : V.cell? ⟨w.heap.size, 6, none⟩ = some (.int .i64 ww) := hbc.cell 6
  have y0 := hbr.cell 0
  have f0 := hbr.frozen 0
  have y1 := hbr.cell 1
  have f1 := hbr.frozen 1
  have y2 := hbr.cell 2
  have f2 := hbr.frozen 2
  have y3 := hbr.cell 3
  have f3 := hbr.frozen 3
  have y4 := hbr.cell 4
  have f4 := hbr.frozen 4
  have HC := Lib.hid hbc
  have HR := Lib.hid hbr
  have HB := Lib.hid hbel
  clear hbc hbr hbel
  unfold C.Ok at hok
  dsimp only at hok HBy
  unfold cV at HK ⊢
  dsimp only at HK ⊢
  by_cases h1 : n < 1
  · have HZ : Hid (R = none) := Lib.hid (by rw [← HR0.out]; exact HN.out fun s hs => by have := HBy.out s hs; omega)
    have d1 : decide (n < 1) = true := decide_eq_true h1
    clear h1
    go_enter Try.func9, Try.ntmps9
    go_wp2_with fail
    obtain ⟨W, hW, hP, hBW⟩ := put5' HB.out (by omega) HR.out (.int .i64 0) (.int .i64 0) (.int .i64 0) (.int .i64 0) (.int .i64 0)
    rw [hW]
    have hP2 := hP
    have hB2 := hBW
    have p0 := hP2.cell 0
    have p1 := hP2.cell 1
    have p2 := hP2.cell 2
    have p3 := hP2.cell 3
    have p4 := hP2.cell 4
    refine bodyPost_ret (v := .tuple #[.agg #[.int .i64 0, .int .i64 0, .int .i64 0, .int .i64 0, .int .i64 0], .int .i64 130]) (by simp [results, Try.results9, go_sem, p0, p1, p2, p3, p4]) rfl ?_
    exact ⟨by rw [HZ.out]; rfl, hB2⟩
  have d1 : decide (n < 1) = false := decide_eq_false h1
  by_cases h2 : 255 < n
  · have HZ : Hid (R = none) := Lib.hid (by rw [← HR0.out]; exact HN.out fun s hs => by have := HBy.out s hs; omega)
    have d2 : decide (255 < n) = true := decide_eq_true h2
    clear h2
    go_enter Try.func9, Try.ntmps9
    go_wp2_with fail
    obtain ⟨W, hW, hP, hBW⟩ := put5' HB.out (by omega) HR.out (.int .i64 0) (.int .i64 0) (.int .i64 0) (.int .i64 0) (.int .i64 0)
    rw [hW]
    have hP2 := hP
    have hB2 := hBW
    have p0 := hP2.cell 0
    have p1 := hP2.cell 1
    have p2 := hP2.cell 2
    have p3 := hP2.cell 3
    have p4 := hP2.cell 4
    refine bodyPost_ret (v := .tuple #[.agg #[.int .i64 0, .int .i64 0, .int .i64 0, .int .i64 0, .int .i64 0], .int .i64 130]) (by simp [results, Try.results9, go_sem, p0, p1, p2, p3, p4]) rfl ?_
    exact ⟨by rw [HZ.out]; rfl, hB2⟩
  have d2 : decide (255 < n) = false := decide_eq_false h2
  by_cases h3 : t < 0
  · have HZ : Hid (R = none) := Lib.hid (by rw [← HR0.out]; exact HN.out fun s hs => by have := HBy.out s hs; omega)
    have d3 : decide (t < 0) = true := decide_eq_true h3
    clear h3
    go_enter Try.func9, Try.ntmps9
    go_wp2_with fail
    obtain ⟨W, hW, hP, hBW⟩ := put5' HB.out (by omega) HR.out (.int .i64 0) (.int .i64 0) (.int .i64 0) (.int .i64 0) (.int .i64 0)
    rw [hW]
    have hP2 := hP
    have hB2 := hBW
    have p0 := hP2.cell 0
    have p1 := hP2.cell 1
    have p2 := hP2.cell 2
    have p3 := hP2.cell 3
    have p4 := hP2.cell 4
    refine bodyPost_ret (v := .tuple #[.agg #[.int .i64 0, .int .i64 0, .int .i64 0, .int .i64 0, .int .i64 0], .int .i64 130]) (by simp [results, Try.results9, go_sem, p0, p1, p2, p3, p4]) rfl ?_
    exact ⟨by rw [HZ.out]; rfl, hB2⟩
  have d3 : decide (t < 0) = false := decide_eq_false h3
  by_cases h4 : 127 < t
  · have HZ : Hid (R = none) := Lib.hid (by rw [← HR0.out]; exact HN.out fun s hs => by have := HBy.out s hs; omega)
    have d4 : decide (127 < t) = true := decide_eq_true h4
    clear h4
    go_enter Try.func9, Try.ntmps9
    go_wp2_with fail
    obtain ⟨W, hW, hP, hBW⟩ := put5' HB.out (by omega) HR.out (.int .i64 0) (.int .i64 0) (.int .i64 0) (.int .i64 0) (.int .i64 0)
    rw [hW]
    have hP2 := hP
    have hB2 := hBW
    have p0 := hP2.cell 0
    have p1 := hP2.cell 1
    have p2 := hP2.cell 2
    have p3 := hP2.cell 3
    have p4 := hP2.cell 4
    refine bodyPost_ret (v := .tuple #[.agg #[.int .i64 0, .int .i64 0, .int .i64 0, .int .i64 0, .int .i64 0], .int .i64 130]) (by simp [results, Try.results9, go_sem, p0, p1, p2, p3, p4]) rfl ?_
    exact ⟨by rw [HZ.out]; rfl, hB2⟩
  have d4 : decide (127 < t) = false := decide_eq_false h4
  by_cases h5 : ww < 0
  · have HZ : Hid (R = none) := Lib.hid (by rw [← HR0.out]; exact HN.out fun s hs => by have := HBy.out s hs; omega)
    have d5 : decide (ww < 0) = true := decide_eq_true h5
    clear h5
    go_enter Try.func9, Try.ntmps9
    go_wp2_with fail
    obtain ⟨W, hW, hP, hBW⟩ := put5' HB.out (by omega) HR.out (.int .i64 0) (.int .i64 0) (.int .i64 0) (.int .i64 0) (.int .i64 0)
    rw [hW]
    have hP2 := hP
    have hB2 := hBW
    have p0 := hP2.cell 0
    have p1 := hP2.cell 1
    have p2 := hP2.cell 2
    have p3 := hP2.cell 3
    have p4 := hP2.cell 4
    refine bodyPost_ret (v := .tuple #[.agg #[.int .i64 0, .int .i64 0, .int .i64 0, .int .i64 0, .int .i64 0], .int .i64 130]) (by simp [results, Try.results9, go_sem, p0, p1, p2, p3, p4]) rfl ?_
    exact ⟨by rw [HZ.out]; rfl, hB2⟩
  have d5 : decide (ww < 0) = false := decide_eq_false h5
  by_cases h6 : n < ww
  · have HZ : Hid (R = none) := Lib.hid (by rw [← HR0.out]; exact HN.out fun s hs => by have := HBy.out s hs; omega)
    have d6 : decide (n < ww) = true := decide_eq_true h6
    clear h6
    go_enter Try.func9, Try.ntmps9
    go_wp2_with fail
    obtain ⟨W, hW, hP, hBW⟩ := put5' HB.out (by omega) HR.out (.int .i64 0) (.int .i64 0) (.int .i64 0) (.int .i64 0) (.int .i64 0)
    rw [hW]
    have hP2 := hP
    have hB2 := hBW
    have p0 := hP2.cell 0
    have p1 := hP2.cell 1
    have p2 := hP2.cell 2
    have p3 := hP2.cell 3
    have p4 := hP2.cell 4
    refine bodyPost_ret (v := .tuple #[.agg #[.int .i64 0, .int .i64 0, .int .i64 0, .int .i64 0, .int .i64 0], .int .i64 130]) (by simp [results, Try.results9, go_sem, p0, p1, p2, p3, p4]) rfl ?_
    exact ⟨by rw [HZ.out]; rfl, hB2⟩
  have d6 : decide (n < ww) = false := decide_eq_false h6
  by_cases h7 : k < 0
  · have HZ : Hid (R = none) := Lib.hid (by rw [← HR0.out]; exact HN.out fun s hs => by have := HBy.out s hs; omega)
    have d7 : decide (k < 0) = true := decide_eq_true h7
    clear h7
    go_enter Try.func9, Try.ntmps9
    go_wp2_with fail
    obtain ⟨W, hW, hP, hBW⟩ := put5' HB.out (by omega) HR.out (.int .i64 0) (.int .i64 0) (.int .i64 0) (.int .i64 0) (.int .i64 0)
    rw [hW]
    have hP2 := hP
    have hB2 := hBW
    have p0 := hP2.cell 0
    have p1 := hP2.cell 1
    have p2 := hP2.cell 2
    have p3 := hP2.cell 3
    have p4 := hP2.cell 4
    refine bodyPost_ret (v := .tuple #[.agg #[.int .i64 0, .int .i64 0, .int .i64 0, .int .i64 0, .int .i64 0], .int .i64 130]) (by simp [results, Try.results9, go_sem, p0, p1, p2, p3, p4]) rfl ?_
    exact ⟨by rw [HZ.out]; rfl, hB2⟩
  have d7 : decide (k < 0) = false := decide_eq_false h7
  by_cases h8 : 255 < k
  · have HZ : Hid (R = none) := Lib.hid (by rw [← HR0.out]; exact HN.out fun s hs => by have := HBy.out s hs; omega)
    have d8 : decide (255 < k) = true := decide_eq_true h8
    clear h8
    go_enter Try.func9, Try.ntmps9
    go_wp2_with fail
    obtain ⟨W, hW, hP, hBW⟩ := put5' HB.out (by omega) HR.out (.int .i64 0) (.int .i64 0) (.int .i64 0) (.int .i64 0) (.int .i64 0)
    rw [hW]
    have hP2 := hP
    have hB2 := hBW
    have p0 := hP2.cell 0
    have p1 := hP2.cell 1
    have p2 := hP2.cell 2
    have p3 := hP2.cell 3
    have p4 := hP2.cell 4
    refine bodyPost_ret (v := .tuple #[.agg #[.int .i64 0, .int .i64 0, .int .i64 0, .int .i64 0, .int .i64 0], .int .i64 130]) (by simp [results, Try.results9, go_sem, p0, p1, p2, p3, p4]) rfl ?_
    exact ⟨by rw [HZ.out]; rfl, hB2⟩
  have d8 : decide (255 < k) = false := decide_eq_false h8
  by_cases h9 : d < 0
  · have HZ : Hid (R = none) := Lib.hid (by rw [← HR0.out]; exact HN.out fun s hs => by have := HBy.out s hs; omega)
    have d9 : decide (d < 0) = true := decide_eq_true h9
    clear h9
    go_enter Try.func9, Try.ntmps9
    go_wp2_with fail
    obtain ⟨W, hW, hP, hBW⟩ := put5' HB.out (by omega) HR.out (.int .i64 0) (.int .i64 0) (.int .i64 0) (.int .i64 0) (.int .i64 0)
    rw [hW]
    have hP2 := hP
    have hB2 := hBW
    have p0 := hP2.cell 0
    have p1 := hP2.cell 1
    have p2 := hP2.cell 2
    have p3 := hP2.cell 3
    have p4 := hP2.cell 4
    refine bodyPost_ret (v := .tuple #[.agg #[.int .i64 0, .int .i64 0, .int .i64 0, .int .i64 0, .int .i64 0], .int .i64 130]) (by simp [results, Try.results9, go_sem, p0, p1, p2, p3, p4]) rfl ?_
    exact ⟨by rw [HZ.out]; rfl, hB2⟩
  have d9 : decide (d < 0) = false := decide_eq_false h9
  by_cases h10 : 255 < d
  · have HZ : Hid (R = none) := Lib.hid (by rw [← HR0.out]; exact HN.out fun s hs => by have := HBy.out s hs; omega)
    have d10 : decide (255 < d) = true := decide_eq_true h10
    clear h10
    go_enter Try.func9, Try.ntmps9
    go_wp2_with fail
    obtain ⟨W, hW, hP, hBW⟩ := put5' HB.out (by omega) HR.out (.int .i64 0) (.int .i64 0) (.int .i64 0) (.int .i64 0) (.int .i64 0)
    rw [hW]
    have hP2 := hP
    have hB2 := hBW
    have p0 := hP2.cell 0
    have p1 := hP2.cell 1
    have p2 := hP2.cell 2
    have p3 := hP2.cell 3
    have p4 := hP2.cell 4
    refine bodyPost_ret (v := .tuple #[.agg #[.int .i64 0, .int .i64 0, .int .i64 0, .int .i64 0, .int .i64 0], .int .i64 130]) (by simp [results, Try.results9, go_sem, p0, p1, p2, p3, p4]) rfl ?_
    exact ⟨by rw [HZ.out]; rfl, hB2⟩
  have d10 : decide (255 < d) = false := decide_eq_false h10
  by_cases h11 : r < 0
  · have HZ : Hid (R = none) := Lib.hid (by rw [← HR0.out]; exact HN.out fun s hs => by have := HBy.out s hs; omega)
    have d11 : decide (r < 0) = true := decide_eq_true h11
    clear h11
    go_enter Try.func9, Try.ntmps9
    go_wp2_with fail
    obtain ⟨W, hW, hP, hBW⟩ := put5' HB.out (by omega) HR.out (.int .i64 0) (.int .i64 0) (.int .i64 0) (.int .i64 0) (.int .i64 0)
    rw [hW]
    have hP2 := hP
    have hB2 := hBW
    have p0 := hP2.cell 0
    have p1 := hP2.cell 1
    have p2 := hP2.cell 2
    have p3 := hP2.cell 3
    have p4 := hP2.cell 4
    refine bodyPost_ret (v := .tuple #[.agg #[.int .i64 0, .int .i64 0, .int .i64 0, .int .i64 0, .int .i64 0], .int .i64 130]) (by simp [results, Try.results9, go_sem, p0, p1, p2, p3, p4]) rfl ?_
    exact ⟨by rw [HZ.out]; rfl, hB2⟩
  have d11 : decide (r < 0) = false := decide_eq_false h11
  by_cases h12 : 255 < r
  · have HZ : Hid (R = none) := Lib.hid (by rw [← HR0.out]; exact HN.out fun s hs => by have := HBy.out s hs; omega)
    have d12 : decide (255 < r) = true := decide_eq_true h12
    clear h12
    go_enter Try.func9, Try.ntmps9
    go_wp2_with fail
    obtain ⟨W, hW, hP, hBW⟩ := put5' HB.out (by omega) HR.out (.int .i64 0) (.int .i64 0) (.int .i64 0) (.int .i64 0) (.int .i64 0)
    rw [hW]
    have hP2 := hP
    have hB2 := hBW
    have p0 := hP2.cell 0
    have p1 := hP2.cell 1
    have p2 := hP2.cell 2
    have p3 := hP2.cell 3
    have p4 := hP2.cell 4
    refine bodyPost_ret (v := .tuple #[.agg #[.int .i64 0, .int .i64 0, .int .i64 0, .int .i64 0, .int .i64 0], .int .i64 130]) (by simp [results, Try.results9, go_sem, p0, p1, p2, p3, p4]) rfl ?_
    exact ⟨by rw [HZ.out]; rfl, hB2⟩
  have d12 : decide (255 < r) = false := decide_eq_false h12
  have hin : In ⟨code, n, k, d, r, t, ww⟩ := by unfold In; dsimp only; omega
  have hbd : Bd ⟨code, n, k, d, r, t, ww⟩ := ⟨hin, by dsimp only; omega, by dsimp only; omega, by dsimp only; omega, by dsimp only; omega, by dsimp only; omega⟩
  have HKk := Lib.hid (HK.out hbd V)
  have HIn := Lib.hid hin
  have ht : 0 ≤ t ∧ t ≤ 127 := by omega
  have hwn : ww ≤ n := by omega
  clear HK hbd hin hok h1 h2 h3 h4 h5 h6 h7 h8 h9 h10 h11 h12
  go_enter Try.func9, Try.ntmps9
  go_wp2_with fail
  refine HKk.out.mono ?_
  rintro e w1 ⟨a, b, s, q, l, ok, rfl, hyes, hno, hb1⟩
  have hC1 := HC.out.below hb1 HC.out.lt
  have hR1 := HR.out.below hb1 HR.out.lt
  have HB1 := Lib.hid (HB.out.trans (hb1.mono HB.out.size))
  clear y0 y1 y2 y3 y4 f0 f1 f2 f3 f4 x0 x1 x2 x3 x4 x5 x6
  have y0 := hR1.cell 0
  have f0 := hR1.frozen 0
  have y1 := hR1.cell 1
  have f1 := hR1.frozen 1
  have y2 := hR1.cell 2
  have f2 := hR1.frozen 2
  have y3 := hR1.cell 3
  have f3 := hR1.frozen 3
  have y4 := hR1.cell 4
  have f4 := hR1.frozen 4
  have z1 : w1.cell? ⟨w.heap.size, 1, none⟩ = some (.int .i64 n) := hC1.cell 1
  have z5 : w1.cell? ⟨w.heap.size, 5, none⟩ = some (.int .i64 t) := hC1.cell 5
  have z6 : w1.cell? ⟨w.heap.size, 6, none⟩ = some (.int .i64 ww) := hC1.cell 6
  have l1 := hC1.lt
  have l2 := hR1.lt
  have HR1 := Lib.hid hR1
  clear hC1 hR1 hb1 HKk
  cases ok with
  | false =>
    have HZ : Hid (R = none) := Lib.hid (by rw [← HR0.out]; exact hno rfl)
    clear hyes hno
    go_wp2
    obtain ⟨W, hW, hP, hBW⟩ := put5' HB1.out (by omega) HR1.out (.int .i64 0) (.int .i64 0) (.int .i64 0) (.int .i64 0) (.int .i64 0)
    obtain ⟨W2, hW2⟩ : ∃ W2, W.alloc (.cells #[.int .i64 a, .int .i64 b, .int .i64 s, .int .i64 q, .int .i64 l] 29) = W2 := ⟨_, rfl⟩
    rw [hW, hW2]
    have hP2 : Block W2 (w.heap.size + 1) 29 #[.int .i64 0, .int .i64 0, .int .i64 0, .int .i64 0, .int .i64 0] := by rw [← hW2]; exact hP.alloc _
    have hB2 : Below w.heap.size w W2 := by rw [← hW2]; exact hBW.alloc hBW.size _
    have p0 := hP2.cell 0
    have p1 := hP2.cell 1
    have p2 := hP2.cell 2
    have p3 := hP2.cell 3
    have p4 := hP2.cell 4
    refine bodyPost_ret (v := .tuple #[.agg #[.int .i64 0, .int .i64 0, .int .i64 0, .int .i64 0, .int .i64 0], .int .i64 130]) (by simp [results, Try.results9, go_sem, p0, p1, p2, p3, p4]) rfl ?_
    exact ⟨by rw [HZ.out]; rfl, hB2⟩
  | true =>
    obtain ⟨hk, rfl⟩ := hyes rfl
    obtain ⟨b1, b2, b3, b4, b5⟩ := HBd.out _ HIn.out hk
    have hch := HCh.out _ HIn.out hk
    rw [HR0.out] at hch
    have HF : Hid (Fit ⟨code, n, k, d, r, t, ww⟩ ⟨a, b, s, q⟩ ↔ s + 2 * t ≤ ww ∧ ww ≤ n ∧ q < n ∧ s + 2 * t < n) := Lib.hid Iff.rfl
    have HNo : Hid (¬ (s + 2 * t ≤ ww ∧ ww ≤ n ∧ q < n ∧ s + 2 * t < n) → R = none) := Lib.hid fun h => by rw [hch]; exact if_neg fun hf => h (HF.out.1 hf)
    have HYes : Hid (s + 2 * t ≤ ww ∧ ww ≤ n ∧ q < n ∧ s + 2 * t < n → R = some ⟨a, b, s, q⟩) := Lib.hid fun h => by rw [hch]; exact if_pos (HF.out.2 h)
    dsimp only at b1 b2 b3 b4 b5
    clear hch HF hno hk HR0 HN HBy HCh HBd
    have v1 : IntKind.i64.wrap (2 * t) = 2 * t := i64w (by omega) (by omega)
    obtain ⟨en, hen⟩ : ∃ en, s + 2 * t = en := ⟨_, rfl⟩
    have v2 : IntKind.i64.wrap (s + 2 * t) = en := by rw [hen]; exact i64w (by omega) (by omega)
    rw [hen] at HNo HYes
    clear hen b2 b3 b4 b5
    by_cases h1 : ww < en
    · have HZ := Lib.hid (HNo.out (by omega))
      have d21 : decide (ww < en) = true := decide_eq_true h1
      clear h1
      go_wp2
      obtain ⟨W, hW, hP, hBW⟩ := put5' HB1.out (by omega) HR1.out (.int .i64 0) (.int .i64 0) (.int .i64 0) (.int .i64 0) (.int .i64 0)
      obtain ⟨W2, hW2⟩ : ∃ W2, W.alloc (.cells #[.int .i64 a, .int .i64 b, .int .i64 s, .int .i64 q, .int .i64 1] 29) = W2 := ⟨_, rfl⟩
      rw [hW, hW2]
      have hP2 : Block W2 (w.heap.size + 1) 29 #[.int .i64 0, .int .i64 0, .int .i64 0, .int .i64 0, .int .i64 0] := by rw [← hW2]; exact hP.alloc _
      have hB2 : Below w.heap.size w W2 := by rw [← hW2]; exact hBW.alloc hBW.size _
      have p0 := hP2.cell 0
      have p1 := hP2.cell 1
      have p2 := hP2.cell 2
      have p3 := hP2.cell 3
      have p4 := hP2.cell 4
      refine bodyPost_ret (v := .tuple #[.agg #[.int .i64 0, .int .i64 0, .int .i64 0, .int .i64 0, .int .i64 0], .int .i64 130]) (by simp [results, Try.results9, go_sem, p0, p1, p2, p3, p4]) rfl ?_
      exact ⟨by rw [HZ.out]; rfl, hB2⟩
    have d21 : decide (ww < en) = false := decide_eq_false h1
    by_cases h2 : n ≤ q
    · have HZ := Lib.hid (HNo.out (by omega))
      have d22 : decide (n ≤ q) = true := decide_eq_true h2
      clear h2
      go_wp2
      obtain ⟨W, hW, hP, hBW⟩ := put5' HB1.out (by omega) HR1.out (.int .i64 0) (.int .i64 0) (.int .i64 0) (.int .i64 0) (.int .i64 0)
      obtain ⟨W2, hW2⟩ : ∃ W2, W.alloc (.cells #[.int .i64 a, .int .i64 b, .int .i64 s, .int .i64 q, .int .i64 1] 29) = W2 := ⟨_, rfl⟩
      rw [hW, hW2]
      have hP2 : Block W2 (w.heap.size + 1) 29 #[.int .i64 0, .int .i64 0, .int .i64 0, .int .i64 0, .int .i64 0] := by rw [← hW2]; exact hP.alloc _
      have hB2 : Below w.heap.size w W2 := by rw [← hW2]; exact hBW.alloc hBW.size _
      have p0 := hP2.cell 0
      have p1 := hP2.cell 1
      have p2 := hP2.cell 2
      have p3 := hP2.cell 3
      have p4 := hP2.cell 4
      refine bodyPost_ret (v := .tuple #[.agg #[.int .i64 0, .int .i64 0, .int .i64 0, .int .i64 0, .int .i64 0], .int .i64 130]) (by simp [results, Try.results9, go_sem, p0, p1, p2, p3, p4]) rfl ?_
      exact ⟨by rw [HZ.out]; rfl, hB2⟩
    have d22 : decide (n ≤ q) = false := decide_eq_false h2
    by_cases h3 : n ≤ en
    · have HZ := Lib.hid (HNo.out (by omega))
      have d23 : decide (n ≤ en) = true := decide_eq_true h3
      clear h3
      go_wp2
      obtain ⟨W, hW, hP, hBW⟩ := put5' HB1.out (by omega) HR1.out (.int .i64 0) (.int .i64 0) (.int .i64 0) (.int .i64 0) (.int .i64 0)
      obtain ⟨W2, hW2⟩ : ∃ W2, W.alloc (.cells #[.int .i64 a, .int .i64 b, .int .i64 s, .int .i64 q, .int .i64 1] 29) = W2 := ⟨_, rfl⟩
      rw [hW, hW2]
      have hP2 : Block W2 (w.heap.size + 1) 29 #[.int .i64 0, .int .i64 0, .int .i64 0, .int .i64 0, .int .i64 0] := by rw [← hW2]; exact hP.alloc _
      have hB2 : Below w.heap.size w W2 := by rw [← hW2]; exact hBW.alloc hBW.size _
      have p0 := hP2.cell 0
      have p1 := hP2.cell 1
      have p2 := hP2.cell 2
      have p3 := hP2.cell 3
      have p4 := hP2.cell 4
      refine bodyPost_ret (v := .tuple #[.agg #[.int .i64 0, .int .i64 0, .int .i64 0, .int .i64 0, .int .i64 0], .int .i64 130]) (by simp [results, Try.results9, go_sem, p0, p1, p2, p3, p4]) rfl ?_
      exact ⟨by rw [HZ.out]; rfl, hB2⟩
    have d23 : decide (n ≤ en) = false := decide_eq_false h3
    have HZ := Lib.hid (HYes.out (by omega))
    clear h1 h2 h3
    go_wp2
    obtain ⟨W, hW, hP, hBW⟩ := put5' HB1.out (by omega) HR1.out (.int .i64 a) (.int .i64 b) (.int .i64 s) (.int .i64 q) (.int .i64 1)
    obtain ⟨W2, hW2⟩ : ∃ W2, W.alloc (.cells #[.int .i64 a, .int .i64 b, .int .i64 s, .int .i64 q, .int .i64 1] 29) = W2 := ⟨_, rfl⟩
    rw [hW, hW2]
    have hP2 : Block W2 (w.heap.size + 1) 29 #[.int .i64 a, .int .i64 b, .int .i64 s, .int .i64 q, .int .i64 1] := by rw [← hW2]; exact hP.alloc _
    have hB2 : Below w.heap.size w W2 := by rw [← hW2]; exact hBW.alloc hBW.size _
    have p0 := hP2.cell 0
    have p1 := hP2.cell 1
    have p2 := hP2.cell 2
    have p3 := hP2.cell 3
    have p4 := hP2.cell 4
    refine bodyPost_ret (v := .tuple #[.agg #[.int .i64 a, .int .i64 b, .int .i64 s, .int .i64 q, .int .i64 1], .int .i64 0]) (by simp [results, Try.results9, go_sem, p0, p1, p2, p3, p4]) rfl ?_
    exact ⟨by rw [HZ.out]; rfl, hB2⟩
end Go.Proofs.Ytikfjbomogekbaa.Cf
