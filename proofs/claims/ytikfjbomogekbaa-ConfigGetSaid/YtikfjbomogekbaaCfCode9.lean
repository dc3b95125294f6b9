/- Which codes are valid: what a code amounts to. -/
import Derived.Test.YtikfjbomogekbaaCfCode8
namespace Go.Proofs.Ytikfjbomogekbaa.Cf
open Go.RowKit
attribute [local go_sem] Oper.semAt_some
set_option linter.unusedVariables false

set_option maxRecDepth 100000 in
set_option maxHeartbeats 3200000 in
theorem shapeOf_1 (c : C) (w : World) (hn : ∀ b, fnV c.code b = .func (.func 70) #[] #[.pointer (some ⟨b, 0, none⟩)]) (hin : In c) (hok : c.Ok) :
    Calls Try.prog 29 #[.agg (cV c)] w fun e w' => e = .returned (sV (kReed c)) ∧ Below w.heap.size w w' := by
  have HKs := Lib.hid (reed_calls c hin hok)
  obtain ⟨code, n, k, d, r, t, ww⟩ := c
  obtain ⟨U, hU⟩ : ∃ V, w.alloc (.cells #[.int .u8 (code : Nat), .int .i64 n, .int .i64 k, .int .i64 d, .int .i64 r, .int .i64 t, .int .i64 ww] 23) = V := ⟨_, rfl⟩
  obtain ⟨V, hV⟩ : ∃ V, U.alloc (.cells #[.int .i64 0, .int .i64 0, .int .i64 0, .int .i64 0, .int .i64 0] 25) = V := ⟨_, rfl⟩
  have hus : U.heap.size = w.heap.size + 1 := by rw [← hU, World.size_alloc]
  have hbc : Block V w.heap.size 23 #[.int .u8 (code : Nat), .int .i64 n, .int .i64 k, .int .i64 d, .int .i64 r, .int .i64 t, .int .i64 ww] := by rw [← hV, ← hU]; exact (Block.new w _ _).alloc _
  have hbr : Block V (w.heap.size + 1) 25 #[.int .i64 0, .int .i64 0, .int .i64 0, .int .i64 0, .int .i64 0] := by rw [← hus, ← hV]; exact Block.new U _ _
  have hbel : Below w.heap.size w V := by rw [← hV]; exact (by rw [← hU]; exact (Below.refl _ _).alloc (Nat.le_refl _) _ : Below w.heap.size w U).alloc (by omega) _
  have HK : Hid (∀ X : World, Calls Try.prog 43 #[.agg #[.int .u8 (code : Nat), .int .i64 n, .int .i64 k, .int .i64 d, .int .i64 r, .int .i64 t, .int .i64 ww]] X fun e w' => ∃ R B, e = .returned (.map (some R)) ∧ w'.heap[R]? = some (.map (ents B).toArray 5) ∧ Block w' B 23 #[.int .u8 (code : Nat), .int .i64 n, .int .i64 k, .int .i64 d, .int .i64 r, .int .i64 t, .int .i64 ww] ∧ Below X.heap.size X w') := Lib.hid (kinds_calls ⟨code, n, k, d, r, t, ww⟩)
  unfold cV at HKs ⊢
  dsimp only at hn HKs ⊢
  have HSc : Hid (∀ X : World, Block X w.heap.size 23 #[.int .u8 (code : Nat), .int .i64 n, .int .i64 k, .int .i64 d, .int .i64 r, .int .i64 t, .int .i64 ww] → (fun X => X.cell? ⟨w.heap.size, 0, none⟩ = some (.int .u8 (code : Nat)) ∧ X.cell? ⟨w.heap.size, 1, none⟩ = some (.int .i64 n) ∧ X.cell? ⟨w.heap.size, 2, none⟩ = some (.int .i64 k) ∧ X.cell? ⟨w.heap.size, 3, none⟩ = some (.int .i64 d) ∧ X.cell? ⟨w.heap.size, 4, none⟩ = some (.int .i64 r) ∧ X.cell? ⟨w.heap.size, 5, none⟩ = some (.int .i64 t) ∧ X.cell? ⟨w.heap.size, 6, none⟩ = some (.int .i64 ww)) X) := Lib.hid fun X h => ⟨h.cell 0, h.cell 1, h.cell 2, h.cell 3, h.cell 4, h.cell 5, h.cell 6⟩
  have HC := Lib.hid hbc.drew
  have HR := Lib.hid hbr.drew
  have HB := Lib.hid hbel.drew
  clear hbc hbr hbel
  have hq1 := eq_nil
  have hq2 := eq_fn
  obtain ⟨v0, v1, v2, v3, v4, hv⟩ := sV_agg (kReed ⟨code, n, k, d, r, t, ww⟩)
  rw [hv] at HKs ⊢
  unfold In at hin
  dsimp only at hin
  have d1 : decide (n < 1) = false := decide_eq_false (by omega)
  have d2 : decide (255 < n) = false := decide_eq_false (by omega)
  have d3 : decide (t < 0) = false := decide_eq_false (by omega)
  have d4 : decide (127 < t) = false := decide_eq_false (by omega)
  clear hin hok hv
  go_enter Try.func29, Try.ntmps29
  go_wp2_with fail
  clear hU hV hus
  go_region_held (fun X => X.cell? ⟨w.heap.size, 0, none⟩ = some (.int .u8 (code : Nat)) ∧ X.cell? ⟨w.heap.size, 1, none⟩ = some (.int .i64 n) ∧ X.cell? ⟨w.heap.size, 2, none⟩ = some (.int .i64 k) ∧ X.cell? ⟨w.heap.size, 3, none⟩ = some (.int .i64 d) ∧ X.cell? ⟨w.heap.size, 4, none⟩ = some (.int .i64 r) ∧ X.cell? ⟨w.heap.size, 5, none⟩ = some (.int .i64 t) ∧ X.cell? ⟨w.heap.size, 6, none⟩ = some (.int .i64 ww)) (exact HSc.out _ HC.out) ((go_at_call 43; (with_reducible refine (HK.out _).mono ?_); rintro e w1 ⟨R, Bc, rfl, hmap, hbB, hb1⟩; replace HC := Lib.hid (HC.out.below hb1 HC.out.lt); replace HR := Lib.hid (HR.out.below hb1 HR.out.lt); replace HB := Lib.hid (HB.out.trans (hb1.mono HB.out.size)); have hLk := look (n := code) hmap; have HBB := Lib.hid hbB; clear hmap hbB hb1))
  obtain ⟨x0, x1, x2, x3, x4, x5, x6⟩ := HSc.out _ HC.out
  clear hLk HSc HK
  have y0 := HR.out.cell 0
  have y1 := HR.out.cell 1
  have y2 := HR.out.cell 2
  have y3 := HR.out.cell 3
  have y4 := HR.out.cell 4
  have f0 := HR.out.frozen 0
  have f1 := HR.out.frozen 1
  have f2 := HR.out.frozen 2
  have f3 := HR.out.frozen 3
  have f4 := HR.out.frozen 4
  go_wp2_with (go_at_call 70; (with_reducible refine (HKs.out Bc _ HBB.out).mono ?_); rintro e w2 ⟨rfl, hb2⟩; have hR2 := HR.out.below hb2 HR.out.lt; clear y0 y1 y2 y3 y4 f0 f1 f2 f3 f4; have y0 := hR2.cell 0; have y1 := hR2.cell 1; have y2 := hR2.cell 2; have y3 := hR2.cell 3; have y4 := hR2.cell 4; have f0 := hR2.frozen 0; have f1 := hR2.frozen 1; have f2 := hR2.frozen 2; have f3 := hR2.frozen 3; have f4 := hR2.frozen 4; have HR2 := Lib.hid hR2; have HB2 := Lib.hid (HB.out.trans (hb2.mono HB.out.size)); clear hR2 hb2)
  obtain ⟨W, hW, hP, hBW⟩ := put5' HB2.out (by omega) HR2.out (.int .i64 v0) (.int .i64 v1) (.int .i64 v2) (.int .i64 v3) (.int .i64 v4)
  rw [hW]
  have p0 := hP.cell 0
  have p1 := hP.cell 1
  have p2 := hP.cell 2
  have p3 := hP.cell 3
  have p4 := hP.cell 4
  refine bodyPost_ret (v := .agg #[.int .i64 v0, .int .i64 v1, .int .i64 v2, .int .i64 v3, .int .i64 v4]) (by simp [results, Try.results29, go_sem, p0, p1, p2, p3, p4]) rfl ?_
  exact ⟨rfl, hBW⟩
set_option maxRecDepth 100000 in
set_option maxHeartbeats 3200000 in
theorem shapeOf_2 (c : C) (w : World) (hn : ∀ b, fnV c.code b = .func (.func 71) #[] #[.pointer (some ⟨b, 0, none⟩)]) (hin : In c) (hok : c.Ok) :
    Calls Try.prog 29 #[.agg (cV c)] w fun e w' => e = .returned (sV (kMsr c)) ∧ Below w.heap.size w w' := by
  have HKs := Lib.hid (msr_calls c hin hok)
  obtain ⟨code, n, k, d, r, t, ww⟩ := c
  obtain ⟨U, hU⟩ : ∃ V, w.alloc (.cells #[.int .u8 (code : Nat), .int .i64 n, .int .i64 k, .int .i64 d, .int .i64 r, .int .i64 t, .int .i64 ww] 23) = V := ⟨_, rfl⟩
  obtain ⟨V, hV⟩ : ∃ V, U.alloc (.cells #[.int .i64 0, .int .i64 0, .int .i64 0, .int .i64 0, .int .i64 0] 25) = V := ⟨_, rfl⟩
  have hus : U.heap.size = w.heap.size + 1 := by rw [← hU, World.size_alloc]
  have hbc : Block V w.heap.size 23 #[.int .u8 (code : Nat), .int .i64 n, .int .i64 k, .int .i64 d, .int .i64 r, .int .i64 t, .int .i64 ww] := by rw [← hV, ← hU]; exact (Block.new w _ _).alloc _
  have hbr : Block V (w.heap.size + 1) 25 #[.int .i64 0, .int .i64 0, .int .i64 0, .int .i64 0, .int .i64 0] := by rw [← hus, ← hV]; exact Block.new U _ _
  have hbel : Below w.heap.size w V := by rw [← hV]; exact (by rw [← hU]; exact (Below.refl _ _).alloc (Nat.le_refl _) _ : Below w.heap.size w U).alloc (by omega) _
  have HK : Hid (∀ X : World, Calls Try.prog 43 #[.agg #[.int .u8 (code : Nat), .int .i64 n, .int .i64 k, .int .i64 d, .int .i64 r, .int .i64 t, .int .i64 ww]] X fun e w' => ∃ R B, e = .returned (.map (some R)) ∧ w'.heap[R]? = some (.map (ents B).toArray 5) ∧ Block w' B 23 #[.int .u8 (code : Nat), .int .i64 n, .int .i64 k, .int .i64 d, .int .i64 r, .int .i64 t, .int .i64 ww] ∧ Below X.heap.size X w') := Lib.hid (kinds_calls ⟨code, n, k, d, r, t, ww⟩)
  unfold cV at HKs ⊢
  dsimp only at hn HKs ⊢
  have HSc : Hid (∀ X : World, Block X w.heap.size 23 #[.int .u8 (code : Nat), .int .i64 n, .int .i64 k, .int .i64 d, .int .i64 r, .int .i64 t, .int .i64 ww] → (fun X => X.cell? ⟨w.heap.size, 0, none⟩ = some (.int .u8 (code : Nat)) ∧ X.cell? ⟨w.heap.size, 1, none⟩ = some (.int .i64 n) ∧ X.cell? ⟨w.heap.size, 2, none⟩ = some (.int .i64 k) ∧ X.cell? ⟨w.heap.size, 3, none⟩ = some (.int .i64 d) ∧ X.cell? ⟨w.heap.size, 4, none⟩ = some (.int .i64 r) ∧ X.cell? ⟨w.heap.size, 5, none⟩ = some (.int .i64 t) ∧ X.cell? ⟨w.heap.size, 6, none⟩ = some (.int .i64 ww)) X) := Lib.hid fun X h => ⟨h.cell 0, h.cell 1, h.cell 2, h.cell 3, h.cell 4, h.cell 5, h.cell 6⟩
  have HC := Lib.hid hbc.drew
  have HR := Lib.hid hbr.drew
  have HB := Lib.hid hbel.drew
  clear hbc hbr hbel
  have hq1 := eq_nil
  have hq2 := eq_fn
  obtain ⟨v0, v1, v2, v3, v4, hv⟩ := sV_agg (kMsr ⟨code, n, k, d, r, t, ww⟩)
  rw [hv] at HKs ⊢
  unfold In at hin
  dsimp only at hin
  have d1 : decide (n < 1) = false := decide_eq_false (by omega)
  have d2 : decide (255 < n) = false := decide_eq_false (by omega)
  have d3 : decide (t < 0) = false := decide_eq_false (by omega)
  have d4 : decide (127 < t) = false := decide_eq_false (by omega)
  clear hin hok hv
  go_enter Try.func29, Try.ntmps29
  go_wp2_with fail
  clear hU hV hus
  go_region_held (fun X => X.cell? ⟨w.heap.size, 0, none⟩ = some (.int .u8 (code : Nat)) ∧ X.cell? ⟨w.heap.size, 1, none⟩ = some (.int .i64 n) ∧ X.cell? ⟨w.heap.size, 2, none⟩ = some (.int .i64 k) ∧ X.cell? ⟨w.heap.size, 3, none⟩ = some (.int .i64 d) ∧ X.cell? ⟨w.heap.size, 4, none⟩ = some (.int .i64 r) ∧ X.cell? ⟨w.heap.size, 5, none⟩ = some (.int .i64 t) ∧ X.cell? ⟨w.heap.size, 6, none⟩ = some (.int .i64 ww)) (exact HSc.out _ HC.out) ((go_at_call 43; (with_reducible refine (HK.out _).mono ?_); rintro e w1 ⟨R, Bc, rfl, hmap, hbB, hb1⟩; replace HC := Lib.hid (HC.out.below hb1 HC.out.lt); replace HR := Lib.hid (HR.out.below hb1 HR.out.lt); replace HB := Lib.hid (HB.out.trans (hb1.mono HB.out.size)); have hLk := look (n := code) hmap; have HBB := Lib.hid hbB; clear hmap hbB hb1))
  obtain ⟨x0, x1, x2, x3, x4, x5, x6⟩ := HSc.out _ HC.out
  clear hLk HSc HK
  have y0 := HR.out.cell 0
  have y1 := HR.out.cell 1
  have y2 := HR.out.cell 2
  have y3 := HR.out.cell 3
  have y4 := HR.out.cell 4
  have f0 := HR.out.frozen 0
  have f1 := HR.out.frozen 1
  have f2 := HR.out.frozen 2
  have f3 := HR.out.frozen 3
  have f4 := HR.out.frozen 4
  go_wp2_with (go_at_call 71; (with_reducible refine (HKs.out Bc _ HBB.out).mono ?_); rintro e w2 ⟨rfl, hb2⟩; have hR2 := HR.out.below hb2 HR.out.lt; clear y0 y1 y2 y3 y4 f0 f1 f2 f3 f4; have y0 := hR2.cell 0; have y1 := hR2.cell 1; have y2 := hR2.cell 2; have y3 := hR2.cell 3; have y4 := hR2.cell 4; have f0 := hR2.frozen 0; have f1 := hR2.frozen 1; have f2 := hR2.frozen 2; have f3 := hR2.frozen 3; have f4 := hR2.frozen 4; have HR2 := Lib.hid hR2; have HB2 := Lib.hid (HB.out.trans (hb2.mono HB.out.size)); clear hR2 hb2)
  obtain ⟨W, hW, hP, hBW⟩ := put5' HB2.out (by omega) HR2.out (.int .i64 v0) (.int .i64 v1) (.int .i64 v2) (.int .i64 v3) (.int .i64 v4)
  rw [hW]
  have p0 := hP.cell 0
  have p1 := hP.cell 1
  have p2 := hP.cell 2
  have p3 := hP.cell 3
  have p4 := hP.cell 4
  refine bodyPost_ret (v := .agg #[.int .i64 v0, .int .i64 v1, .int .i64 v2, .int .i64 v3, .int .i64 v4]) (by simp [results, Try.results29, go_sem, p0, p1, p2, p3, p4]) rfl ?_
  exact ⟨rfl, hBW⟩
set_option maxRecDepth 100000 in
set_option maxHeartbeats 3200000 in
theorem shapeOf_3 (c : C) (w : World) (hn : ∀ b, fnV c.code b = .func (.func 73) #[] #[.pointer (some ⟨b, 0, none⟩)]) (hin : In c) (hok : c.Ok) :
    Calls Try.prog 29 #[.agg (cV c)] w fun e w' => e = .returned (sV (kMbr c)) ∧ Below w.heap.size w w' := by
  have HKs := Lib.hid (mbr_calls c hin hok)
  obtain ⟨code, n, k, d, r, t, ww⟩ := c
  obtain ⟨U, hU⟩ : ∃ V, w.alloc (.cells #[.int .u8 (code : Nat), .int .i64 n, .int .i64 k, .int .i64 d, .int .i64 r, .int .i64 t, .int .i64 ww] 23) = V := ⟨_, rfl⟩
  obtain ⟨V, hV⟩ : ∃ V, U.alloc (.cells #[.int .i64 0, .int .i64 0, .int .i64 0, .int .i64 0, .int .i64 0] 25) = V := ⟨_, rfl⟩
  have hus : U.heap.size = w.heap.size + 1 := by rw [← hU, World.size_alloc]
  have hbc : Block V w.heap.size 23 #[.int .u8 (code : Nat), .int .i64 n, .int .i64 k, .int .i64 d, .int .i64 r, .int .i64 t, .int .i64 ww] := by rw [← hV, ← hU]; exact (Block.new w _ _).alloc _
  have hbr : Block V (w.heap.size + 1) 25 #[.int .i64 0, .int .i64 0, .int .i64 0, .int .i64 0, .int .i64 0] := by rw [← hus, ← hV]; exact Block.new U _ _
  have hbel : Below w.heap.size w V := by rw [← hV]; exact (by rw [← hU]; exact (Below.refl _ _).alloc (Nat.le_refl _) _ : Below w.heap.size w U).alloc (by omega) _
  have HK : Hid (∀ X : World, Calls Try.prog 43 #[.agg #[.int .u8 (code : Nat), .int .i64 n, .int .i64 k, .int .i64 d, .int .i64 r, .int .i64 t, .int .i64 ww]] X fun e w' => ∃ R B, e = .returned (.map (some R)) ∧ w'.heap[R]? = some (.map (ents B).toArray 5) ∧ Block w' B 23 #[.int .u8 (code : Nat), .int .i64 n, .int .i64 k, .int .i64 d, .int .i64 r, .int .i64 t, .int .i64 ww] ∧ Below X.heap.size X w') := Lib.hid (kinds_calls ⟨code, n, k, d, r, t, ww⟩)
  unfold cV at HKs ⊢
  dsimp only at hn HKs ⊢
  have HSc : Hid (∀ X : World, Block X w.heap.size 23 #[.int .u8 (code : Nat), .int .i64 n, .int .i64 k, .int .i64 d, .int .i64 r, .int .i64 t, .int .i64 ww] → (fun X => X.cell? ⟨w.heap.size, 0, none⟩ = some (.int .u8 (code : Nat)) ∧ X.cell? ⟨w.heap.size, 1, none⟩ = some (.int .i64 n) ∧ X.cell? ⟨w.heap.size, 2, none⟩ = some (.int .i64 k) ∧ X.cell? ⟨w.heap.size, 3, none⟩ = some (.int .i64 d) ∧ X.cell? ⟨w.heap.size, 4, none⟩ = some (.int .i64 r) ∧ X.cell? ⟨w.heap.size, 5, none⟩ = some (.int .i64 t) ∧ X.cell? ⟨w.heap.size, 6, none⟩ = some (.int .i64 ww)) X) := Lib.hid fun X h => ⟨h.cell 0, h.cell 1, h.cell 2, h.cell 3, h.cell 4, h.cell 5, h.cell 6⟩
  have HC := Lib.hid hbc.drew
  have HR := Lib.hid hbr.drew
  have HB := Lib.hid hbel.drew
  clear hbc hbr hbel
  have hq1 := eq_nil
  have hq2 := eq_fn
  obtain ⟨v0, v1, v2, v3, v4, hv⟩ := sV_agg (kMbr ⟨code, n, k, d, r, t, ww⟩)
  rw [hv] at HKs ⊢
  unfold In at hin
  dsimp only at hin
  have d1 : decide (n < 1) = false := decide_eq_false (by omega)
  have d2 : decide (255 < n) = false := decide_eq_false (by omega)
  have d3 : decide (t < 0) = false := decide_eq_false (by omega)
  have d4 : decide (127 < t) = false := decide_eq_false (by omega)
  clear hin hok hv
  go_enter Try.func29, Try.ntmps29
  go_wp2_with fail
  clear hU hV hus
  go_region_held (fun X => X.cell? ⟨w.heap.size, 0, none⟩ = some (.int .u8 (code : Nat)) ∧ X.cell? ⟨w.heap.size, 1, none⟩ = some (.int .i64 n) ∧ X.cell? ⟨w.heap.size, 2, none⟩ = some (.int .i64 k) ∧ X.cell? ⟨w.heap.size, 3, none⟩ = some (.int .i64 d) ∧ X.cell? ⟨w.heap.size, 4, none⟩ = some (.int .i64 r) ∧ X.cell? ⟨w.heap.size, 5, none⟩ = some (.int .i64 t) ∧ X.cell? ⟨w.heap.size, 6, none⟩ = some (.int .i64 ww)) (exact HSc.out _ HC.out) ((go_at_call 43; (with_reducible refine (HK.out _).mono ?_); rintro e w1 ⟨R, Bc, rfl, hmap, hbB, hb1⟩; replace HC := Lib.hid (HC.out.below hb1 HC.out.lt); replace HR := Lib.hid (HR.out.below hb1 HR.out.lt); replace HB := Lib.hid (HB.out.trans (hb1.mono HB.out.size)); have hLk := look (n := code) hmap; have HBB := Lib.hid hbB; clear hmap hbB hb1))
  obtain ⟨x0, x1, x2, x3, x4, x5, x6⟩ := HSc.out _ HC.out
  clear hLk HSc HK
  have y0 := HR.out.cell 0
  have y1 := HR.out.cell 1
  have y2 := HR.out.cell 2
  have y3 := HR.out.cell 3
  have y4 := HR.out.cell 4
  have f0 := HR.out.frozen 0
  have f1 := HR.out.frozen 1
  have f2 := HR.out.frozen 2
  have f3 := HR.out.frozen 3
  have f4 := HR.out.frozen 4
  go_wp2_with (go_at_call 73; (with_reducible refine (HKs.out Bc _ HBB.out).mono ?_); rintro e w2 ⟨rfl, hb2⟩; have hR2 := HR.out.below hb2 HR.out.lt; clear y0 y1 y2 y3 y4 f0 f1 f2 f3 f4; have y0 := hR2.cell 0; have y1 := hR2.cell 1; have y2 := hR2.cell 2; have y3 := hR2.cell 3; have y4 := hR2.cell 4; have f0 := hR2.frozen 0; have f1 := hR2.frozen 1; have f2 := hR2.frozen 2; have f3 := hR2.frozen 3; have f4 := hR2.frozen 4; have HR2 := Lib.hid hR2; have HB2 := Lib.hid (HB.out.trans (hb2.mono HB.out.size)); clear hR2 hb2)
  obtain ⟨W, hW, hP, hBW⟩ := put5' HB2.out (by omega) HR2.out (.int .i64 v0) (.int .i64 v1) (.int .i64 v2) (.int .i64 v3) (.int .i64 v4)
  rw [hW]
  have p0 := hP.cell 0
  have p1 := hP.cell 1
  have p2 := hP.cell 2
  have p3 := hP.cell 3
  have p4 := hP.cell 4
  refine bodyPost_ret (v := .agg #[.int .i64 v0, .int .i64 v1, .int .i64 v2, .int .i64 v3, .int .i64 v4]) (by simp [results, Try.results29, go_sem, p0, p1, p2, p3, p4]) rfl ?_
  exact ⟨rfl, hBW⟩
set_option maxRecDepth 100000 in
set_option maxHeartbeats 3200000 in
theorem shapeOf_4 (c : C) (w : World) (hn : ∀ b, fnV c.code b = .func (.func 75) #[] #[.pointer (some ⟨b, 0, none⟩)]) (hin : In c) (hok : c.Ok) :
    Calls Try.prog 29 #[.agg (cV c)] w fun e w' => e = .returned (sV (kTr c)) ∧ Below w.heap.size w w' := by
  have HKs := Lib.hid (tr_calls c hin hok)
  obtain ⟨code, n, k, d, r, t, ww⟩ := c
  obtain ⟨U, hU⟩ : ∃ V, w.alloc (.cells #[.int .u8 (code : Nat), .int .i64 n, .int .i64 k, .int .i64 d, .int .i64 r, .int .i64 t, .int .i64 ww] 23) = V := ⟨_, rfl⟩
  obtain ⟨V, hV⟩ : ∃ V, U.alloc (.cells #[.int .i64 0, .int .i64 0, .int .i64 0, .int .i64 0, .int .i64 0] 25) = V := ⟨_, rfl⟩
  have hus : U.heap.size = w.heap.size + 1 := by rw [← hU, World.size_alloc]
  have hbc : Block V w.heap.size 23 #[.int .u8 (code : Nat), .int .i64 n, .int .i64 k, .int .i64 d, .int .i64 r, .int .i64 t, .int .i64 ww] := by rw [← hV, ← hU]; exact (Block.new w _ _).alloc _
  have hbr : Block V (w.heap.size + 1) 25 #[.int .i64 0, .int .i64 0, .int .i64 0, .int .i64 0, .int .i64 0] := by rw [← hus, ← hV]; exact Block.new U _ _
  have hbel : Below w.heap.size w V := by rw [← hV]; exact (by rw [← hU]; exact (Below.refl _ _).alloc (Nat.le_refl _) _ : Below w.heap.size w U).alloc (by omega) _
  have HK : Hid (∀ X : World, Calls Try.prog 43 #[.agg #[.int .u8 (code : Nat), .int .i64 n, .int .i64 k, .int .i64 d, .int .i64 r, .int .i64 t, .int .i64 ww]] X fun e w' => ∃ R B, e = .returned (.map (some R)) ∧ w'.heap[R]? = some (.map (ents B).toArray 5) ∧ Block w' B 23 #[.int .u8 (code : Nat), .int .i64 n, .int .i64 k, .int .i64 d, .int .i64 r, .int .i64 t, .int .i64 ww] ∧ Below X.heap.size X w') := Lib.hid (kinds_calls ⟨code, n, k, d, r, t, ww⟩)
  unfold cV at HKs ⊢
  dsimp only at hn HKs ⊢
  have HSc : Hid (∀ X : World, Block X w.heap.size 23 #[.int .u8 (code : Nat), .int .i64 n, .int .i64 k, .int .i64 d, .int .i64 r, .int .i64 t, .int .i64 ww] → (fun X => X.cell? ⟨w.heap.size, 0, none⟩ = some (.int .u8 (code : Nat)) ∧ X.cell? ⟨w.heap.size, 1, none⟩ = some (.int .i64 n) ∧ X.cell? ⟨w.heap.size, 2, none⟩ = some (.int .i64 k) ∧ X.cell? ⟨w.heap.size, 3, none⟩ = some (.int .i64 d) ∧ X.cell? ⟨w.heap.size, 4, none⟩ = some (.int .i64 r) ∧ X.cell? ⟨w.heap.size, 5, none⟩ = some (.int .i64 t) ∧ X.cell? ⟨w.heap.size, 6, none⟩ = some (.int .i64 ww)) X) := Lib.hid fun X h => ⟨h.cell 0, h.cell 1, h.cell 2, h.cell 3, h.cell 4, h.cell 5, h.cell 6⟩
  have HC := Lib.hid hbc.drew
  have HR := Lib.hid hbr.drew
  have HB := Lib.hid hbel.drew
  clear hbc hbr hbel
  have hq1 := eq_nil
  have hq2 := eq_fn
  obtain ⟨v0, v1, v2, v3, v4, hv⟩ := sV_agg (kTr ⟨code, n, k, d, r, t, ww⟩)
  rw [hv] at HKs ⊢
  unfold In at hin
  dsimp only at hin
  have d1 : decide (n < 1) = false := decide_eq_false (by omega)
  have d2 : decide (255 < n) = false := decide_eq_false (by omega)
  have d3 : decide (t < 0) = false := decide_eq_false (by omega)
  have d4 : decide (127 < t) = false := decide_eq_false (by omega)
  clear hin hok hv
  go_enter Try.func29, Try.ntmps29
  go_wp2_with fail
  clear hU hV hus
  go_region_held (fun X => X.cell? ⟨w.heap.size, 0, none⟩ = some (.int .u8 (code : Nat)) ∧ X.cell? ⟨w.heap.size, 1, none⟩ = some (.int .i64 n) ∧ X.cell? ⟨w.heap.size, 2, none⟩ = some (.int .i64 k) ∧ X.cell? ⟨w.heap.size, 3, none⟩ = some (.int .i64 d) ∧ X.cell? ⟨w.heap.size, 4, none⟩ = some (.int .i64 r) ∧ X.cell? ⟨w.heap.size, 5, none⟩ = some (.int .i64 t) ∧ X.cell? ⟨w.heap.size, 6, none⟩ = some (.int .i64 ww)) (exact HSc.out _ HC.out) ((go_at_call 43; (with_reducible refine (HK.out _).mono ?_); rintro e w1 ⟨R, Bc, rfl, hmap, hbB, hb1⟩; replace HC := Lib.hid (HC.out.below hb1 HC.out.lt); replace HR := Lib.hid (HR.out.below hb1 HR.out.lt); replace HB := Lib.hid (HB.out.trans (hb1.mono HB.out.size)); have hLk := look (n := code) hmap; have HBB := Lib.hid hbB; clear hmap hbB hb1))
  obtain ⟨x0, x1, x2, x3, x4, x5, x6⟩ := HSc.out _ HC.out
  clear hLk HSc HK
  have y0 := HR.out.cell 0
  have y1 := HR.out.cell 1
  have y2 := HR.out.cell 2
  have y3 := HR.out.cell 3
  have y4 := HR.out.cell 4
  have f0 := HR.out.frozen 0
  have f1 := HR.out.frozen 1
  have f2 := HR.out.frozen 2
  have f3 := HR.out.frozen 3
  have f4 := HR.out.frozen 4
  go_wp2_with (go_at_call 75; (with_reducible refine (HKs.out Bc _ HBB.out).mono ?_); rintro e w2 ⟨rfl, hb2⟩; have hR2 := HR.out.below hb2 HR.out.lt; clear y0 y1 y2 y3 y4 f0 f1 f2 f3 f4; have y0 := hR2.cell 0; have y1 := hR2.cell 1; have y2 := hR2.cell 2; have y3 := hR2.cell 3; have y4 := hR2.cell 4; have f0 := hR2.frozen 0; have f1 := hR2.frozen 1; have f2 := hR2.frozen 2; have f3 := hR2.frozen 3; have f4 := hR2.frozen 4; have HR2 := Lib.hid hR2; have HB2 := Lib.hid (HB.out.trans (hb2.mono HB.out.size)); clear hR2 hb2)
  obtain ⟨W, hW, hP, hBW⟩ := put5' HB2.out (by omega) HR2.out (.int .i64 v0) (.int .i64 v1) (.int .i64 v2) (.int .i64 v3) (.int .i64 v4)
  rw [hW]
  have p0 := hP.cell 0
  have p1 := hP.cell 1
  have p2 := hP.cell 2
  have p3 := hP.cell 3
  have p4 := hP.cell 4
  refine bodyPost_ret (v := .agg #[.int .i64 v0, .int .i64 v1, .int .i64 v2, .int .i64 v3, .int .i64 v4]) (by simp [results, Try.results29, go_sem, p0, p1, p2, p3, p4]) rfl ?_
  exact ⟨rfl, hBW⟩
set_option maxRecDepth 100000 in
set_option maxHeartbeats 3200000 in
theorem shapeOf_5 (c : C) (w : World) (hn : ∀ b, fnV c.code b = .func (.func 76) #[] #[.pointer (some ⟨b, 0, none⟩)]) (hin : In c) (hok : c.Ok) :
    Calls Try.prog 29 #[.agg (cV c)] w fun e w' => e = .returned (sV (kLo c)) ∧ Below w.heap.size w w' := by
  have HKs := Lib.hid (local_calls c hin hok)
  obtain ⟨code, n, k, d, r, t, ww⟩ := c
  obtain ⟨U, hU⟩ : ∃ V, w.alloc (.cells #[.int .u8 (code : Nat), .int .i64 n, .int .i64 k, .int .i64 d, .int .i64 r, .int .i64 t, .int .i64 ww] 23) = V := ⟨_, rfl⟩
  obtain ⟨V, hV⟩ : ∃ V, U.alloc (.cells #[.int .i64 0, .int .i64 0, .int .i64 0, .int .i64 0, .int .i64 0] 25) = V := ⟨_, rfl⟩
  have hus : U.heap.size = w.heap.size + 1 := by rw [← hU, World.size_alloc]
  have hbc : Block V w.heap.size 23 #[.int .u8 (code : Nat), .int .i64 n, .int .i64 k, .int .i64 d, .int .i64 r, .int .i64 t, .int .i64 ww] := by rw [← hV, ← hU]; exact (Block.new w _ _).alloc _
  have hbr : Block V (w.heap.size + 1) 25 #[.int .i64 0, .int .i64 0, .int .i64 0, .int .i64 0, .int .i64 0] := by rw [← hus, ← hV]; exact Block.new U _ _
  have hbel : Below w.heap.size w V := by rw [← hV]; exact (by rw [← hU]; exact (Below.refl _ _).alloc (Nat.le_refl _) _ : Below w.heap.size w U).alloc (by omega) _
  have HK : Hid (∀ X : World, Calls Try.prog 43 #[.agg #[.int .u8 (code : Nat), .int .i64 n, .int .i64 k, .int .i64 d, .int .i64 r, .int .i64 t, .int .i64 ww]] X fun e w' => ∃ R B, e = .returned (.map (some R)) ∧ w'.heap[R]? = some (.map (ents B).toArray 5) ∧ Block w' B 23 #[.int .u8 (code : Nat), .int .i64 n, .int .i64 k, .int .i64 d, .int .i64 r, .int .i64 t, .int .i64 ww] ∧ Below X.heap.size X w') := Lib.hid (kinds_calls ⟨code, n, k, d, r, t, ww⟩)
  unfold cV at HKs ⊢
  dsimp only at hn HKs ⊢
  have HSc : Hid (∀ X : World, Block X w.heap.size 23 #[.int .u8 (code : Nat), .int .i64 n, .int .i64 k, .int .i64 d, .int .i64 r, .int .i64 t, .int .i64 ww] → (fun X => X.cell? ⟨w.heap.size, 0, none⟩ = some (.int .u8 (code : Nat)) ∧ X.cell? ⟨w.heap.size, 1, none⟩ = some (.int .i64 n) ∧ X.cell? ⟨w.heap.size, 2, none⟩ = some (.int .i64 k) ∧ X.cell? ⟨w.heap.size, 3, none⟩ = some (.int .i64 d) ∧ X.cell? ⟨w.heap.size, 4, none⟩ = some (.int .i64 r) ∧ X.cell? ⟨w.heap.size, 5, none⟩ = some (.int .i64 t) ∧ X.cell? ⟨w.heap.size, 6, none⟩ = some (.int .i64 ww)) X) := Lib.hid fun X h => ⟨h.cell 0, h.cell 1, h.cell 2, h.cell 3, h.cell 4, h.cell 5, h.cell 6⟩
  have HC := Lib.hid hbc.drew
  have HR := Lib.hid hbr.drew
  have HB := Lib.hid hbel.drew
  clear hbc hbr hbel
  have hq1 := eq_nil
  have hq2 := eq_fn
  obtain ⟨v0, v1, v2, v3, v4, hv⟩ := sV_agg (kLo ⟨code, n, k, d, r, t, ww⟩)
  rw [hv] at HKs ⊢
  unfold In at hin
  dsimp only at hin
  have d1 : decide (n < 1) = false := decide_eq_false (by omega)
  have d2 : decide (255 < n) = false := decide_eq_false (by omega)
  have d3 : decide (t < 0) = false := decide_eq_false (by omega)
  have d4 : decide (127 < t) = false := decide_eq_false (by omega)
  clear hin hok hv
  go_enter Try.func29, Try.ntmps29
  go_wp2_with fail
  clear hU hV hus
  go_region_held (fun X => X.cell? ⟨w.heap.size, 0, none⟩ = some (.int .u8 (code : Nat)) ∧ X.cell? ⟨w.heap.size, 1, none⟩ = some (.int .i64 n) ∧ X.cell? ⟨w.heap.size, 2, none⟩ = some (.int .i64 k) ∧ X.cell? ⟨w.heap.size, 3, none⟩ = some (.int .i64 d) ∧ X.cell? ⟨w.heap.size, 4, none⟩ = some (.int .i64 r) ∧ X.cell? ⟨w.heap.size, 5, none⟩ = some (.int .i64 t) ∧ X.cell? ⟨w.heap.size, 6, none⟩ = some (.int .i64 ww)) (exact HSc.out _ HC.out) ((go_at_call 43; (with_reducible refine (HK.out _).mono ?_); rintro e w1 ⟨R, Bc, rfl, hmap, hbB, hb1⟩; replace HC := Lib.hid (HC.out.below hb1 HC.out.lt); replace HR := Lib.hid (HR.out.below hb1 HR.out.lt); replace HB := Lib.hid (HB.out.trans (hb1.mono HB.out.size)); have hLk := look (n := code) hmap; have HBB := Lib.hid hbB; clear hmap hbB hb1))
  obtain ⟨x0, x1, x2, x3, x4, x5, x6⟩ := HSc.out _ HC.out
  clear hLk HSc HK
  have y0 := HR.out.cell 0
  have y1 := HR.out.cell 1
  have y2 := HR.out.cell 2
  have y3 := HR.out.cell 3
  have y4 := HR.out.cell 4
  have f0 := HR.out.frozen 0
  have f1 := HR.out.frozen 1
  have f2 := HR.out.frozen 2
  have f3 := HR.out.frozen 3
  have f4 := HR.out.frozen 4
  go_wp2_with (go_at_call 76; (with_reducible refine (HKs.out Bc _ HBB.out).mono ?_); rintro e w2 ⟨rfl, hb2⟩; have hR2 := HR.out.below hb2 HR.out.lt; clear y0 y1 y2 y3 y4 f0 f1 f2 f3 f4; have y0 := hR2.cell 0; have y1 := hR2.cell 1; have y2 := hR2.cell 2; have y3 := hR2.cell 3; have y4 := hR2.cell 4; have f0 := hR2.frozen 0; have f1 := hR2.frozen 1; have f2 := hR2.frozen 2; have f3 := hR2.frozen 3; have f4 := hR2.frozen 4; have HR2 := Lib.hid hR2; have HB2 := Lib.hid (HB.out.trans (hb2.mono HB.out.size)); clear hR2 hb2)
  obtain ⟨W, hW, hP, hBW⟩ := put5' HB2.out (by omega) HR2.out (.int .i64 v0) (.int .i64 v1) (.int .i64 v2) (.int .i64 v3) (.int .i64 v4)
  rw [hW]
  have p0 := hP.cell 0
  have p1 := hP.cell 1
  have p2 := hP.cell 2
  have p3 := hP.cell 3
  have p4 := hP.cell 4
  refine bodyPost_ret (v := .agg #[.int .i64 v0, .int .i64 v1, .int .i64 v2, .int .i64 v3, .int .i64 v4]) (by simp [results, Try.results29, go_sem, p0, p1, p2, p3, p4]) rfl ?_
  exact ⟨rfl, hBW⟩
theorem shapeOf_calls (c : C) (hok : c.Ok) (w : World) : Calls Try.prog 29 #[.agg (cV c)] w fun e w' => e = .returned (sV (shp c)) ∧ Below w.heap.size w w' := by
  unfold shp kind
  by_cases h1 : c.code = 1
  · rw [if_pos h1]
    have hn : ∀ b, fnV c.code b = .func (.func 70) #[] #[.pointer (some ⟨b, 0, none⟩)] := fun b => by rw [h1]; rfl
    by_cases hi : In c
    · rw [if_pos hi]; exact shapeOf_1 c w hn hi hok
    · exact shapeOf_out c w _ kReed hn hi
  rw [if_neg h1]
  by_cases h2 : c.code = 2
  · rw [if_pos h2]
    have hn : ∀ b, fnV c.code b = .func (.func 71) #[] #[.pointer (some ⟨b, 0, none⟩)] := fun b => by rw [h2]; rfl
    by_cases hi : In c
    · rw [if_pos hi]; exact shapeOf_2 c w hn hi hok
    · exact shapeOf_out c w _ kMsr hn hi
  rw [if_neg h2]
  by_cases h3 : c.code = 3
  · rw [if_pos h3]
    have hn : ∀ b, fnV c.code b = .func (.func 73) #[] #[.pointer (some ⟨b, 0, none⟩)] := fun b => by rw [h3]; rfl
    by_cases hi : In c
    · rw [if_pos hi]; exact shapeOf_3 c w hn hi hok
    · exact shapeOf_out c w _ kMbr hn hi
  rw [if_neg h3]
  by_cases h4 : c.code = 4
  · rw [if_pos h4]
    have hn : ∀ b, fnV c.code b = .func (.func 75) #[] #[.pointer (some ⟨b, 0, none⟩)] := fun b => by rw [h4]; rfl
    by_cases hi : In c
    · rw [if_pos hi]; exact shapeOf_4 c w hn hi hok
    · exact shapeOf_out c w _ kTr hn hi
  rw [if_neg h4]
  by_cases h5 : c.code = 5
  · rw [if_pos h5]
    have hn : ∀ b, fnV c.code b = .func (.func 76) #[] #[.pointer (some ⟨b, 0, none⟩)] := fun b => by rw [h5]; rfl
    by_cases hi : In c
    · rw [if_pos hi]; exact shapeOf_5 c w hn hi hok
    · exact shapeOf_out c w _ kLo hn hi
  rw [if_neg h5]
  have hn : ∀ b, fnV c.code b = .nilFunc := fun b => by unfold fnV; rw [if_neg h1, if_neg h2, if_neg h3, if_neg h4, if_neg h5]
  have := shapeOf_none c w hn
  rw [show (if In c then (none : Option Sh) else none) = none by split <;> rfl]
  exact this
end Go.Proofs.Ytikfjbomogekbaa.Cf
