/- ConfigLess: a part of the walk. -/
import Derived.Test.YtikfjbomogekbaaCfWorks
namespace Go.Proofs.Ytikfjbomogekbaa.configLess
open Go.RowKit Cf
attribute [local go_sem] Oper.semAt_some
set_option linter.unusedVariables false

theorem three (w : World) (cs : Array Value) (T : TypeId) : Block (((w.alloc (.cells cs T)).alloc (.cells cs T)).alloc (.cells cs T)).drew w.heap.size T cs ∧ Block (((w.alloc (.cells cs T)).alloc (.cells cs T)).alloc (.cells cs T)).drew (w.heap.size + 1) T cs ∧ Block (((w.alloc (.cells cs T)).alloc (.cells cs T)).alloc (.cells cs T)).drew (w.heap.size + 1 + 1) T cs ∧ Below w.heap.size w (((w.alloc (.cells cs T)).alloc (.cells cs T)).alloc (.cells cs T)).drew := by
  have h1 := Block.new w T cs
  have h2 := Block.new (w.alloc (.cells cs T)) T cs
  have h3 := Block.new ((w.alloc (.cells cs T)).alloc (.cells cs T)) T cs
  rw [World.size_alloc] at h2
  rw [World.size_alloc, World.size_alloc] at h3
  refine ⟨((h1.alloc _).alloc _).drew, (h2.alloc _).drew, h3.drew, ?_⟩
  exact ((((Below.refl w.heap.size w).alloc (Nat.le_refl _) _).alloc (by rw [World.size_alloc]; omega) _).alloc (by rw [World.size_alloc, World.size_alloc]; omega) _).drew
theorem wp_upd2 {α : Type} {P : Program} {c : Code} {Q : Exit → Act → World → Prop} {a : Act} {w : World} (upd : α → Act → Act) (R : α → World → Prop) (h : c.wp P (Exit.then (fun a' w' => ∃ m, a' = upd m a ∧ R m w') (fun _ _ _ => False)) a w) (hK : ∀ m w', R m w' → Q .normal (upd m a) w') : c.wp P Q a w :=
  wp_mono h (by
    intro e a' w' h1
    cases e with
    | normal => obtain ⟨m, rfl, hr⟩ := h1; exact hK m _ hr
    | _ => exact False.elim h1)
set_option maxRecDepth 100000 in
set_option maxHeartbeats 6400000 in
theorem less000 (w : World) (c0 : Cf.C) (hc0 : c0.Ok) (s : Sh) (hck : chk c0 = some s) (hwn : ¬ c0.w < c0.n) (hn2 : ¬ c0.n < 255) (htt : ¬ 0 < c0.t) : Calls Try.prog 7 #[.agg (Cf.cV c0)] w fun e w' => e = .returned (.bool true) ∧ Below w.heap.size w w' := by
  have HW := Lib.hid works_calls
  have HC := Lib.hid (check_calls c0 hc0)
  rw [hck] at HC
  obtain ⟨⟨bn1, bn2⟩, ⟨bk1, bk2⟩, ⟨bd1, bd2⟩, ⟨br1, br2⟩, ⟨bt1, bt2⟩, ⟨bw1, bw2⟩⟩ := chk_bytes hck
  have Ht := Lib.hid (chk_t hck)
  have Hw := Lib.hid (chk_w hck)
  have Hn := Lib.hid (chk_n hck)
  have hcode := hc0.1
  clear hck hc0
  obtain ⟨code, n, k, d, r, t, ww⟩ := c0
  obtain ⟨sa, sb, ss, so⟩ := s
  unfold cV at HC ⊢
  dsimp only at HC bn1 bn2 bk1 bk2 bd1 bd2 br1 br2 bt1 bt2 bw1 bw2 Ht Hw Hn hcode hwn hn2 htt ⊢
  have HQ : Hid (∀ X : World, Calls Try.prog 8 #[.agg #[.int .u8 (code : Nat), .int .i64 n, .int .i64 k, .int .i64 d, .int .i64 r, .int .i64 t, .int .i64 ww]] X fun e w' => e = .returned (.tuple #[.agg #[.int .i64 sa, .int .i64 sb, .int .i64 ss, .int .i64 so, .int .i64 1], .int .i64 0]) ∧ Below X.heap.size X w') := HC
  have HB := Lib.hid ((Below.refl w.heap.size w).alloc (Nat.le_refl _) (.cells #[.int .u8 (code : Nat), .int .i64 n, .int .i64 k, .int .i64 d, .int .i64 r, .int .i64 t, .int .i64 ww] 23))
  have HK := Lib.hid (Block.new w 23 #[.int .u8 (code : Nat), .int .i64 n, .int .i64 k, .int .i64 d, .int .i64 r, .int .i64 t, .int .i64 ww])
  clear HC
  have dt : decide (0 < t) = false := decide_eq_false (by omega)
  have dw : decide (ww < n) = false := decide_eq_false hwn
  have dn : decide (n < 255) = false := decide_eq_false hn2
  clear Ht Hw Hn hcode
  go_enter Try.func7, Try.ntmps7
  go_wp2_with (go_at_call 8; (with_reducible refine (HQ.out _).mono ?_); rintro e w1 ⟨rfl, hb1⟩; have HB1 := Lib.hid (HB.out.trans (hb1.mono HB.out.size)); have HK1 := Lib.hid (HK.out.below hb1 HK.out.lt); clear hb1)
  obtain ⟨w2, hw2⟩ : ∃ w2, w1.alloc (.cells #[.int .i64 sa, .int .i64 sb, .int .i64 ss, .int .i64 so, .int .i64 1] 25) = w2 := ⟨_, rfl⟩
  obtain ⟨B1, hB1⟩ : ∃ B1, w1.heap.size = B1 := ⟨_, rfl⟩
  have hK2 : Block w2 w.heap.size 23 #[.int .u8 (code : Nat), .int .i64 n, .int .i64 k, .int .i64 d, .int .i64 r, .int .i64 t, .int .i64 ww] := by rw [← hw2]; exact HK1.out.alloc _
  have hS2 : Block w2 B1 25 #[.int .i64 sa, .int .i64 sb, .int .i64 ss, .int .i64 so, .int .i64 1] := by rw [← hw2, ← hB1]; exact Block.new w1 _ _
  have HB2 : Hid (Below w.heap.size w w2) := Lib.hid (by rw [← hw2]; exact HB1.out.alloc HB1.out.size _)
  rw [hw2, hB1]
  clear hw2 hB1 HB1 HK1 HB HK HQ
  have HSc : Hid (∀ X : World, Block X w.heap.size 23 #[.int .u8 (code : Nat), .int .i64 n, .int .i64 k, .int .i64 d, .int .i64 r, .int .i64 t, .int .i64 ww] → (fun X => X.cell? ⟨w.heap.size, 0, none⟩ = some (.int .u8 (code : Nat)) ∧ X.cell? ⟨w.heap.size, 1, none⟩ = some (.int .i64 n) ∧ X.cell? ⟨w.heap.size, 2, none⟩ = some (.int .i64 k) ∧ X.cell? ⟨w.heap.size, 3, none⟩ = some (.int .i64 d) ∧ X.cell? ⟨w.heap.size, 4, none⟩ = some (.int .i64 r) ∧ X.cell? ⟨w.heap.size, 5, none⟩ = some (.int .i64 t) ∧ X.cell? ⟨w.heap.size, 6, none⟩ = some (.int .i64 ww)) X) := Lib.hid fun X h => ⟨h.cell 0, h.cell 1, h.cell 2, h.cell 3, h.cell 4, h.cell 5, h.cell 6⟩
  have HK2 := Lib.hid hK2
  have HS2 := Lib.hid hS2
  clear hK2 hS2
  obtain ⟨t1, t2, t3, t4⟩ := three w2 #[.int .u8 (code : Nat), .int .i64 n, .int .i64 k, .int .i64 d, .int .i64 r, .int .i64 t, .int .i64 ww] 23
  have HT := Lib.hid (And.intro t1 (And.intro t2 (And.intro t3 t4)))
  clear t1 t2 t3 t4
  apply wp_upd2 (α := Nat × Nat × Nat) (upd := fun m a => { a with tmps := (((((a.tmps.setIfInBounds 22 (.agg #[.int .u8 (code : Nat), .int .i64 n, .int .i64 k, .int .i64 d, .int .i64 r, .int .i64 t, .int .i64 ww])).setIfInBounds 23 (.agg #[.int .u8 (code : Nat), .int .i64 n, .int .i64 k, .int .i64 d, .int .i64 r, .int .i64 t, .int .i64 ww])).setIfInBounds 24 (.agg #[.int .u8 (code : Nat), .int .i64 n, .int .i64 k, .int .i64 d, .int .i64 r, .int .i64 t, .int .i64 ww])).setIfInBounds 5 (.pointer (some ⟨m.1, 0, none⟩))).setIfInBounds 6 (.pointer (some ⟨m.2.1, 0, none⟩))).setIfInBounds 7 (.pointer (some ⟨m.2.2, 0, none⟩)) }) (R := fun m V => (Block V m.1 23 #[.int .u8 (code : Nat), .int .i64 n, .int .i64 k, .int .i64 d, .int .i64 r, .int .i64 t, .int .i64 ww] ∧ Block V m.2.1 23 #[.int .u8 (code : Nat), .int .i64 n, .int .i64 k, .int .i64 d, .int .i64 r, .int .i64 t, .int .i64 ww] ∧ Block V m.2.2 23 #[.int .u8 (code : Nat), .int .i64 n, .int .i64 k, .int .i64 d, .int .i64 r, .int .i64 t, .int .i64 ww]) ∧ (m.1 ≠ m.2.1 ∧ m.1 ≠ m.2.2 ∧ m.2.1 ≠ m.2.2) ∧ (w2.heap.size ≤ m.1 ∧ w2.heap.size ≤ m.2.1 ∧ w2.heap.size ≤ m.2.2) ∧ Below w2.heap.size w2 V)
  · go_region_held (fun X => X.cell? ⟨w.heap.size, 0, none⟩ = some (.int .u8 (code : Nat)) ∧ X.cell? ⟨w.heap.size, 1, none⟩ = some (.int .i64 n) ∧ X.cell? ⟨w.heap.size, 2, none⟩ = some (.int .i64 k) ∧ X.cell? ⟨w.heap.size, 3, none⟩ = some (.int .i64 d) ∧ X.cell? ⟨w.heap.size, 4, none⟩ = some (.int .i64 r) ∧ X.cell? ⟨w.heap.size, 5, none⟩ = some (.int .i64 t) ∧ X.cell? ⟨w.heap.size, 6, none⟩ = some (.int .i64 ww)) (first | exact HSc.out _ HK2.out.drew | exact HSc.out _ (HK2.out.alloc _).drew | exact HSc.out _ ((HK2.out.alloc _).alloc _).drew | exact HSc.out _ (((HK2.out.alloc _).alloc _).alloc _).drew) (fail)
    all_goals first
      | exact ⟨(w2.heap.size, w2.heap.size + 1, w2.heap.size + 1 + 1), rfl, ⟨HT.out.1, HT.out.2.1, HT.out.2.2.1⟩, ⟨by dsimp only; omega, by dsimp only; omega, by dsimp only; omega⟩, ⟨by dsimp only; omega, by dsimp only; omega, by dsimp only; omega⟩, HT.out.2.2.2⟩
      | exact ⟨(w2.heap.size, w2.heap.size + 1 + 1, w2.heap.size + 1), rfl, ⟨HT.out.1, HT.out.2.2.1, HT.out.2.1⟩, ⟨by dsimp only; omega, by dsimp only; omega, by dsimp only; omega⟩, ⟨by dsimp only; omega, by dsimp only; omega, by dsimp only; omega⟩, HT.out.2.2.2⟩
      | exact ⟨(w2.heap.size + 1, w2.heap.size, w2.heap.size + 1 + 1), rfl, ⟨HT.out.2.1, HT.out.1, HT.out.2.2.1⟩, ⟨by dsimp only; omega, by dsimp only; omega, by dsimp only; omega⟩, ⟨by dsimp only; omega, by dsimp only; omega, by dsimp only; omega⟩, HT.out.2.2.2⟩
      | exact ⟨(w2.heap.size + 1, w2.heap.size + 1 + 1, w2.heap.size), rfl, ⟨HT.out.2.1, HT.out.2.2.1, HT.out.1⟩, ⟨by dsimp only; omega, by dsimp only; omega, by dsimp only; omega⟩, ⟨by dsimp only; omega, by dsimp only; omega, by dsimp only; omega⟩, HT.out.2.2.2⟩
      | exact ⟨(w2.heap.size + 1 + 1, w2.heap.size, w2.heap.size + 1), rfl, ⟨HT.out.2.2.1, HT.out.1, HT.out.2.1⟩, ⟨by dsimp only; omega, by dsimp only; omega, by dsimp only; omega⟩, ⟨by dsimp only; omega, by dsimp only; omega, by dsimp only; omega⟩, HT.out.2.2.2⟩
      | exact ⟨(w2.heap.size + 1 + 1, w2.heap.size + 1, w2.heap.size), rfl, ⟨HT.out.2.2.1, HT.out.2.1, HT.out.1⟩, ⟨by dsimp only; omega, by dsimp only; omega, by dsimp only; omega⟩, ⟨by dsimp only; omega, by dsimp only; omega, by dsimp only; omega⟩, HT.out.2.2.2⟩
  rintro ⟨pa, pb, pd⟩ V ⟨⟨ka, kb, kd⟩, ⟨nab, nad, nbd⟩, ⟨la, lb, ld⟩, hVb⟩
  dsimp only at ka kb kd nab nad nbd la lb ld
  have hkc := HK2.out.below hVb HK2.out.lt
  have hks := HS2.out.below hVb HS2.out.lt
  have hlc := HK2.out.lt
  have hls := HS2.out.lt
  have hB3 := HB2.out.trans (hVb.mono HB2.out.size)
  have hws := HB2.out.size
  clear HK2 HS2 HB2 HT HSc hVb
  obtain ⟨V1, hV1⟩ : ∃ V1, V.setCell ⟨pa, 5, none⟩ (.int .i64 (t - 1)) = V1 := ⟨_, rfl⟩
  obtain ⟨V2, hV2⟩ : ∃ V2, V1.setCell ⟨pb, 6, none⟩ (.int .i64 (ww + 1)) = V2 := ⟨_, rfl⟩
  obtain ⟨V3, hV3⟩ : ∃ V3, V2.setCell ⟨pd, 1, none⟩ (.int .i64 (n + 1)) = V3 := ⟨_, rfl⟩
  have ka3 : Block V3 pa 23 #[.int .u8 (code : Nat), .int .i64 n, .int .i64 k, .int .i64 d, .int .i64 r, .int .i64 (t - 1), .int .i64 ww] := by rw [← hV3, ← hV2, ← hV1]; exact ((ka.set_ 5 (.int .i64 (t - 1))).far (by exact nab) _).far (by exact nad) _
  have kb1 : Block V1 pb 23 #[.int .u8 (code : Nat), .int .i64 n, .int .i64 k, .int .i64 d, .int .i64 r, .int .i64 t, .int .i64 ww] := by rw [← hV1]; exact kb.far (by exact nab.symm) _
  have kb3 : Block V3 pb 23 #[.int .u8 (code : Nat), .int .i64 n, .int .i64 k, .int .i64 d, .int .i64 r, .int .i64 t, .int .i64 (ww + 1)] := by rw [← hV3, ← hV2]; exact (kb1.set_ 6 (.int .i64 (ww + 1))).far (by exact nbd) _
  have kd2 : Block V2 pd 23 #[.int .u8 (code : Nat), .int .i64 n, .int .i64 k, .int .i64 d, .int .i64 r, .int .i64 t, .int .i64 ww] := by rw [← hV2, ← hV1]; exact (kd.far (by exact nad.symm) _).far (by exact nbd.symm) _
  have kd3 : Block V3 pd 23 #[.int .u8 (code : Nat), .int .i64 (n + 1), .int .i64 k, .int .i64 d, .int .i64 r, .int .i64 t, .int .i64 ww] := by rw [← hV3]; exact kd2.set_ 1 (.int .i64 (n + 1))
  have kc3 : Block V3 w.heap.size 23 #[.int .u8 (code : Nat), .int .i64 n, .int .i64 k, .int .i64 d, .int .i64 r, .int .i64 t, .int .i64 ww] := by rw [← hV3, ← hV2, ← hV1]; exact ((hkc.far (show w.heap.size ≠ pa by omega) _).far (show w.heap.size ≠ pb by omega) _).far (show w.heap.size ≠ pd by omega) _
  have ks3 : Block V3 B1 25 #[.int .i64 sa, .int .i64 sb, .int .i64 ss, .int .i64 so, .int .i64 1] := by rw [← hV3, ← hV2, ← hV1]; exact ((hks.far (show B1 ≠ pa by omega) _).far (show B1 ≠ pb by omega) _).far (show B1 ≠ pd by omega) _
  have HB4 : Hid (Below w.heap.size w V3) := Lib.hid (by rw [← hV3, ← hV2, ← hV1]; exact ((hB3.setCell (show w.heap.size ≤ pa by omega) _).setCell (show w.heap.size ≤ pb by omega) _).setCell (show w.heap.size ≤ pd by omega) _)
  have a5 : V.cell? ⟨pa, 5, none⟩ = some (.int .i64 t) := ka.cell 5
  have af : V.frozen? ⟨pa, 5, none⟩ = false := ka.frozen 5
  have b6 : V1.cell? ⟨pb, 6, none⟩ = some (.int .i64 ww) := kb1.cell 6
  have bf : V1.frozen? ⟨pb, 6, none⟩ = false := kb1.frozen 6
  have d1 : V2.cell? ⟨pd, 1, none⟩ = some (.int .i64 n) := kd2.cell 1
  have df : V2.frozen? ⟨pd, 1, none⟩ = false := kd2.frozen 1
  have e1 : IntKind.i64.wrap (t - 1) = t - 1 := i64w (by omega) (by omega)
  have e2 : IntKind.i64.wrap (ww + 1) = ww + 1 := i64w (by omega) (by omega)
  have e3 : IntKind.i64.wrap (n + 1) = n + 1 := i64w (by omega) (by omega)
  have hEq := eq_shape
  have x0 : V3.cell? ⟨w.heap.size, 0, none⟩ = some (.int .u8 (code : Nat)) := kc3.cell 0
  have x1 : V3.cell? ⟨w.heap.size, 1, none⟩ = some (.int .i64 n) := kc3.cell 1
  have x2 : V3.cell? ⟨w.heap.size, 2, none⟩ = some (.int .i64 k) := kc3.cell 2
  have x3 : V3.cell? ⟨w.heap.size, 3, none⟩ = some (.int .i64 d) := kc3.cell 3
  have x4 : V3.cell? ⟨w.heap.size, 4, none⟩ = some (.int .i64 r) := kc3.cell 4
  have x5 : V3.cell? ⟨w.heap.size, 5, none⟩ = some (.int .i64 t) := kc3.cell 5
  have x6 : V3.cell? ⟨w.heap.size, 6, none⟩ = some (.int .i64 ww) := kc3.cell 6
  have y0 : V3.cell? ⟨B1, 0, none⟩ = some (.int .i64 sa) := ks3.cell 0
  have y1 : V3.cell? ⟨B1, 1, none⟩ = some (.int .i64 sb) := ks3.cell 1
  have y2 : V3.cell? ⟨B1, 2, none⟩ = some (.int .i64 ss) := ks3.cell 2
  have y3 : V3.cell? ⟨B1, 3, none⟩ = some (.int .i64 so) := ks3.cell 3
  have y4 : V3.cell? ⟨B1, 4, none⟩ = some (.int .i64 1) := ks3.cell 4
  have p0 : V3.cell? ⟨pa, 0, none⟩ = some (.int .u8 (code : Nat)) := ka3.cell 0
  have p1 : V3.cell? ⟨pa, 1, none⟩ = some (.int .i64 n) := ka3.cell 1
  have p2 : V3.cell? ⟨pa, 2, none⟩ = some (.int .i64 k) := ka3.cell 2
  have p3 : V3.cell? ⟨pa, 3, none⟩ = some (.int .i64 d) := ka3.cell 3
  have p4 : V3.cell? ⟨pa, 4, none⟩ = some (.int .i64 r) := ka3.cell 4
  have p5 : V3.cell? ⟨pa, 5, none⟩ = some (.int .i64 (t - 1)) := ka3.cell 5
  have p6 : V3.cell? ⟨pa, 6, none⟩ = some (.int .i64 ww) := ka3.cell 6
  have q0 : V3.cell? ⟨pb, 0, none⟩ = some (.int .u8 (code : Nat)) := kb3.cell 0
  have q1 : V3.cell? ⟨pb, 1, none⟩ = some (.int .i64 n) := kb3.cell 1
  have q2 : V3.cell? ⟨pb, 2, none⟩ = some (.int .i64 k) := kb3.cell 2
  have q3 : V3.cell? ⟨pb, 3, none⟩ = some (.int .i64 d) := kb3.cell 3
  have q4 : V3.cell? ⟨pb, 4, none⟩ = some (.int .i64 r) := kb3.cell 4
  have q5 : V3.cell? ⟨pb, 5, none⟩ = some (.int .i64 t) := kb3.cell 5
  have q6 : V3.cell? ⟨pb, 6, none⟩ = some (.int .i64 (ww + 1)) := kb3.cell 6
  have z0 : V3.cell? ⟨pd, 0, none⟩ = some (.int .u8 (code : Nat)) := kd3.cell 0
  have z1 : V3.cell? ⟨pd, 1, none⟩ = some (.int .i64 (n + 1)) := kd3.cell 1
  have z2 : V3.cell? ⟨pd, 2, none⟩ = some (.int .i64 k) := kd3.cell 2
  have z3 : V3.cell? ⟨pd, 3, none⟩ = some (.int .i64 d) := kd3.cell 3
  have z4 : V3.cell? ⟨pd, 4, none⟩ = some (.int .i64 r) := kd3.cell 4
  have z5 : V3.cell? ⟨pd, 5, none⟩ = some (.int .i64 t) := kd3.cell 5
  have z6 : V3.cell? ⟨pd, 6, none⟩ = some (.int .i64 ww) := kd3.cell 6
  have KC := Lib.hid kc3
  have KS := Lib.hid ks3
  have KA := Lib.hid ka3
  have KB := Lib.hid kb3
  have KD := Lib.hid kd3
  clear ka kb kd kb1 kd2 ka3 kb3 kd3 kc3 ks3 hkc hks hB3 nab nad nbd
  dsimp only
  go_wp2_with (first | (go_at_call 13; (with_reducible refine (HW.out _).mono ?_); rintro e uw ⟨rfl, hb⟩; have HBw := Lib.hid (HB4.out.trans (hb.mono HB4.out.size)); clear hb))
  go_ret
  exact ⟨rfl, HBw.out⟩
set_option maxRecDepth 100000 in
set_option maxHeartbeats 6400000 in
theorem less001 (w : World) (c0 : Cf.C) (hc0 : c0.Ok) (s : Sh) (hck : chk c0 = some s) (hwn : ¬ c0.w < c0.n) (hn2 : c0.n < 255) (hco : c0.code = 1) (htt : ¬ 0 < c0.t) : Calls Try.prog 7 #[.agg (Cf.cV c0)] w fun e w' => e = .returned (.bool true) ∧ Below w.heap.size w w' := by
  have HW := Lib.hid works_calls
  have HC := Lib.hid (check_calls c0 hc0)
  rw [hck] at HC
  obtain ⟨⟨bn1, bn2⟩, ⟨bk1, bk2⟩, ⟨bd1, bd2⟩, ⟨br1, br2⟩, ⟨bt1, bt2⟩, ⟨bw1, bw2⟩⟩ := chk_bytes hck
  have Ht := Lib.hid (chk_t hck)
  have Hw := Lib.hid (chk_w hck)
  have Hn := Lib.hid (chk_n hck)
  have hcode := hc0.1
  clear hck hc0
  obtain ⟨code, n, k, d, r, t, ww⟩ := c0
  obtain ⟨sa, sb, ss, so⟩ := s
  unfold cV at HC ⊢
  dsimp only at HC bn1 bn2 bk1 bk2 bd1 bd2 br1 br2 bt1 bt2 bw1 bw2 Ht Hw Hn hcode hwn hn2 htt hco ⊢
  have HQ : Hid (∀ X : World, Calls Try.prog 8 #[.agg #[.int .u8 (code : Nat), .int .i64 n, .int .i64 k, .int .i64 d, .int .i64 r, .int .i64 t, .int .i64 ww]] X fun e w' => e = .returned (.tuple #[.agg #[.int .i64 sa, .int .i64 sb, .int .i64 ss, .int .i64 so, .int .i64 1], .int .i64 0]) ∧ Below X.heap.size X w') := HC
  have HB := Lib.hid ((Below.refl w.heap.size w).alloc (Nat.le_refl _) (.cells #[.int .u8 (code : Nat), .int .i64 n, .int .i64 k, .int .i64 d, .int .i64 r, .int .i64 t, .int .i64 ww] 23))
  have HK := Lib.hid (Block.new w 23 #[.int .u8 (code : Nat), .int .i64 n, .int .i64 k, .int .i64 d, .int .i64 r, .int .i64 t, .int .i64 ww])
  clear HC
  have hcd : code = 1 ∨ code = 3 := by omega
  have dt : decide (0 < t) = false := decide_eq_false (by omega)
  have dw : decide (ww < n) = false := decide_eq_false hwn
  have HQD : Hid (∀ X : World, Calls Try.prog 8 #[.agg #[.int .u8 (code : Nat), .int .i64 (n + 1), .int .i64 k, .int .i64 d, .int .i64 r, .int .i64 t, .int .i64 ww]] X fun e w' => e = .returned (.tuple #[.agg #[.int .i64 sa, .int .i64 sb, .int .i64 ss, .int .i64 so, .int .i64 1], .int .i64 0]) ∧ Below X.heap.size X w') := by
    have h := Lib.hid (check_calls ⟨code, n + 1, k, d, r, t, ww⟩ (by unfold C.Ok; dsimp only; omega))
    rw [Hn.out hn2 hcd] at h
    exact h
  have dn : decide (n < 255) = true := decide_eq_true hn2
  have dc1 : ((code : Int) == 1) = true := by simp; omega
  clear Ht Hw Hn hcode hco hcd
  go_enter Try.func7, Try.ntmps7
  go_wp2_with (go_at_call 8; (with_reducible refine (HQ.out _).mono ?_); rintro e w1 ⟨rfl, hb1⟩; have HB1 := Lib.hid (HB.out.trans (hb1.mono HB.out.size)); have HK1 := Lib.hid (HK.out.below hb1 HK.out.lt); clear hb1)
  obtain ⟨w2, hw2⟩ : ∃ w2, w1.alloc (.cells #[.int .i64 sa, .int .i64 sb, .int .i64 ss, .int .i64 so, .int .i64 1] 25) = w2 := ⟨_, rfl⟩
  obtain ⟨B1, hB1⟩ : ∃ B1, w1.heap.size = B1 := ⟨_, rfl⟩
  have hK2 : Block w2 w.heap.size 23 #[.int .u8 (code : Nat), .int .i64 n, .int .i64 k, .int .i64 d, .int .i64 r, .int .i64 t, .int .i64 ww] := by rw [← hw2]; exact HK1.out.alloc _
  have hS2 : Block w2 B1 25 #[.int .i64 sa, .int .i64 sb, .int .i64 ss, .int .i64 so, .int .i64 1] := by rw [← hw2, ← hB1]; exact Block.new w1 _ _
  have HB2 : Hid (Below w.heap.size w w2) := Lib.hid (by rw [← hw2]; exact HB1.out.alloc HB1.out.size _)
  rw [hw2, hB1]
  clear hw2 hB1 HB1 HK1 HB HK HQ
  have HSc : Hid (∀ X : World, Block X w.heap.size 23 #[.int .u8 (code : Nat), .int .i64 n, .int .i64 k, .int .i64 d, .int .i64 r, .int .i64 t, .int .i64 ww] → (fun X => X.cell? ⟨w.heap.size, 0, none⟩ = some (.int .u8 (code : Nat)) ∧ X.cell? ⟨w.heap.size, 1, none⟩ = some (.int .i64 n) ∧ X.cell? ⟨w.heap.size, 2, none⟩ = some (.int .i64 k) ∧ X.cell? ⟨w.heap.size, 3, none⟩ = some (.int .i64 d) ∧ X.cell? ⟨w.heap.size, 4, none⟩ = some (.int .i64 r) ∧ X.cell? ⟨w.heap.size, 5, none⟩ = some (.int .i64 t) ∧ X.cell? ⟨w.heap.size, 6, none⟩ = some (.int .i64 ww)) X) := Lib.hid fun X h => ⟨h.cell 0, h.cell 1, h.cell 2, h.cell 3, h.cell 4, h.cell 5, h.cell 6⟩
  have HK2 := Lib.hid hK2
  have HS2 := Lib.hid hS2
  clear hK2 hS2
  obtain ⟨t1, t2, t3, t4⟩ := three w2 #[.int .u8 (code : Nat), .int .i64 n, .int .i64 k, .int .i64 d, .int .i64 r, .int .i64 t, .int .i64 ww] 23
  have HT := Lib.hid (And.intro t1 (And.intro t2 (And.intro t3 t4)))
  clear t1 t2 t3 t4
  apply wp_upd2 (α := Nat × Nat × Nat) (upd := fun m a => { a with tmps := (((((a.tmps.setIfInBounds 22 (.agg #[.int .u8 (code : Nat), .int .i64 n, .int .i64 k, .int .i64 d, .int .i64 r, .int .i64 t, .int .i64 ww])).setIfInBounds 23 (.agg #[.int .u8 (code : Nat), .int .i64 n, .int .i64 k, .int .i64 d, .int .i64 r, .int .i64 t, .int .i64 ww])).setIfInBounds 24 (.agg #[.int .u8 (code : Nat), .int .i64 n, .int .i64 k, .int .i64 d, .int .i64 r, .int .i64 t, .int .i64 ww])).setIfInBounds 5 (.pointer (some ⟨m.1, 0, none⟩))).setIfInBounds 6 (.pointer (some ⟨m.2.1, 0, none⟩))).setIfInBounds 7 (.pointer (some ⟨m.2.2, 0, none⟩)) }) (R := fun m V => (Block V m.1 23 #[.int .u8 (code : Nat), .int .i64 n, .int .i64 k, .int .i64 d, .int .i64 r, .int .i64 t, .int .i64 ww] ∧ Block V m.2.1 23 #[.int .u8 (code : Nat), .int .i64 n, .int .i64 k, .int .i64 d, .int .i64 r, .int .i64 t, .int .i64 ww] ∧ Block V m.2.2 23 #[.int .u8 (code : Nat), .int .i64 n, .int .i64 k, .int .i64 d, .int .i64 r, .int .i64 t, .int .i64 ww]) ∧ (m.1 ≠ m.2.1 ∧ m.1 ≠ m.2.2 ∧ m.2.1 ≠ m.2.2) ∧ (w2.heap.size ≤ m.1 ∧ w2.heap.size ≤ m.2.1 ∧ w2.heap.size ≤ m.2.2) ∧ Below w2.heap.size w2 V)
  · go_region_held (fun X => X.cell? ⟨w.heap.size, 0, none⟩ = some (.int .u8 (code : Nat)) ∧ X.cell? ⟨w.heap.size, 1, none⟩ = some (.int .i64 n) ∧ X.cell? ⟨w.heap.size, 2, none⟩ = some (.int .i64 k) ∧ X.cell? ⟨w.heap.size, 3, none⟩ = some (.int .i64 d) ∧ X.cell? ⟨w.heap.size, 4, none⟩ = some (.int .i64 r) ∧ X.cell? ⟨w.heap.size, 5, none⟩ = some (.int .i64 t) ∧ X.cell? ⟨w.heap.size, 6, none⟩ = some (.int .i64 ww)) (first | exact HSc.out _ HK2.out.drew | exact HSc.out _ (HK2.out.alloc _).drew | exact HSc.out _ ((HK2.out.alloc _).alloc _).drew | exact HSc.out _ (((HK2.out.alloc _).alloc _).alloc _).drew) (fail)
    all_goals first
      | exact ⟨(w2.heap.size, w2.heap.size + 1, w2.heap.size + 1 + 1), rfl, ⟨HT.out.1, HT.out.2.1, HT.out.2.2.1⟩, ⟨by dsimp only; omega, by dsimp only; omega, by dsimp only; omega⟩, ⟨by dsimp only; omega, by dsimp only; omega, by dsimp only; omega⟩, HT.out.2.2.2⟩
      | exact ⟨(w2.heap.size, w2.heap.size + 1 + 1, w2.heap.size + 1), rfl, ⟨HT.out.1, HT.out.2.2.1, HT.out.2.1⟩, ⟨by dsimp only; omega, by dsimp only; omega, by dsimp only; omega⟩, ⟨by dsimp only; omega, by dsimp only; omega, by dsimp only; omega⟩, HT.out.2.2.2⟩
      | exact ⟨(w2.heap.size + 1, w2.heap.size, w2.heap.size + 1 + 1), rfl, ⟨HT.out.2.1, HT.out.1, HT.out.2.2.1⟩, ⟨by dsimp only; omega, by dsimp only; omega, by dsimp only; omega⟩, ⟨by dsimp only; omega, by dsimp only; omega, by dsimp only; omega⟩, HT.out.2.2.2⟩
      | exact ⟨(w2.heap.size + 1, w2.heap.size + 1 + 1, w2.heap.size), rfl, ⟨HT.out.2.1, HT.out.2.2.1, HT.out.1⟩, ⟨by dsimp only; omega, by dsimp only; omega, by dsimp only; omega⟩, ⟨by dsimp only; omega, by dsimp only; omega, by dsimp only; omega⟩, HT.out.2.2.2⟩
      | exact ⟨(w2.heap.size + 1 + 1, w2.heap.size, w2.heap.size + 1), rfl, ⟨HT.out.2.2.1, HT.out.1, HT.out.2.1⟩, ⟨by dsimp only; omega, by dsimp only; omega, by dsimp only; omega⟩, ⟨by dsimp only; omega, by dsimp only; omega, by dsimp only; omega⟩, HT.out.2.2.2⟩
      | exact ⟨(w2.heap.size + 1 + 1, w2.heap.size + 1, w2.heap.size), rfl, ⟨HT.out.2.2.1, HT.out.2.1, HT.out.1⟩, ⟨by dsimp only; omega, by dsimp only; omega, by dsimp only; omega⟩, ⟨by dsimp only; omega, by dsimp only; omega, by dsimp only; omega⟩, HT.out.2.2.2⟩
  rintro ⟨pa, pb, pd⟩ V ⟨⟨ka, kb, kd⟩, ⟨nab, nad, nbd⟩, ⟨la, lb, ld⟩, hVb⟩
  dsimp only at ka kb kd nab nad nbd la lb ld
  have hkc := HK2.out.below hVb HK2.out.lt
  have hks := HS2.out.below hVb HS2.out.lt
  have hlc := HK2.out.lt
  have hls := HS2.out.lt
  have hB3 := HB2.out.trans (hVb.mono HB2.out.size)
  have hws := HB2.out.size
  clear HK2 HS2 HB2 HT HSc hVb
  obtain ⟨V1, hV1⟩ : ∃ V1, V.setCell ⟨pa, 5, none⟩ (.int .i64 (t - 1)) = V1 := ⟨_, rfl⟩
  obtain ⟨V2, hV2⟩ : ∃ V2, V1.setCell ⟨pb, 6, none⟩ (.int .i64 (ww + 1)) = V2 := ⟨_, rfl⟩
  obtain ⟨V3, hV3⟩ : ∃ V3, V2.setCell ⟨pd, 1, none⟩ (.int .i64 (n + 1)) = V3 := ⟨_, rfl⟩
  have ka3 : Block V3 pa 23 #[.int .u8 (code : Nat), .int .i64 n, .int .i64 k, .int .i64 d, .int .i64 r, .int .i64 (t - 1), .int .i64 ww] := by rw [← hV3, ← hV2, ← hV1]; exact ((ka.set_ 5 (.int .i64 (t - 1))).far (by exact nab) _).far (by exact nad) _
  have kb1 : Block V1 pb 23 #[.int .u8 (code : Nat), .int .i64 n, .int .i64 k, .int .i64 d, .int .i64 r, .int .i64 t, .int .i64 ww] := by rw [← hV1]; exact kb.far (by exact nab.symm) _
  have kb3 : Block V3 pb 23 #[.int .u8 (code : Nat), .int .i64 n, .int .i64 k, .int .i64 d, .int .i64 r, .int .i64 t, .int .i64 (ww + 1)] := by rw [← hV3, ← hV2]; exact (kb1.set_ 6 (.int .i64 (ww + 1))).far (by exact nbd) _
  have kd2 : Block V2 pd 23 #[.int .u8 (code : Nat), .int .i64 n, .int .i64 k, .int .i64 d, .int .i64 r, .int .i64 t, .int .i64 ww] := by rw [← hV2, ← hV1]; exact (kd.far (by exact nad.symm) _).far (by exact nbd.symm) _
  have kd3 : Block V3 pd 23 #[.int .u8 (code : Nat), .int .i64 (n + 1), .int .i64 k, .int .i64 d, .int .i64 r, .int .i64 t, .int .i64 ww] := by rw [← hV3]; exact kd2.set_ 1 (.int .i64 (n + 1))
  have kc3 : Block V3 w.heap.size 23 #[.int .u8 (code : Nat), .int .i64 n, .int .i64 k, .int .i64 d, .int .i64 r, .int .i64 t, .int .i64 ww] := by rw [← hV3, ← hV2, ← hV1]; exact ((hkc.far (show w.heap.size ≠ pa by omega) _).far (show w.heap.size ≠ pb by omega) _).far (show w.heap.size ≠ pd by omega) _
  have ks3 : Block V3 B1 25 #[.int .i64 sa, .int .i64 sb, .int .i64 ss, .int .i64 so, .int .i64 1] := by rw [← hV3, ← hV2, ← hV1]; exact ((hks.far (show B1 ≠ pa by omega) _).far (show B1 ≠ pb by omega) _).far (show B1 ≠ pd by omega) _
  have HB4 : Hid (Below w.heap.size w V3) := Lib.hid (by rw [← hV3, ← hV2, ← hV1]; exact ((hB3.setCell (show w.heap.size ≤ pa by omega) _).setCell (show w.heap.size ≤ pb by omega) _).setCell (show w.heap.size ≤ pd by omega) _)
  have a5 : V.cell? ⟨pa, 5, none⟩ = some (.int .i64 t) := ka.cell 5
  have af : V.frozen? ⟨pa, 5, none⟩ = false := ka.frozen 5
  have b6 : V1.cell? ⟨pb, 6, none⟩ = some (.int .i64 ww) := kb1.cell 6
  have bf : V1.frozen? ⟨pb, 6, none⟩ = false := kb1.frozen 6
  have d1 : V2.cell? ⟨pd, 1, none⟩ = some (.int .i64 n) := kd2.cell 1
  have df : V2.frozen? ⟨pd, 1, none⟩ = false := kd2.frozen 1
  have e1 : IntKind.i64.wrap (t - 1) = t - 1 := i64w (by omega) (by omega)
  have e2 : IntKind.i64.wrap (ww + 1) = ww + 1 := i64w (by omega) (by omega)
  have e3 : IntKind.i64.wrap (n + 1) = n + 1 := i64w (by omega) (by omega)
  have hEq := eq_shape
  have x0 : V3.cell? ⟨w.heap.size, 0, none⟩ = some (.int .u8 (code : Nat)) := kc3.cell 0
  have x1 : V3.cell? ⟨w.heap.size, 1, none⟩ = some (.int .i64 n) := kc3.cell 1
  have x2 : V3.cell? ⟨w.heap.size, 2, none⟩ = some (.int .i64 k) := kc3.cell 2
  have x3 : V3.cell? ⟨w.heap.size, 3, none⟩ = some (.int .i64 d) := kc3.cell 3
  have x4 : V3.cell? ⟨w.heap.size, 4, none⟩ = some (.int .i64 r) := kc3.cell 4
  have x5 : V3.cell? ⟨w.heap.size, 5, none⟩ = some (.int .i64 t) := kc3.cell 5
  have x6 : V3.cell? ⟨w.heap.size, 6, none⟩ = some (.int .i64 ww) := kc3.cell 6
  have y0 : V3.cell? ⟨B1, 0, none⟩ = some (.int .i64 sa) := ks3.cell 0
  have y1 : V3.cell? ⟨B1, 1, none⟩ = some (.int .i64 sb) := ks3.cell 1
  have y2 : V3.cell? ⟨B1, 2, none⟩ = some (.int .i64 ss) := ks3.cell 2
  have y3 : V3.cell? ⟨B1, 3, none⟩ = some (.int .i64 so) := ks3.cell 3
  have y4 : V3.cell? ⟨B1, 4, none⟩ = some (.int .i64 1) := ks3.cell 4
  have p0 : V3.cell? ⟨pa, 0, none⟩ = some (.int .u8 (code : Nat)) := ka3.cell 0
  have p1 : V3.cell? ⟨pa, 1, none⟩ = some (.int .i64 n) := ka3.cell 1
  have p2 : V3.cell? ⟨pa, 2, none⟩ = some (.int .i64 k) := ka3.cell 2
  have p3 : V3.cell? ⟨pa, 3, none⟩ = some (.int .i64 d) := ka3.cell 3
  have p4 : V3.cell? ⟨pa, 4, none⟩ = some (.int .i64 r) := ka3.cell 4
  have p5 : V3.cell? ⟨pa, 5, none⟩ = some (.int .i64 (t - 1)) := ka3.cell 5
  have p6 : V3.cell? ⟨pa, 6, none⟩ = some (.int .i64 ww) := ka3.cell 6
  have q0 : V3.cell? ⟨pb, 0, none⟩ = some (.int .u8 (code : Nat)) := kb3.cell 0
  have q1 : V3.cell? ⟨pb, 1, none⟩ = some (.int .i64 n) := kb3.cell 1
  have q2 : V3.cell? ⟨pb, 2, none⟩ = some (.int .i64 k) := kb3.cell 2
  have q3 : V3.cell? ⟨pb, 3, none⟩ = some (.int .i64 d) := kb3.cell 3
  have q4 : V3.cell? ⟨pb, 4, none⟩ = some (.int .i64 r) := kb3.cell 4
  have q5 : V3.cell? ⟨pb, 5, none⟩ = some (.int .i64 t) := kb3.cell 5
  have q6 : V3.cell? ⟨pb, 6, none⟩ = some (.int .i64 (ww + 1)) := kb3.cell 6
  have z0 : V3.cell? ⟨pd, 0, none⟩ = some (.int .u8 (code : Nat)) := kd3.cell 0
  have z1 : V3.cell? ⟨pd, 1, none⟩ = some (.int .i64 (n + 1)) := kd3.cell 1
  have z2 : V3.cell? ⟨pd, 2, none⟩ = some (.int .i64 k) := kd3.cell 2
  have z3 : V3.cell? ⟨pd, 3, none⟩ = some (.int .i64 d) := kd3.cell 3
  have z4 : V3.cell? ⟨pd, 4, none⟩ = some (.int .i64 r) := kd3.cell 4
  have z5 : V3.cell? ⟨pd, 5, none⟩ = some (.int .i64 t) := kd3.cell 5
  have z6 : V3.cell? ⟨pd, 6, none⟩ = some (.int .i64 ww) := kd3.cell 6
  have KC := Lib.hid kc3
  have KS := Lib.hid ks3
  have KA := Lib.hid ka3
  have KB := Lib.hid kb3
  have KD := Lib.hid kd3
  clear ka kb kd kb1 kd2 ka3 kb3 kd3 kc3 ks3 hkc hks hB3 nab nad nbd
  dsimp only
  go_wp2_with (first | (go_at_call 8; (with_reducible refine (HQD.out _).mono ?_); rintro e u1 ⟨rfl, hb⟩; have HBu1 := Lib.hid (HB4.out.trans (hb.mono HB4.out.size)); have kc3 := KC.out.below hb KC.out.lt; have ks3 := KS.out.below hb KS.out.lt; have ka3 := KA.out.below hb KA.out.lt; have kb3 := KB.out.below hb KB.out.lt; have kd3 := KD.out.below hb KD.out.lt; have x0 : u1.cell? ⟨w.heap.size, 0, none⟩ = some (.int .u8 (code : Nat)) := kc3.cell 0; have x1 : u1.cell? ⟨w.heap.size, 1, none⟩ = some (.int .i64 n) := kc3.cell 1; have x2 : u1.cell? ⟨w.heap.size, 2, none⟩ = some (.int .i64 k) := kc3.cell 2; have x3 : u1.cell? ⟨w.heap.size, 3, none⟩ = some (.int .i64 d) := kc3.cell 3; have x4 : u1.cell? ⟨w.heap.size, 4, none⟩ = some (.int .i64 r) := kc3.cell 4; have x5 : u1.cell? ⟨w.heap.size, 5, none⟩ = some (.int .i64 t) := kc3.cell 5; have x6 : u1.cell? ⟨w.heap.size, 6, none⟩ = some (.int .i64 ww) := kc3.cell 6; have y0 : u1.cell? ⟨B1, 0, none⟩ = some (.int .i64 sa) := ks3.cell 0; have y1 : u1.cell? ⟨B1, 1, none⟩ = some (.int .i64 sb) := ks3.cell 1; have y2 : u1.cell? ⟨B1, 2, none⟩ = some (.int .i64 ss) := ks3.cell 2; have y3 : u1.cell? ⟨B1, 3, none⟩ = some (.int .i64 so) := ks3.cell 3; have y4 : u1.cell? ⟨B1, 4, none⟩ = some (.int .i64 1) := ks3.cell 4; have p0 : u1.cell? ⟨pa, 0, none⟩ = some (.int .u8 (code : Nat)) := ka3.cell 0; have p1 : u1.cell? ⟨pa, 1, none⟩ = some (.int .i64 n) := ka3.cell 1; have p2 : u1.cell? ⟨pa, 2, none⟩ = some (.int .i64 k) := ka3.cell 2; have p3 : u1.cell? ⟨pa, 3, none⟩ = some (.int .i64 d) := ka3.cell 3; have p4 : u1.cell? ⟨pa, 4, none⟩ = some (.int .i64 r) := ka3.cell 4; have p5 : u1.cell? ⟨pa, 5, none⟩ = some (.int .i64 (t - 1)) := ka3.cell 5; have p6 : u1.cell? ⟨pa, 6, none⟩ = some (.int .i64 ww) := ka3.cell 6; have q0 : u1.cell? ⟨pb, 0, none⟩ = some (.int .u8 (code : Nat)) := kb3.cell 0; have q1 : u1.cell? ⟨pb, 1, none⟩ = some (.int .i64 n) := kb3.cell 1; have q2 : u1.cell? ⟨pb, 2, none⟩ = some (.int .i64 k) := kb3.cell 2; have q3 : u1.cell? ⟨pb, 3, none⟩ = some (.int .i64 d) := kb3.cell 3; have q4 : u1.cell? ⟨pb, 4, none⟩ = some (.int .i64 r) := kb3.cell 4; have q5 : u1.cell? ⟨pb, 5, none⟩ = some (.int .i64 t) := kb3.cell 5; have q6 : u1.cell? ⟨pb, 6, none⟩ = some (.int .i64 (ww + 1)) := kb3.cell 6; have z0 : u1.cell? ⟨pd, 0, none⟩ = some (.int .u8 (code : Nat)) := kd3.cell 0; have z1 : u1.cell? ⟨pd, 1, none⟩ = some (.int .i64 (n + 1)) := kd3.cell 1; have z2 : u1.cell? ⟨pd, 2, none⟩ = some (.int .i64 k) := kd3.cell 2; have z3 : u1.cell? ⟨pd, 3, none⟩ = some (.int .i64 d) := kd3.cell 3; have z4 : u1.cell? ⟨pd, 4, none⟩ = some (.int .i64 r) := kd3.cell 4; have z5 : u1.cell? ⟨pd, 5, none⟩ = some (.int .i64 t) := kd3.cell 5; have z6 : u1.cell? ⟨pd, 6, none⟩ = some (.int .i64 ww) := kd3.cell 6; have lkc3 := kc3.lt; replace KC := Lib.hid kc3; have lks3 := ks3.lt; replace KS := Lib.hid ks3; have lka3 := ka3.lt; replace KA := Lib.hid ka3; have lkb3 := kb3.lt; replace KB := Lib.hid kb3; have lkd3 := kd3.lt; replace KD := Lib.hid kd3; clear hb kc3 ks3 ka3 kb3 kd3) | (go_at_call 13; (with_reducible refine (HW.out _).mono ?_); rintro e uw ⟨rfl, hb⟩; have HBw := Lib.hid ((HBu1.out.alloc HBu1.out.size (.cells #[.int .i64 sa, .int .i64 sb, .int .i64 ss, .int .i64 so, .int .i64 1] 25)).trans (hb.mono (HBu1.out.alloc HBu1.out.size (.cells #[.int .i64 sa, .int .i64 sb, .int .i64 ss, .int .i64 so, .int .i64 1] 25)).size)); clear hb))
  go_ret
  exact ⟨rfl, HBw.out⟩
set_option maxRecDepth 100000 in
set_option maxHeartbeats 6400000 in
theorem less002 (w : World) (c0 : Cf.C) (hc0 : c0.Ok) (s : Sh) (hck : chk c0 = some s) (hwn : ¬ c0.w < c0.n) (hn2 : c0.n < 255) (hco : c0.code = 3) (htt : ¬ 0 < c0.t) : Calls Try.prog 7 #[.agg (Cf.cV c0)] w fun e w' => e = .returned (.bool true) ∧ Below w.heap.size w w' := by
  have HW := Lib.hid works_calls
  have HC := Lib.hid (check_calls c0 hc0)
  rw [hck] at HC
  obtain ⟨⟨bn1, bn2⟩, ⟨bk1, bk2⟩, ⟨bd1, bd2⟩, ⟨br1, br2⟩, ⟨bt1, bt2⟩, ⟨bw1, bw2⟩⟩ := chk_bytes hck
  have Ht := Lib.hid (chk_t hck)
  have Hw := Lib.hid (chk_w hck)
  have Hn := Lib.hid (chk_n hck)
  have hcode := hc0.1
  clear hck hc0
  obtain ⟨code, n, k, d, r, t, ww⟩ := c0
  obtain ⟨sa, sb, ss, so⟩ := s
  unfold cV at HC ⊢
  dsimp only at HC bn1 bn2 bk1 bk2 bd1 bd2 br1 br2 bt1 bt2 bw1 bw2 Ht Hw Hn hcode hwn hn2 htt hco ⊢
  have HQ : Hid (∀ X : World, Calls Try.prog 8 #[.agg #[.int .u8 (code : Nat), .int .i64 n, .int .i64 k, .int .i64 d, .int .i64 r, .int .i64 t, .int .i64 ww]] X fun e w' => e = .returned (.tuple #[.agg #[.int .i64 sa, .int .i64 sb, .int .i64 ss, .int .i64 so, .int .i64 1], .int .i64 0]) ∧ Below X.heap.size X w') := HC
  have HB := Lib.hid ((Below.refl w.heap.size w).alloc (Nat.le_refl _) (.cells #[.int .u8 (code : Nat), .int .i64 n, .int .i64 k, .int .i64 d, .int .i64 r, .int .i64 t, .int .i64 ww] 23))
  have HK := Lib.hid (Block.new w 23 #[.int .u8 (code : Nat), .int .i64 n, .int .i64 k, .int .i64 d, .int .i64 r, .int .i64 t, .int .i64 ww])
  clear HC
  have hcd : code = 1 ∨ code = 3 := by omega
  have dt : decide (0 < t) = false := decide_eq_false (by omega)
  have dw : decide (ww < n) = false := decide_eq_false hwn
  have HQD : Hid (∀ X : World, Calls Try.prog 8 #[.agg #[.int .u8 (code : Nat), .int .i64 (n + 1), .int .i64 k, .int .i64 d, .int .i64 r, .int .i64 t, .int .i64 ww]] X fun e w' => e = .returned (.tuple #[.agg #[.int .i64 sa, .int .i64 sb, .int .i64 ss, .int .i64 so, .int .i64 1], .int .i64 0]) ∧ Below X.heap.size X w') := by
    have h := Lib.hid (check_calls ⟨code, n + 1, k, d, r, t, ww⟩ (by unfold C.Ok; dsimp only; omega))
    rw [Hn.out hn2 hcd] at h
    exact h
  have dn : decide (n < 255) = true := decide_eq_true hn2
  have dc1 : ((code : Int) == 1) = false := by simp; omega
  have dc3 : ((code : Int) == 3) = true := by simp; omega
  clear Ht Hw Hn hcode hco hcd
  go_enter Try.func7, Try.ntmps7
  go_wp2_with (go_at_call 8; (with_reducible refine (HQ.out _).mono ?_); rintro e w1 ⟨rfl, hb1⟩; have HB1 := Lib.hid (HB.out.trans (hb1.mono HB.out.size)); have HK1 := Lib.hid (HK.out.below hb1 HK.out.lt); clear hb1)
  obtain ⟨w2, hw2⟩ : ∃ w2, w1.alloc (.cells #[.int .i64 sa, .int .i64 sb, .int .i64 ss, .int .i64 so, .int .i64 1] 25) = w2 := ⟨_, rfl⟩
  obtain ⟨B1, hB1⟩ : ∃ B1, w1.heap.size = B1 := ⟨_, rfl⟩
  have hK2 : Block w2 w.heap.size 23 #[.int .u8 (code : Nat), .int .i64 n, .int .i64 k, .int .i64 d, .int .i64 r, .int .i64 t, .int .i64 ww] := by rw [← hw2]; exact HK1.out.alloc _
  have hS2 : Block w2 B1 25 #[.int .i64 sa, .int .i64 sb, .int .i64 ss, .int .i64 so, .int .i64 1] := by rw [← hw2, ← hB1]; exact Block.new w1 _ _
  have HB2 : Hid (Below w.heap.size w w2) := Lib.hid (by rw [← hw2]; exact HB1.out.alloc HB1.out.size _)
  rw [hw2, hB1]
  clear hw2 hB1 HB1 HK1 HB HK HQ
  have HSc : Hid (∀ X : World, Block X w.heap.size 23 #[.int .u8 (code : Nat), .int .i64 n, .int .i64 k, .int .i64 d, .int .i64 r, .int .i64 t, .int .i64 ww] → (fun X => X.cell? ⟨w.heap.size, 0, none⟩ = some (.int .u8 (code : Nat)) ∧ X.cell? ⟨w.heap.size, 1, none⟩ = some (.int .i64 n) ∧ X.cell? ⟨w.heap.size, 2, none⟩ = some (.int .i64 k) ∧ X.cell? ⟨w.heap.size, 3, none⟩ = some (.int .i64 d) ∧ X.cell? ⟨w.heap.size, 4, none⟩ = some (.int .i64 r) ∧ X.cell? ⟨w.heap.size, 5, none⟩ = some (.int .i64 t) ∧ X.cell? ⟨w.heap.size, 6, none⟩ = some (.int .i64 ww)) X) := Lib.hid fun X h => ⟨h.cell 0, h.cell 1, h.cell 2, h.cell 3, h.cell 4, h.cell 5, h.cell 6⟩
  have HK2 := Lib.hid hK2
  have HS2 := Lib.hid hS2
  clear hK2 hS2
  obtain ⟨t1, t2, t3, t4⟩ := three w2 #[.int .u8 (code : Nat), .int .i64 n, .int .i64 k, .int .i64 d, .int .i64 r, .int .i64 t, .int .i64 ww] 23
  have HT := Lib.hid (And.intro t1 (And.intro t2 (And.intro t3 t4)))
  clear t1 t2 t3 t4
  apply wp_upd2 (α := Nat × Nat × Nat) (upd := fun m a => { a with tmps := (((((a.tmps.setIfInBounds 22 (.agg #[.int .u8 (code : Nat), .int .i64 n, .int .i64 k, .int .i64 d, .int .i64 r, .int .i64 t, .int .i64 ww])).setIfInBounds 23 (.agg #[.int .u8 (code : Nat), .int .i64 n, .int .i64 k, .int .i64 d, .int .i64 r, .int .i64 t, .int .i64 ww])).setIfInBounds 24 (.agg #[.int .u8 (code : Nat), .int .i64 n, .int .i64 k, .int .i64 d, .int .i64 r, .int .i64 t, .int .i64 ww])).setIfInBounds 5 (.pointer (some ⟨m.1, 0, none⟩))).setIfInBounds 6 (.pointer (some ⟨m.2.1, 0, none⟩))).setIfInBounds 7 (.pointer (some ⟨m.2.2, 0, none⟩)) }) (R := fun m V => (Block V m.1 23 #[.int .u8 (code : Nat), .int .i64 n, .int .i64 k, .int .i64 d, .int .i64 r, .int .i64 t, .int .i64 ww] ∧ Block V m.2.1 23 #[.int .u8 (code : Nat), .int .i64 n, .int .i64 k, .int .i64 d, .int .i64 r, .int .i64 t, .int .i64 ww] ∧ Block V m.2.2 23 #[.int .u8 (code : Nat), .int .i64 n, .int .i64 k, .int .i64 d, .int .i64 r, .int .i64 t, .int .i64 ww]) ∧ (m.1 ≠ m.2.1 ∧ m.1 ≠ m.2.2 ∧ m.2.1 ≠ m.2.2) ∧ (w2.heap.size ≤ m.1 ∧ w2.heap.size ≤ m.2.1 ∧ w2.heap.size ≤ m.2.2) ∧ Below w2.heap.size w2 V)
  · go_region_held (fun X => X.cell? ⟨w.heap.size, 0, none⟩ = some (.int .u8 (code : Nat)) ∧ X.cell? ⟨w.heap.size, 1, none⟩ = some (.int .i64 n) ∧ X.cell? ⟨w.heap.size, 2, none⟩ = some (.int .i64 k) ∧ X.cell? ⟨w.heap.size, 3, none⟩ = some (.int .i64 d) ∧ X.cell? ⟨w.heap.size, 4, none⟩ = some (.int .i64 r) ∧ X.cell? ⟨w.heap.size, 5, none⟩ = some (.int .i64 t) ∧ X.cell? ⟨w.heap.size, 6, none⟩ = some (.int .i64 ww)) (first | exact HSc.out _ HK2.out.drew | exact HSc.out _ (HK2.out.alloc _).drew | exact HSc.out _ ((HK2.out.alloc _).alloc _).drew | exact HSc.out _ (((HK2.out.alloc _).alloc _).alloc _).drew) (fail)
    all_goals first
      | exact ⟨(w2.heap.size, w2.heap.size + 1, w2.heap.size + 1 + 1), rfl, ⟨HT.out.1, HT.out.2.1, HT.out.2.2.1⟩, ⟨by dsimp only; omega, by dsimp only; omega, by dsimp only; omega⟩, ⟨by dsimp only; omega, by dsimp only; omega, by dsimp only; omega⟩, HT.out.2.2.2⟩
      | exact ⟨(w2.heap.size, w2.heap.size + 1 + 1, w2.heap.size + 1), rfl, ⟨HT.out.1, HT.out.2.2.1, HT.out.2.1⟩, ⟨by dsimp only; omega, by dsimp only; omega, by dsimp only; omega⟩, ⟨by dsimp only; omega, by dsimp only; omega, by dsimp only; omega⟩, HT.out.2.2.2⟩
      | exact ⟨(w2.heap.size + 1, w2.heap.size, w2.heap.size + 1 + 1), rfl, ⟨HT.out.2.1, HT.out.1, HT.out.2.2.1⟩, ⟨by dsimp only; omega, by dsimp only; omega, by dsimp only; omega⟩, ⟨by dsimp only; omega, by dsimp only; omega, by dsimp only; omega⟩, HT.out.2.2.2⟩
      | exact ⟨(w2.heap.size + 1, w2.heap.size + 1 + 1, w2.heap.size), rfl, ⟨HT.out.2.1, HT.out.2.2.1, HT.out.1⟩, ⟨by dsimp only; omega, by dsimp only; omega, by dsimp only; omega⟩, ⟨by dsimp only; omega, by dsimp only; omega, by dsimp only; omega⟩, HT.out.2.2.2⟩
      | exact ⟨(w2.heap.size + 1 + 1, w2.heap.size, w2.heap.size + 1), rfl, ⟨HT.out.2.2.1, HT.out.1, HT.out.2.1⟩, ⟨by dsimp only; omega, by dsimp only; omega, by dsimp only; omega⟩, ⟨by dsimp only; omega, by dsimp only; omega, by dsimp only; omega⟩, HT.out.2.2.2⟩
      | exact ⟨(w2.heap.size + 1 + 1, w2.heap.size + 1, w2.heap.size), rfl, ⟨HT.out.2.2.1, HT.out.2.1, HT.out.1⟩, ⟨by dsimp only; omega, by dsimp only; omega, by dsimp only; omega⟩, ⟨by dsimp only; omega, by dsimp only; omega, by dsimp only; omega⟩, HT.out.2.2.2⟩
  rintro ⟨pa, pb, pd⟩ V ⟨⟨ka, kb, kd⟩, ⟨nab, nad, nbd⟩, ⟨la, lb, ld⟩, hVb⟩
  dsimp only at ka kb kd nab nad nbd la lb ld
  have hkc := HK2.out.below hVb HK2.out.lt
  have hks := HS2.out.below hVb HS2.out.lt
  have hlc := HK2.out.lt
  have hls := HS2.out.lt
  have hB3 := HB2.out.trans (hVb.mono HB2.out.size)
  have hws := HB2.out.size
  clear HK2 HS2 HB2 HT HSc hVb
  obtain ⟨V1, hV1⟩ : ∃ V1, V.setCell ⟨pa, 5, none⟩ (.int .i64 (t - 1)) = V1 := ⟨_, rfl⟩
  obtain ⟨V2, hV2⟩ : ∃ V2, V1.setCell ⟨pb, 6, none⟩ (.int .i64 (ww + 1)) = V2 := ⟨_, rfl⟩
  obtain ⟨V3, hV3⟩ : ∃ V3, V2.setCell ⟨pd, 1, none⟩ (.int .i64 (n + 1)) = V3 := ⟨_, rfl⟩
  have ka3 : Block V3 pa 23 #[.int .u8 (code : Nat), .int .i64 n, .int .i64 k, .int .i64 d, .int .i64 r, .int .i64 (t - 1), .int .i64 ww] := by rw [← hV3, ← hV2, ← hV1]; exact ((ka.set_ 5 (.int .i64 (t - 1))).far (by exact nab) _).far (by exact nad) _
  have kb1 : Block V1 pb 23 #[.int .u8 (code : Nat), .int .i64 n, .int .i64 k, .int .i64 d, .int .i64 r, .int .i64 t, .int .i64 ww] := by rw [← hV1]; exact kb.far (by exact nab.symm) _
  have kb3 : Block V3 pb 23 #[.int .u8 (code : Nat), .int .i64 n, .int .i64 k, .int .i64 d, .int .i64 r, .int .i64 t, .int .i64 (ww + 1)] := by rw [← hV3, ← hV2]; exact (kb1.set_ 6 (.int .i64 (ww + 1))).far (by exact nbd) _
  have kd2 : Block V2 pd 23 #[.int .u8 (code : Nat), .int .i64 n, .int .i64 k, .int .i64 d, .int .i64 r, .int .i64 t, .int .i64 ww] := by rw [← hV2, ← hV1]; exact (kd.far (by exact nad.symm) _).far (by exact nbd.symm) _
  have kd3 : Block V3 pd 23 #[.int .u8 (code : Nat), .int .i64 (n + 1), .int .i64 k, .int .i64 d, .int .i64 r, .int .i64 t, .int .i64 ww] := by rw [← hV3]; exact kd2.set_ 1 (.int .i64 (n + 1))
  have kc3 : Block V3 w.heap.size 23 #[.int .u8 (code : Nat), .int .i64 n, .int .i64 k, .int .i64 d, .int .i64 r, .int .i64 t, .int .i64 ww] := by rw [← hV3, ← hV2, ← hV1]; exact ((hkc.far (show w.heap.size ≠ pa by omega) _).far (show w.heap.size ≠ pb by omega) _).far (show w.heap.size ≠ pd by omega) _
  have ks3 : Block V3 B1 25 #[.int .i64 sa, .int .i64 sb, .int .i64 ss, .int .i64 so, .int .i64 1] := by rw [← hV3, ← hV2, ← hV1]; exact ((hks.far (show B1 ≠ pa by omega) _).far (show B1 ≠ pb by omega) _).far (show B1 ≠ pd by omega) _
  have HB4 : Hid (Below w.heap.size w V3) := Lib.hid (by rw [← hV3, ← hV2, ← hV1]; exact ((hB3.setCell (show w.heap.size ≤ pa by omega) _).setCell (show w.heap.size ≤ pb by omega) _).setCell (show w.heap.size ≤ pd by omega) _)
  have a5 : V.cell? ⟨pa, 5, none⟩ = some (.int .i64 t) := ka.cell 5
  have af : V.frozen? ⟨pa, 5, none⟩ = false := ka.frozen 5
  have b6 : V1.cell? ⟨pb, 6, none⟩ = some (.int .i64 ww) := kb1.cell 6
  have bf : V1.frozen? ⟨pb, 6, none⟩ = false := kb1.frozen 6
  have d1 : V2.cell? ⟨pd, 1, none⟩ = some (.int .i64 n) := kd2.cell 1
  have df : V2.frozen? ⟨pd, 1, none⟩ = false := kd2.frozen 1
  have e1 : IntKind.i64.wrap (t - 1) = t - 1 := i64w (by omega) (by omega)
  have e2 : IntKind.i64.wrap (ww + 1) = ww + 1 := i64w (by omega) (by omega)
  have e3 : IntKind.i64.wrap (n + 1) = n + 1 := i64w (by omega) (by omega)
  have hEq := eq_shape
  have x0 : V3.cell? ⟨w.heap.size, 0, none⟩ = some (.int .u8 (code : Nat)) := kc3.cell 0
  have x1 : V3.cell? ⟨w.heap.size, 1, none⟩ = some (.int .i64 n) := kc3.cell 1
  have x2 : V3.cell? ⟨w.heap.size, 2, none⟩ = some (.int .i64 k) := kc3.cell 2
  have x3 : V3.cell? ⟨w.heap.size, 3, none⟩ = some (.int .i64 d) := kc3.cell 3
  have x4 : V3.cell? ⟨w.heap.size, 4, none⟩ = some (.int .i64 r) := kc3.cell 4
  have x5 : V3.cell? ⟨w.heap.size, 5, none⟩ = some (.int .i64 t) := kc3.cell 5
  have x6 : V3.cell? ⟨w.heap.size, 6, none⟩ = some (.int .i64 ww) := kc3.cell 6
  have y0 : V3.cell? ⟨B1, 0, none⟩ = some (.int .i64 sa) := ks3.cell 0
  have y1 : V3.cell? ⟨B1, 1, none⟩ = some (.int .i64 sb) := ks3.cell 1
  have y2 : V3.cell? ⟨B1, 2, none⟩ = some (.int .i64 ss) := ks3.cell 2
  have y3 : V3.cell? ⟨B1, 3, none⟩ = some (.int .i64 so) := ks3.cell 3
  have y4 : V3.cell? ⟨B1, 4, none⟩ = some (.int .i64 1) := ks3.cell 4
  have p0 : V3.cell? ⟨pa, 0, none⟩ = some (.int .u8 (code : Nat)) := ka3.cell 0
  have p1 : V3.cell? ⟨pa, 1, none⟩ = some (.int .i64 n) := ka3.cell 1
  have p2 : V3.cell? ⟨pa, 2, none⟩ = some (.int .i64 k) := ka3.cell 2
  have p3 : V3.cell? ⟨pa, 3, none⟩ = some (.int .i64 d) := ka3.cell 3
  have p4 : V3.cell? ⟨pa, 4, none⟩ = some (.int .i64 r) := ka3.cell 4
  have p5 : V3.cell? ⟨pa, 5, none⟩ = some (.int .i64 (t - 1)) := ka3.cell 5
  have p6 : V3.cell? ⟨pa, 6, none⟩ = some (.int .i64 ww) := ka3.cell 6
  have q0 : V3.cell? ⟨pb, 0, none⟩ = some (.int .u8 (code : Nat)) := kb3.cell 0
  have q1 : V3.cell? ⟨pb, 1, none⟩ = some (.int .i64 n) := kb3.cell 1
  have q2 : V3.cell? ⟨pb, 2, none⟩ = some (.int .i64 k) := kb3.cell 2
  have q3 : V3.cell? ⟨pb, 3, none⟩ = some (.int .i64 d) := kb3.cell 3
  have q4 : V3.cell? ⟨pb, 4, none⟩ = some (.int .i64 r) := kb3.cell 4
  have q5 : V3.cell? ⟨pb, 5, none⟩ = some (.int .i64 t) := kb3.cell 5
  have q6 : V3.cell? ⟨pb, 6, none⟩ = some (.int .i64 (ww + 1)) := kb3.cell 6
  have z0 : V3.cell? ⟨pd, 0, none⟩ = some (.int .u8 (code : Nat)) := kd3.cell 0
  have z1 : V3.cell? ⟨pd, 1, none⟩ = some (.int .i64 (n + 1)) := kd3.cell 1
  have z2 : V3.cell? ⟨pd, 2, none⟩ = some (.int .i64 k) := kd3.cell 2
  have z3 : V3.cell? ⟨pd, 3, none⟩ = some (.int .i64 d) := kd3.cell 3
  have z4 : V3.cell? ⟨pd, 4, none⟩ = some (.int .i64 r) := kd3.cell 4
  have z5 : V3.cell? ⟨pd, 5, none⟩ = some (.int .i64 t) := kd3.cell 5
  have z6 : V3.cell? ⟨pd, 6, none⟩ = some (.int .i64 ww) := kd3.cell 6
  have KC := Lib.hid kc3
  have KS := Lib.hid ks3
  have KA := Lib.hid ka3
  have KB := Lib.hid kb3
  have KD := Lib.hid kd3
  clear ka kb kd kb1 kd2 ka3 kb3 kd3 kc3 ks3 hkc hks hB3 nab nad nbd
  dsimp only
  go_wp2_with (first | (go_at_call 8; (with_reducible refine (HQD.out _).mono ?_); rintro e u1 ⟨rfl, hb⟩; have HBu1 := Lib.hid (HB4.out.trans (hb.mono HB4.out.size)); have kc3 := KC.out.below hb KC.out.lt; have ks3 := KS.out.below hb KS.out.lt; have ka3 := KA.out.below hb KA.out.lt; have kb3 := KB.out.below hb KB.out.lt; have kd3 := KD.out.below hb KD.out.lt; have x0 : u1.cell? ⟨w.heap.size, 0, none⟩ = some (.int .u8 (code : Nat)) := kc3.cell 0; have x1 : u1.cell? ⟨w.heap.size, 1, none⟩ = some (.int .i64 n) := kc3.cell 1; have x2 : u1.cell? ⟨w.heap.size, 2, none⟩ = some (.int .i64 k) := kc3.cell 2; have x3 : u1.cell? ⟨w.heap.size, 3, none⟩ = some (.int .i64 d) := kc3.cell 3; have x4 : u1.cell? ⟨w.heap.size, 4, none⟩ = some (.int .i64 r) := kc3.cell 4; have x5 : u1.cell? ⟨w.heap.size, 5, none⟩ = some (.int .i64 t) := kc3.cell 5; have x6 : u1.cell? ⟨w.heap.size, 6, none⟩ = some (.int .i64 ww) := kc3.cell 6; have y0 : u1.cell? ⟨B1, 0, none⟩ = some (.int .i64 sa) := ks3.cell 0; have y1 : u1.cell? ⟨B1, 1, none⟩ = some (.int .i64 sb) := ks3.cell 1; have y2 : u1.cell? ⟨B1, 2, none⟩ = some (.int .i64 ss) := ks3.cell 2; have y3 : u1.cell? ⟨B1, 3, none⟩ = some (.int .i64 so) := ks3.cell 3; have y4 : u1.cell? ⟨B1, 4, none⟩ = some (.int .i64 1) := ks3.cell 4; have p0 : u1.cell? ⟨pa, 0, none⟩ = some (.int .u8 (code : Nat)) := ka3.cell 0; have p1 : u1.cell? ⟨pa, 1, none⟩ = some (.int .i64 n) := ka3.cell 1; have p2 : u1.cell? ⟨pa, 2, none⟩ = some (.int .i64 k) := ka3.cell 2; have p3 : u1.cell? ⟨pa, 3, none⟩ = some (.int .i64 d) := ka3.cell 3; have p4 : u1.cell? ⟨pa, 4, none⟩ = some (.int .i64 r) := ka3.cell 4; have p5 : u1.cell? ⟨pa, 5, none⟩ = some (.int .i64 (t - 1)) := ka3.cell 5; have p6 : u1.cell? ⟨pa, 6, none⟩ = some (.int .i64 ww) := ka3.cell 6; have q0 : u1.cell? ⟨pb, 0, none⟩ = some (.int .u8 (code : Nat)) := kb3.cell 0; have q1 : u1.cell? ⟨pb, 1, none⟩ = some (.int .i64 n) := kb3.cell 1; have q2 : u1.cell? ⟨pb, 2, none⟩ = some (.int .i64 k) := kb3.cell 2; have q3 : u1.cell? ⟨pb, 3, none⟩ = some (.int .i64 d) := kb3.cell 3; have q4 : u1.cell? ⟨pb, 4, none⟩ = some (.int .i64 r) := kb3.cell 4; have q5 : u1.cell? ⟨pb, 5, none⟩ = some (.int .i64 t) := kb3.cell 5; have q6 : u1.cell? ⟨pb, 6, none⟩ = some (.int .i64 (ww + 1)) := kb3.cell 6; have z0 : u1.cell? ⟨pd, 0, none⟩ = some (.int .u8 (code : Nat)) := kd3.cell 0; have z1 : u1.cell? ⟨pd, 1, none⟩ = some (.int .i64 (n + 1)) := kd3.cell 1; have z2 : u1.cell? ⟨pd, 2, none⟩ = some (.int .i64 k) := kd3.cell 2; have z3 : u1.cell? ⟨pd, 3, none⟩ = some (.int .i64 d) := kd3.cell 3; have z4 : u1.cell? ⟨pd, 4, none⟩ = some (.int .i64 r) := kd3.cell 4; have z5 : u1.cell? ⟨pd, 5, none⟩ = some (.int .i64 t) := kd3.cell 5; have z6 : u1.cell? ⟨pd, 6, none⟩ = some (.int .i64 ww) := kd3.cell 6; have lkc3 := kc3.lt; replace KC := Lib.hid kc3; have lks3 := ks3.lt; replace KS := Lib.hid ks3; have lka3 := ka3.lt; replace KA := Lib.hid ka3; have lkb3 := kb3.lt; replace KB := Lib.hid kb3; have lkd3 := kd3.lt; replace KD := Lib.hid kd3; clear hb kc3 ks3 ka3 kb3 kd3) | (go_at_call 13; (with_reducible refine (HW.out _).mono ?_); rintro e uw ⟨rfl, hb⟩; have HBw := Lib.hid ((HBu1.out.alloc HBu1.out.size (.cells #[.int .i64 sa, .int .i64 sb, .int .i64 ss, .int .i64 so, .int .i64 1] 25)).trans (hb.mono (HBu1.out.alloc HBu1.out.size (.cells #[.int .i64 sa, .int .i64 sb, .int .i64 ss, .int .i64 so, .int .i64 1] 25)).size)); clear hb))
  go_ret
  exact ⟨rfl, HBw.out⟩
set_option maxRecDepth 100000 in
set_option maxHeartbeats 6400000 in
theorem less003 (w : World) (c0 : Cf.C) (hc0 : c0.Ok) (s : Sh) (hck : chk c0 = some s) (hwn : ¬ c0.w < c0.n) (hn2 : c0.n < 255) (hco1 : c0.code ≠ 1) (hco3 : c0.code ≠ 3) (htt : ¬ 0 < c0.t) : Calls Try.prog 7 #[.agg (Cf.cV c0)] w fun e w' => e = .returned (.bool true) ∧ Below w.heap.size w w' := by
  have HW := Lib.hid works_calls
  have HC := Lib.hid (check_calls c0 hc0)
  rw [hck] at HC
  obtain ⟨⟨bn1, bn2⟩, ⟨bk1, bk2⟩, ⟨bd1, bd2⟩, ⟨br1, br2⟩, ⟨bt1, bt2⟩, ⟨bw1, bw2⟩⟩ := chk_bytes hck
  have Ht := Lib.hid (chk_t hck)
  have Hw := Lib.hid (chk_w hck)
  have Hn := Lib.hid (chk_n hck)
  have hcode := hc0.1
  clear hck hc0
  obtain ⟨code, n, k, d, r, t, ww⟩ := c0
  obtain ⟨sa, sb, ss, so⟩ := s
  unfold cV at HC ⊢
  dsimp only at HC bn1 bn2 bk1 bk2 bd1 bd2 br1 br2 bt1 bt2 bw1 bw2 Ht Hw Hn hcode hwn hn2 htt hco1 hco3 ⊢
  have HQ : Hid (∀ X : World, Calls Try.prog 8 #[.agg #[.int .u8 (code : Nat), .int .i64 n, .int .i64 k, .int .i64 d, .int .i64 r, .int .i64 t, .int .i64 ww]] X fun e w' => e = .returned (.tuple #[.agg #[.int .i64 sa, .int .i64 sb, .int .i64 ss, .int .i64 so, .int .i64 1], .int .i64 0]) ∧ Below X.heap.size X w') := HC
  have HB := Lib.hid ((Below.refl w.heap.size w).alloc (Nat.le_refl _) (.cells #[.int .u8 (code : Nat), .int .i64 n, .int .i64 k, .int .i64 d, .int .i64 r, .int .i64 t, .int .i64 ww] 23))
  have HK := Lib.hid (Block.new w 23 #[.int .u8 (code : Nat), .int .i64 n, .int .i64 k, .int .i64 d, .int .i64 r, .int .i64 t, .int .i64 ww])
  clear HC
  have dt : decide (0 < t) = false := decide_eq_false (by omega)
  have dw : decide (ww < n) = false := decide_eq_false hwn
  have dn : decide (n < 255) = true := decide_eq_true hn2
  have dc1 : ((code : Int) == 1) = false := by simp; omega
  have dc3 : ((code : Int) == 3) = false := by simp; omega
  clear Ht Hw Hn hcode hco1 hco3
  go_enter Try.func7, Try.ntmps7
  go_wp2_with (go_at_call 8; (with_reducible refine (HQ.out _).mono ?_); rintro e w1 ⟨rfl, hb1⟩; have HB1 := Lib.hid (HB.out.trans (hb1.mono HB.out.size)); have HK1 := Lib.hid (HK.out.below hb1 HK.out.lt); clear hb1)
  obtain ⟨w2, hw2⟩ : ∃ w2, w1.alloc (.cells #[.int .i64 sa, .int .i64 sb, .int .i64 ss, .int .i64 so, .int .i64 1] 25) = w2 := ⟨_, rfl⟩
  obtain ⟨B1, hB1⟩ : ∃ B1, w1.heap.size = B1 := ⟨_, rfl⟩
  have hK2 : Block w2 w.heap.size 23 #[.int .u8 (code : Nat), .int .i64 n, .int .i64 k, .int .i64 d, .int .i64 r, .int .i64 t, .int .i64 ww] := by rw [← hw2]; exact HK1.out.alloc _
  have hS2 : Block w2 B1 25 #[.int .i64 sa, .int .i64 sb, .int .i64 ss, .int .i64 so, .int .i64 1] := by rw [← hw2, ← hB1]; exact Block.new w1 _ _
  have HB2 : Hid (Below w.heap.size w w2) := Lib.hid (by rw [← hw2]; exact HB1.out.alloc HB1.out.size _)
  rw [hw2, hB1]
  clear hw2 hB1 HB1 HK1 HB HK HQ
  have HSc : Hid (∀ X : World, Block X w.heap.size 23 #[.int .u8 (code : Nat), .int .i64 n, .int .i64 k, .int .i64 d, .int .i64 r, .int .i64 t, .int .i64 ww] → (fun X => X.cell? ⟨w.heap.size, 0, none⟩ = some (.int .u8 (code : Nat)) ∧ X.cell? ⟨w.heap.size, 1, none⟩ = some (.int .i64 n) ∧ X.cell? ⟨w.heap.size, 2, none⟩ = some (.int .i64 k) ∧ X.cell? ⟨w.heap.size, 3, none⟩ = some (.int .i64 d) ∧ X.cell? ⟨w.heap.size, 4, none⟩ = some (.int .i64 r) ∧ X.cell? ⟨w.heap.size, 5, none⟩ = some (.int .i64 t) ∧ X.cell? ⟨w.heap.size, 6, none⟩ = some (.int .i64 ww)) X) := Lib.hid fun X h => ⟨h.cell 0, h.cell 1, h.cell 2, h.cell 3, h.cell 4, h.cell 5, h.cell 6⟩
  have HK2 := Lib.hid hK2
  have HS2 := Lib.hid hS2
  clear hK2 hS2
  obtain ⟨t1, t2, t3, t4⟩ := three w2 #[.int .u8 (code : Nat), .int .i64 n, .int .i64 k, .int .i64 d, .int .i64 r, .int .i64 t, .int .i64 ww] 23
  have HT := Lib.hid (And.intro t1 (And.intro t2 (And.intro t3 t4)))
  clear t1 t2 t3 t4
  apply wp_upd2 (α := Nat × Nat × Nat) (upd := fun m a => { a with tmps := (((((a.tmps.setIfInBounds 22 (.agg #[.int .u8 (code : Nat), .int .i64 n, .int .i64 k, .int .i64 d, .int .i64 r, .int .i64 t, .int .i64 ww])).setIfInBounds 23 (.agg #[.int .u8 (code : Nat), .int .i64 n, .int .i64 k, .int .i64 d, .int .i64 r, .int .i64 t, .int .i64 ww])).setIfInBounds 24 (.agg #[.int .u8 (code : Nat), .int .i64 n, .int .i64 k, .int .i64 d, .int .i64 r, .int .i64 t, .int .i64 ww])).setIfInBounds 5 (.pointer (some ⟨m.1, 0, none⟩))).setIfInBounds 6 (.pointer (some ⟨m.2.1, 0, none⟩))).setIfInBounds 7 (.pointer (some ⟨m.2.2, 0, none⟩)) }) (R := fun m V => (Block V m.1 23 #[.int .u8 (code : Nat), .int .i64 n, .int .i64 k, .int .i64 d, .int .i64 r, .int .i64 t, .int .i64 ww] ∧ Block V m.2.1 23 #[.int .u8 (code : Nat), .int .i64 n, .int .i64 k, .int .i64 d, .int .i64 r, .int .i64 t, .int .i64 ww] ∧ Block V m.2.2 23 #[.int .u8 (code : Nat), .int .i64 n, .int .i64 k, .int .i64 d, .int .i64 r, .int .i64 t, .int .i64 ww]) ∧ (m.1 ≠ m.2.1 ∧ m.1 ≠ m.2.2 ∧ m.2.1 ≠ m.2.2) ∧ (w2.heap.size ≤ m.1 ∧ w2.heap.size ≤ m.2.1 ∧ w2.heap.size ≤ m.2.2) ∧ Below w2.heap.size w2 V)
  · go_region_held (fun X => X.cell? ⟨w.heap.size, 0, none⟩ = some (.int .u8 (code : Nat)) ∧ X.cell? ⟨w.heap.size, 1, none⟩ = some (.int .i64 n) ∧ X.cell? ⟨w.heap.size, 2, none⟩ = some (.int .i64 k) ∧ X.cell? ⟨w.heap.size, 3, none⟩ = some (.int .i64 d) ∧ X.cell? ⟨w.heap.size, 4, none⟩ = some (.int .i64 r) ∧ X.cell? ⟨w.heap.size, 5, none⟩ = some (.int .i64 t) ∧ X.cell? ⟨w.heap.size, 6, none⟩ = some (.int .i64 ww)) (first | exact HSc.out _ HK2.out.drew | exact HSc.out _ (HK2.out.alloc _).drew | exact HSc.out _ ((HK2.out.alloc _).alloc _).drew | exact HSc.out _ (((HK2.out.alloc _).alloc _).alloc _).drew) (fail)
    all_goals first
      | exact ⟨(w2.heap.size, w2.heap.size + 1, w2.heap.size + 1 + 1), rfl, ⟨HT.out.1, HT.out.2.1, HT.out.2.2.1⟩, ⟨by dsimp only; omega, by dsimp only; omega, by dsimp only; omega⟩, ⟨by dsimp only; omega, by dsimp only; omega, by dsimp only; omega⟩, HT.out.2.2.2⟩
      | exact ⟨(w2.heap.size, w2.heap.size + 1 + 1, w2.heap.size + 1), rfl, ⟨HT.out.1, HT.out.2.2.1, HT.out.2.1⟩, ⟨by dsimp only; omega, by dsimp only; omega, by dsimp only; omega⟩, ⟨by dsimp only; omega, by dsimp only; omega, by dsimp only; omega⟩, HT.out.2.2.2⟩
      | exact ⟨(w2.heap.size + 1, w2.heap.size, w2.heap.size + 1 + 1), rfl, ⟨HT.out.2.1, HT.out.1, HT.out.2.2.1⟩, ⟨by dsimp only; omega, by dsimp only; omega, by dsimp only; omega⟩, ⟨by dsimp only; omega, by dsimp only; omega, by dsimp only; omega⟩, HT.out.2.2.2⟩
      | exact ⟨(w2.heap.size + 1, w2.heap.size + 1 + 1, w2.heap.size), rfl, ⟨HT.out.2.1, HT.out.2.2.1, HT.out.1⟩, ⟨by dsimp only; omega, by dsimp only; omega, by dsimp only; omega⟩, ⟨by dsimp only; omega, by dsimp only; omega, by dsimp only; omega⟩, HT.out.2.2.2⟩
      | exact ⟨(w2.heap.size + 1 + 1, w2.heap.size, w2.heap.size + 1), rfl, ⟨HT.out.2.2.1, HT.out.1, HT.out.2.1⟩, ⟨by dsimp only; omega, by dsimp only; omega, by dsimp only; omega⟩, ⟨by dsimp only; omega, by dsimp only; omega, by dsimp only; omega⟩, HT.out.2.2.2⟩
      | exact ⟨(w2.heap.size + 1 + 1, w2.heap.size + 1, w2.heap.size), rfl, ⟨HT.out.2.2.1, HT.out.2.1, HT.out.1⟩, ⟨by dsimp only; omega, by dsimp only; omega, by dsimp only; omega⟩, ⟨by dsimp only; omega, by dsimp only; omega, by dsimp only; omega⟩, HT.out.2.2.2⟩
  rintro ⟨pa, pb, pd⟩ V ⟨⟨ka, kb, kd⟩, ⟨nab, nad, nbd⟩, ⟨la, lb, ld⟩, hVb⟩
  dsimp only at ka kb kd nab nad nbd la lb ld
  have hkc := HK2.out.below hVb HK2.out.lt
  have hks := HS2.out.below hVb HS2.out.lt
  have hlc := HK2.out.lt
  have hls := HS2.out.lt
  have hB3 := HB2.out.trans (hVb.mono HB2.out.size)
  have hws := HB2.out.size
  clear HK2 HS2 HB2 HT HSc hVb
  obtain ⟨V1, hV1⟩ : ∃ V1, V.setCell ⟨pa, 5, none⟩ (.int .i64 (t - 1)) = V1 := ⟨_, rfl⟩
  obtain ⟨V2, hV2⟩ : ∃ V2, V1.setCell ⟨pb, 6, none⟩ (.int .i64 (ww + 1)) = V2 := ⟨_, rfl⟩
  obtain ⟨V3, hV3⟩ : ∃ V3, V2.setCell ⟨pd, 1, none⟩ (.int .i64 (n + 1)) = V3 := ⟨_, rfl⟩
  have ka3 : Block V3 pa 23 #[.int .u8 (code : Nat), .int .i64 n, .int .i64 k, .int .i64 d, .int .i64 r, .int .i64 (t - 1), .int .i64 ww] := by rw [← hV3, ← hV2, ← hV1]; exact ((ka.set_ 5 (.int .i64 (t - 1))).far (by exact nab) _).far (by exact nad) _
  have kb1 : Block V1 pb 23 #[.int .u8 (code : Nat), .int .i64 n, .int .i64 k, .int .i64 d, .int .i64 r, .int .i64 t, .int .i64 ww] := by rw [← hV1]; exact kb.far (by exact nab.symm) _
  have kb3 : Block V3 pb 23 #[.int .u8 (code : Nat), .int .i64 n, .int .i64 k, .int .i64 d, .int .i64 r, .int .i64 t, .int .i64 (ww + 1)] := by rw [← hV3, ← hV2]; exact (kb1.set_ 6 (.int .i64 (ww + 1))).far (by exact nbd) _
  have kd2 : Block V2 pd 23 #[.int .u8 (code : Nat), .int .i64 n, .int .i64 k, .int .i64 d, .int .i64 r, .int .i64 t, .int .i64 ww] := by rw [← hV2, ← hV1]; exact (kd.far (by exact nad.symm) _).far (by exact nbd.symm) _
  have kd3 : Block V3 pd 23 #[.int .u8 (code : Nat), .int .i64 (n + 1), .int .i64 k, .int .i64 d, .int .i64 r, .int .i64 t, .int .i64 ww] := by rw [← hV3]; exact kd2.set_ 1 (.int .i64 (n + 1))
  have kc3 : Block V3 w.heap.size 23 #[.int .u8 (code : Nat), .int .i64 n, .int .i64 k, .int .i64 d, .int .i64 r, .int .i64 t, .int .i64 ww] := by rw [← hV3, ← hV2, ← hV1]; exact ((hkc.far (show w.heap.size ≠ pa by omega) _).far (show w.heap.size ≠ pb by omega) _).far (show w.heap.size ≠ pd by omega) _
  have ks3 : Block V3 B1 25 #[.int .i64 sa, .int .i64 sb, .int .i64 ss, .int .i64 so, .int .i64 1] := by rw [← hV3, ← hV2, ← hV1]; exact ((hks.far (show B1 ≠ pa by omega) _).far (show B1 ≠ pb by omega) _).far (show B1 ≠ pd by omega) _
  have HB4 : Hid (Below w.heap.size w V3) := Lib.hid (by rw [← hV3, ← hV2, ← hV1]; exact ((hB3.setCell (show w.heap.size ≤ pa by omega) _).setCell (show w.heap.size ≤ pb by omega) _).setCell (show w.heap.size ≤ pd by omega) _)
  have a5 : V.cell? ⟨pa, 5, none⟩ = some (.int .i64 t) := ka.cell 5
  have af : V.frozen? ⟨pa, 5, none⟩ = false := ka.frozen 5
  have b6 : V1.cell? ⟨pb, 6, none⟩ = some (.int .i64 ww) := kb1.cell 6
  have bf : V1.frozen? ⟨pb, 6, none⟩ = false := kb1.frozen 6
  have d1 : V2.cell? ⟨pd, 1, none⟩ = some (.int .i64 n) := kd2.cell 1
  have df : V2.frozen? ⟨pd, 1, none⟩ = false := kd2.frozen 1
  have e1 : IntKind.i64.wrap (t - 1) = t - 1 := i64w (by omega) (by omega)
  have e2 : IntKind.i64.wrap (ww + 1) = ww + 1 := i64w (by omega) (by omega)
  have e3 : IntKind.i64.wrap (n + 1) = n + 1 := i64w (by omega) (by omega)
  have hEq := eq_shape
  have x0 : V3.cell? ⟨w.heap.size, 0, none⟩ = some (.int .u8 (code : Nat)) := kc3.cell 0
  have x1 : V3.cell? ⟨w.heap.size, 1, none⟩ = some (.int .i64 n) := kc3.cell 1
  have x2 : V3.cell? ⟨w.heap.size, 2, none⟩ = some (.int .i64 k) := kc3.cell 2
  have x3 : V3.cell? ⟨w.heap.size, 3, none⟩ = some (.int .i64 d) := kc3.cell 3
  have x4 : V3.cell? ⟨w.heap.size, 4, none⟩ = some (.int .i64 r) := kc3.cell 4
  have x5 : V3.cell? ⟨w.heap.size, 5, none⟩ = some (.int .i64 t) := kc3.cell 5
  have x6 : V3.cell? ⟨w.heap.size, 6, none⟩ = some (.int .i64 ww) := kc3.cell 6
  have y0 : V3.cell? ⟨B1, 0, none⟩ = some (.int .i64 sa) := ks3.cell 0
  have y1 : V3.cell? ⟨B1, 1, none⟩ = some (.int .i64 sb) := ks3.cell 1
  have y2 : V3.cell? ⟨B1, 2, none⟩ = some (.int .i64 ss) := ks3.cell 2
  have y3 : V3.cell? ⟨B1, 3, none⟩ = some (.int .i64 so) := ks3.cell 3
  have y4 : V3.cell? ⟨B1, 4, none⟩ = some (.int .i64 1) := ks3.cell 4
  have p0 : V3.cell? ⟨pa, 0, none⟩ = some (.int .u8 (code : Nat)) := ka3.cell 0
  have p1 : V3.cell? ⟨pa, 1, none⟩ = some (.int .i64 n) := ka3.cell 1
  have p2 : V3.cell? ⟨pa, 2, none⟩ = some (.int .i64 k) := ka3.cell 2
  have p3 : V3.cell? ⟨pa, 3, none⟩ = some (.int .i64 d) := ka3.cell 3
  have p4 : V3.cell? ⟨pa, 4, none⟩ = some (.int .i64 r) := ka3.cell 4
  have p5 : V3.cell? ⟨pa, 5, none⟩ = some (.int .i64 (t - 1)) := ka3.cell 5
  have p6 : V3.cell? ⟨pa, 6, none⟩ = some (.int .i64 ww) := ka3.cell 6
  have q0 : V3.cell? ⟨pb, 0, none⟩ = some (.int .u8 (code : Nat)) := kb3.cell 0
  have q1 : V3.cell? ⟨pb, 1, none⟩ = some (.int .i64 n) := kb3.cell 1
  have q2 : V3.cell? ⟨pb, 2, none⟩ = some (.int .i64 k) := kb3.cell 2
  have q3 : V3.cell? ⟨pb, 3, none⟩ = some (.int .i64 d) := kb3.cell 3
  have q4 : V3.cell? ⟨pb, 4, none⟩ = some (.int .i64 r) := kb3.cell 4
  have q5 : V3.cell? ⟨pb, 5, none⟩ = some (.int .i64 t) := kb3.cell 5
  have q6 : V3.cell? ⟨pb, 6, none⟩ = some (.int .i64 (ww + 1)) := kb3.cell 6
  have z0 : V3.cell? ⟨pd, 0, none⟩ = some (.int .u8 (code : Nat)) := kd3.cell 0
  have z1 : V3.cell? ⟨pd, 1, none⟩ = some (.int .i64 (n + 1)) := kd3.cell 1
  have z2 : V3.cell? ⟨pd, 2, none⟩ = some (.int .i64 k) := kd3.cell 2
  have z3 : V3.cell? ⟨pd, 3, none⟩ = some (.int .i64 d) := kd3.cell 3
  have z4 : V3.cell? ⟨pd, 4, none⟩ = some (.int .i64 r) := kd3.cell 4
  have z5 : V3.cell? ⟨pd, 5, none⟩ = some (.int .i64 t) := kd3.cell 5
  have z6 : V3.cell? ⟨pd, 6, none⟩ = some (.int .i64 ww) := kd3.cell 6
  have KC := Lib.hid kc3
  have KS := Lib.hid ks3
  have KA := Lib.hid ka3
  have KB := Lib.hid kb3
  have KD := Lib.hid kd3
  clear ka kb kd kb1 kd2 ka3 kb3 kd3 kc3 ks3 hkc hks hB3 nab nad nbd
  dsimp only
  go_wp2_with (first | (go_at_call 13; (with_reducible refine (HW.out _).mono ?_); rintro e uw ⟨rfl, hb⟩; have HBw := Lib.hid (HB4.out.trans (hb.mono HB4.out.size)); clear hb))
  go_ret
  exact ⟨rfl, HBw.out⟩
end Go.Proofs.Ytikfjbomogekbaa.configLess
