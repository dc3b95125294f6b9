/- The definition of valid codes: what a kind amounts to. -/
import Derived.Test.YtikfjbomogekbaaCfKind2
import Derived.Test.YtikfjbomogekbaaCfKind3
import Derived.Test.YtikfjbomogekbaaCfKind4
namespace Go.Proofs.Ytikfjbomogekbaa.Cf
open Go.RowKit
attribute [local go_sem] Oper.semAt_some
set_option linter.unusedVariables false

theorem far5 {w : World} {B R : Nat} {t : TypeId} {cs : Array Value} (h : Block w B t cs) (hne : B ≠ R) {v0 v1 v2 v3 v4 : Value} : Block (((((w.setCell ⟨R, 0, none⟩ v0).setCell ⟨R, 1, none⟩ v1).setCell ⟨R, 2, none⟩ v2).setCell ⟨R, 3, none⟩ v3).setCell ⟨R, 4, none⟩ v4) B t cs :=
  ((((h.far hne v0).far hne v1).far hne v2).far hne v3).far hne v4
theorem wp_upd2 {α : Type} {P : Program} {c : Code} {Q : Exit → Act → World → Prop} {a : Act} {w : World} (upd : α → Act → Act) (R : α → World → Prop) (h : c.wp P (Exit.then (fun a' w' => ∃ m, a' = upd m a ∧ R m w') (fun _ _ _ => False)) a w) (hK : ∀ m w', R m w' → Q .normal (upd m a) w') : c.wp P Q a w :=
  wp_mono h (by
    intro e a' w' h1
    cases e with
    | normal => obtain ⟨m, rfl, hr⟩ := h1; exact hK m _ hr
    | _ => exact False.elim h1)
set_option maxRecDepth 100000 in
set_option maxHeartbeats 6400000 in
theorem rkind_5 (c : C) (hbd : Bd c) (hcode : c.code = 5) (w : World) : Calls Try.prog 30 #[.agg (cV c)] w (KRes c w) := by
  have HN : Hid (¬ (R12.Good c.n c.k c.r ∧ c.d = 0) → chk c = none) := Lib.hid fun h => by
    cases hc : chk c with
    | none => rfl
    | some sh =>
      exfalso
      refine h ⟨lo_good hc hcode, ?_⟩
      obtain ⟨-, hk, -⟩ := chk_some hc
      rcases kind_some hk with ⟨e, hg, -⟩ | ⟨e, hg, -⟩ | ⟨e, hg, -⟩ | ⟨e, hg, -⟩ | ⟨e, hg, -⟩
      · omega
      · omega
      · omega
      · omega
      · exact hg.2.2.2.2.2.2.2
  have HY : Hid (R12.Good c.n c.k c.r ∧ c.d = 0 → kind c = some ⟨1, c.k, c.k + c.k / c.r - 1, if c.t = 0 then c.r else c.k + c.k / c.r - 1 + 2 * c.t⟩) := Lib.hid fun h => kind5 hcode (good_lo hbd.1 h.1 h.2)
  obtain ⟨code, n, k, d, r, t, ww⟩ := c
  obtain ⟨⟨bn1, bn2, bt1, bt2⟩, bc, ⟨bk1, bk2⟩, ⟨bd1, bd2⟩, ⟨br1, br2⟩, bw⟩ := hbd
  dsimp only at hcode bn1 bn2 bt1 bt2 bc bk1 bk2 bd1 bd2 br1 br2 bw
  clear bc bw
  obtain ⟨U, hU⟩ : ∃ V, w.alloc (.cells #[.int .u8 (code : Nat), .int .i64 n, .int .i64 k, .int .i64 d, .int .i64 r, .int .i64 t, .int .i64 ww] 23) = V := ⟨_, rfl⟩
  obtain ⟨V, hV⟩ : ∃ V, U.alloc (.cells #[.int .i64 0, .int .i64 0, .int .i64 0, .int .i64 0, .int .i64 0] 29) = V := ⟨_, rfl⟩
  have hus : U.heap.size = w.heap.size + 1 := by rw [← hU, World.size_alloc]
  have hbc : Block V w.heap.size 23 #[.int .u8 (code : Nat), .int .i64 n, .int .i64 k, .int .i64 d, .int .i64 r, .int .i64 t, .int .i64 ww] := by rw [← hV, ← hU]; exact (Block.new w _ _).alloc _
  have hbr : Block V (w.heap.size + 1) 29 #[.int .i64 0, .int .i64 0, .int .i64 0, .int .i64 0, .int .i64 0] := by rw [← hus, ← hV]; exact Block.new U _ _
  have hbel : Below w.heap.size w V := by rw [← hV]; exact (by rw [← hU]; exact (Below.refl _ _).alloc (Nat.le_refl _) _ : Below w.heap.size w U).alloc (by omega) _
  have x0 : V.cell? ⟨w.heap.size, 0, none⟩ = some (.int .u8 (code : Nat)) := hbc.cell 0
  unfold cV
  dsimp only at HN HY ⊢
  have hmx : Try.prog.follows .mixedOrders = true := by kernel_rfl
  have g1 : ((code : Int) == 1) = false := by simp; omega
  have g2 : ((code : Int) == 2) = false := by simp; omega
  have g3 : ((code : Int) == 3) = false := by simp; omega
  have g4 : ((code : Int) == 4) = false := by simp; omega
  have g5 : ((code : Int) == 5) = true := by simp; omega
  clear hcode
  obtain ⟨V5, hV5⟩ : ∃ V5, V.alloc (.cells #[.int .i64 n, .int .i64 k, .int .i64 r] 110) = V5 := ⟨_, rfl⟩
  obtain ⟨M, hM⟩ : ∃ M, V.heap.size = M := ⟨_, rfl⟩
  have hm5 : Block V5 M 110 #[.int .i64 n, .int .i64 k, .int .i64 r] := by rw [← hV5, ← hM]; exact Block.new V _ _
  have hc5 : Block V5 w.heap.size 23 #[.int .u8 (code : Nat), .int .i64 n, .int .i64 k, .int .i64 d, .int .i64 r, .int .i64 t, .int .i64 ww] := by rw [← hV5]; exact hbc.alloc _
  have hr5 : Block V5 (w.heap.size + 1) 29 #[.int .i64 0, .int .i64 0, .int .i64 0, .int .i64 0, .int .i64 0] := by rw [← hV5]; exact hbr.alloc _
  have hb5 : Below w.heap.size w V5 := by rw [← hV5]; exact hbel.alloc hbel.size _
  have x1 : V.cell? ⟨w.heap.size, 1, none⟩ = some (.int .i64 n) := hbc.cell 1
  have x2 : V.cell? ⟨w.heap.size, 2, none⟩ = some (.int .i64 k) := hbc.cell 2
  have x3 : V.cell? ⟨w.heap.size, 3, none⟩ = some (.int .i64 d) := hbc.cell 3
  have x4 : V.cell? ⟨w.heap.size, 4, none⟩ = some (.int .i64 r) := hbc.cell 4
  have x5 : V.cell? ⟨w.heap.size, 5, none⟩ = some (.int .i64 t) := hbc.cell 5
  have x51 : V5.cell? ⟨w.heap.size, 1, none⟩ = some (.int .i64 n) := hc5.cell 1
  have x52 : V5.cell? ⟨w.heap.size, 2, none⟩ = some (.int .i64 k) := hc5.cell 2
  have x53 : V5.cell? ⟨w.heap.size, 3, none⟩ = some (.int .i64 d) := hc5.cell 3
  have x54 : V5.cell? ⟨w.heap.size, 4, none⟩ = some (.int .i64 r) := hc5.cell 4
  have x55 : V5.cell? ⟨w.heap.size, 5, none⟩ = some (.int .i64 t) := hc5.cell 5
  have m50 : V5.cell? ⟨M, 0, none⟩ = some (.int .i64 n) := hm5.cell 0
  have m51 : V5.cell? ⟨M, 1, none⟩ = some (.int .i64 k) := hm5.cell 1
  have m52 : V5.cell? ⟨M, 2, none⟩ = some (.int .i64 r) := hm5.cell 2
  have y0 := hr5.cell 0
  have f0 := hr5.frozen 0
  have y1 := hr5.cell 1
  have f1 := hr5.frozen 1
  have y2 := hr5.cell 2
  have f2 := hr5.frozen 2
  have y3 := hr5.cell 3
  have f3 := hr5.frozen 3
  have y4 := hr5.cell 4
  have f4 := hr5.frozen 4
  have HR := Lib.hid hr5
  have HB := Lib.hid hb5
  have HC := Lib.hid hc5
  have HM := Lib.hid hm5
  clear hbc hbr hbel hm5 hc5 hr5 hb5
  by_cases h1 : d = 0
  rotate_left
  · have HZ := Lib.hid (HN.out fun hg => h1 hg.2)
    have d1 : (d != 0) = true := by simpa using h1
    clear HN HY h1
    go_enter Try.func30, Try.ntmps30
    go_wp2_with fail
    obtain ⟨W, hW, hP, hBW⟩ := put5' HB.out (by omega) HR.out (.int .i64 0) (.int .i64 0) (.int .i64 0) (.int .i64 0) (.int .i64 0)
    rw [hW]
    have hP2 := hP
    have hB2 := hBW
    have p0 := hP2.cell 0
    have p1 := hP2.cell 1
    have p2 := hP2.cell 2
    have p3 := hP2.cell 3
    have p4 := hP2.cell 4
    refine bodyPost_ret (v := .tuple #[.agg #[.int .i64 0, .int .i64 0, .int .i64 0, .int .i64 0, .int .i64 0], .bool false]) (by simp [results, Try.results30, go_sem, p0, p1, p2, p3, p4]) rfl ?_
    exact ⟨_, _, _, _, _, _, rfl, (fun h => by cases h), (fun _ => HZ.out), hB2⟩
  have d1 : (d != 0) = false := by simpa using h1
  have H1 := Lib.hid h1
  clear h1
  by_cases h2 : r < 1
  · have HZ := Lib.hid (HN.out fun hg => by have := hg.1.1; omega)
    have d2 : decide (r < 1) = true := decide_eq_true h2
    clear HN HY
    go_enter Try.func30, Try.ntmps30
    go_wp2_with fail
    obtain ⟨W, hW, hP, hBW⟩ := put5' HB.out (by omega) HR.out (.int .i64 0) (.int .i64 0) (.int .i64 0) (.int .i64 0) (.int .i64 0)
    rw [hW]
    have hP2 := hP
    have hB2 := hBW
    have p0 := hP2.cell 0
    have p1 := hP2.cell 1
    have p2 := hP2.cell 2
    have p3 := hP2.cell 3
    have p4 := hP2.cell 4
    refine bodyPost_ret (v := .tuple #[.agg #[.int .i64 0, .int .i64 0, .int .i64 0, .int .i64 0, .int .i64 0], .bool false]) (by simp [results, Try.results30, go_sem, p0, p1, p2, p3, p4]) rfl ?_
    exact ⟨_, _, _, _, _, _, rfl, (fun h => by cases h), (fun _ => HZ.out), hB2⟩
  have d2 : decide (r < 1) = false := decide_eq_false h2
  have hr1 : 1 ≤ r := by omega
  clear h2
  by_cases h3 : R12.Good n k r
  rotate_left
  · have HZ := Lib.hid (HN.out fun hg => h3 hg.1)
    have HNe : Hid (∀ X : World, Calls Try.prog 52 #[.agg #[.int .i64 n, .int .i64 k, .int .i64 r]] X fun e w' => e = .returned (.int .i64 2) ∧ Below X.heap.size X w') := Lib.hid fun X => by
      have h := R12.refNew_calls n k r X
      unfold R12.newZ at h
      rw [if_neg h3] at h
      exact h
    clear HN HY h3
    go_enter Try.func30, Try.ntmps30
    go_wp2_with (go_at_call 52; (with_reducible refine (HNe.out _).mono ?_); rintro e w1 ⟨rfl, hb1⟩; have hC1 := HC.out.below hb1 HC.out.lt; have hM1 := HM.out.below hb1 HM.out.lt; have hR1 := HR.out.below hb1 HR.out.lt; have HB1 := Lib.hid (HB.out.trans (hb1.mono HB.out.size)); clear y0 y1 y2 y3 y4 f0 f1 f2 f3 f4; have y0 := hR1.cell 0; have f0 := hR1.frozen 0; have y1 := hR1.cell 1; have f1 := hR1.frozen 1; have y2 := hR1.cell 2; have f2 := hR1.frozen 2; have y3 := hR1.cell 3; have f3 := hR1.frozen 3; have y4 := hR1.cell 4; have f4 := hR1.frozen 4; have HR1 := Lib.hid hR1; have HC1 := Lib.hid hC1; have HM1 := Lib.hid hM1; clear hC1 hM1 hR1 hb1)
    obtain ⟨W, hW, hP, hBW⟩ := put5' HB1.out (by omega) HR1.out (.int .i64 0) (.int .i64 0) (.int .i64 0) (.int .i64 0) (.int .i64 0)
    rw [hW]
    have hP2 := hP
    have hB2 := hBW
    have p0 := hP2.cell 0
    have p1 := hP2.cell 1
    have p2 := hP2.cell 2
    have p3 := hP2.cell 3
    have p4 := hP2.cell 4
    refine bodyPost_ret (v := .tuple #[.agg #[.int .i64 0, .int .i64 0, .int .i64 0, .int .i64 0, .int .i64 0], .bool false]) (by simp [results, Try.results30, go_sem, p0, p1, p2, p3, p4]) rfl ?_
    exact ⟨_, _, _, _, _, _, rfl, (fun h => by cases h), (fun _ => HZ.out), hB2⟩
  have HNe : Hid (∀ X : World, Calls Try.prog 52 #[.agg #[.int .i64 n, .int .i64 k, .int .i64 r]] X fun e w' => e = .returned (.int .i64 0) ∧ Below X.heap.size X w') := Lib.hid fun X => by
    have h := R12.refNew_calls n k r X
    unfold R12.newZ at h
    rw [if_pos h3] at h
    exact h
  have HZ := Lib.hid (HY.out ⟨h3, H1.out⟩)
  clear HN HY h3
  have hq1 : 0 ≤ k / r := Int.ediv_nonneg bk1 (by omega)
  have hq2 : k / r ≤ k := Int.ediv_le_self _ bk1
  have HTe : Hid (∀ X : World, Calls Try.prog 53 #[.agg #[.int .i64 n, .int .i64 k, .int .i64 r]] X fun e w' => e = .returned (.int .i64 (k + k / r - 1)) ∧ Below X.heap.size X w') := Lib.hid fun X => R12.refTells_calls n k r bk1 (by omega) hr1 X
  obtain ⟨T, hT⟩ : ∃ T, k + k / r - 1 = T := ⟨_, rfl⟩
  rw [hT] at HTe HZ
  have w1 : IntKind.i64.wrap (2 * t) = 2 * t := i64w (by omega) (by omega)
  have w2 : IntKind.i64.wrap (T + 2 * t) = T + 2 * t := i64w (by omega) (by omega)
  clear hT hq1 hq2
  go_enter Try.func30, Try.ntmps30
  go_wp2_with (go_at_call 52; (with_reducible refine (HNe.out _).mono ?_); rintro e w1 ⟨rfl, hb1⟩; have hC1 := HC.out.below hb1 HC.out.lt; have hM1 := HM.out.below hb1 HM.out.lt; have hR1 := HR.out.below hb1 HR.out.lt; have HB1 := Lib.hid (HB.out.trans (hb1.mono HB.out.size)); clear y0 y1 y2 y3 y4 f0 f1 f2 f3 f4; have y0 := hR1.cell 0; have f0 := hR1.frozen 0; have y1 := hR1.cell 1; have f1 := hR1.frozen 1; have y2 := hR1.cell 2; have f2 := hR1.frozen 2; have y3 := hR1.cell 3; have f3 := hR1.frozen 3; have y4 := hR1.cell 4; have f4 := hR1.frozen 4; have HR1 := Lib.hid hR1; have HC1 := Lib.hid hC1; have HM1 := Lib.hid hM1; clear hC1 hM1 hR1 hb1)
  have HSc : Hid (∀ X : World, Block X w.heap.size 23 #[.int .u8 (code : Nat), .int .i64 n, .int .i64 k, .int .i64 d, .int .i64 r, .int .i64 t, .int .i64 ww] → Block X M 110 #[.int .i64 n, .int .i64 k, .int .i64 r] → (fun X => X.cell? ⟨w.heap.size, 2, none⟩ = some (.int .i64 k) ∧ X.cell? ⟨w.heap.size, 4, none⟩ = some (.int .i64 r) ∧ X.cell? ⟨M, 0, none⟩ = some (.int .i64 n) ∧ X.cell? ⟨M, 1, none⟩ = some (.int .i64 k) ∧ X.cell? ⟨M, 2, none⟩ = some (.int .i64 r)) X) := Lib.hid fun X h h' => ⟨h.cell 2, h.cell 4, h'.cell 0, h'.cell 1, h'.cell 2⟩
  have HC1d := Lib.hid HC1.out.drew
  have HM1d := Lib.hid HM1.out.drew
  have HC1a := Lib.hid (HC1.out.alloc (.cells #[.int .i64 0, .int .i64 0, .int .i64 0, .int .i64 0, .int .i64 0] 29)).drew
  have HM1a := Lib.hid (HM1.out.alloc (.cells #[.int .i64 0, .int .i64 0, .int .i64 0, .int .i64 0, .int .i64 0] 29)).drew
  have HN0 := Lib.hid (Block.new w1 29 #[.int .i64 0, .int .i64 0, .int .i64 0, .int .i64 0, .int .i64 0]).drew
  have Hb1d := Lib.hid (Below.refl w1.heap.size w1).drew
  have Hb1a := Lib.hid ((Below.refl w1.heap.size w1).alloc (Nat.le_refl _) (.cells #[.int .i64 0, .int .i64 0, .int .i64 0, .int .i64 0, .int .i64 0] 29)).drew
  have hne1 : w.heap.size ≠ w1.heap.size := Nat.ne_of_lt HC1.out.lt
  have hne2 : M ≠ w1.heap.size := Nat.ne_of_lt HM1.out.lt
  clear y0 y1 y2 y3 y4 f0 f1 f2 f3 f4
  apply wp_upd2 (α := Nat) (upd := fun p a => { a with tmps := (((((((a.tmps.setIfInBounds 165 (.pointer (some ⟨w.heap.size, 2, none⟩))).setIfInBounds 166 (.int .i64 k)).setIfInBounds 167 (.agg #[.int .i64 n, .int .i64 k, .int .i64 r])).setIfInBounds 168 (.int .i64 T)).setIfInBounds 169 (.pointer (some ⟨w.heap.size, 4, none⟩))).setIfInBounds 170 (.int .i64 r)).setIfInBounds 171 (.agg #[.int .i64 1, .int .i64 k, .int .i64 T, .int .i64 r, .int .i64 1])).setIfInBounds 8 (.pointer (some ⟨p, 0, none⟩)) }) (R := fun p V => Block V p 29 #[.int .i64 1, .int .i64 k, .int .i64 T, .int .i64 r, .int .i64 1] ∧ w1.heap.size ≤ p ∧ Below w1.heap.size w1 V)
  · go_region_held (fun X => X.cell? ⟨w.heap.size, 2, none⟩ = some (.int .i64 k) ∧ X.cell? ⟨w.heap.size, 4, none⟩ = some (.int .i64 r) ∧ X.cell? ⟨M, 0, none⟩ = some (.int .i64 n) ∧ X.cell? ⟨M, 1, none⟩ = some (.int .i64 k) ∧ X.cell? ⟨M, 2, none⟩ = some (.int .i64 r)) (first | (with_reducible exact HSc.out _ HC1d.out HM1d.out) | (with_reducible exact HSc.out _ HC1a.out HM1a.out) | (with_reducible exact HSc.out _ HC2.out HM2.out) | (with_reducible exact HSc.out _ (HC2.out.alloc _) (HM2.out.alloc _)) | (with_reducible exact HSc.out _ (far5 HC2.out hne1) (far5 HM2.out hne2)) | go_keep) ((go_at_call 53; (with_reducible refine (HTe.out _).mono ?_); rintro e w2 ⟨rfl, hb2⟩; (first | (have hb3 : Below w1.drew.heap.size w1.drew w2 := (by with_reducible exact hb2); have hC2 := HC1d.out.below hb3 HC1d.out.lt; have hM2 := HM1d.out.below hb3 HM1d.out.lt; have hB2 := Hb1d.out.trans (hb3.mono Hb1d.out.size); clear hb3) | (have hC2 := HC1a.out.below hb2 HC1a.out.lt; have hM2 := HM1a.out.below hb2 HM1a.out.lt; have hB2 := Hb1a.out.trans (hb2.mono Hb1a.out.size); have hN2 := HN0.out.below hb2 HN0.out.lt; have n0 := hN2.cell 0; have n1 := hN2.cell 1; have n2 := hN2.cell 2; have n3 := hN2.cell 3; have n4 := hN2.cell 4; have q0 := hN2.frozen 0; have q1 := hN2.frozen 1; have q2 := hN2.frozen 2; have q3 := hN2.frozen 3; have q4 := hN2.frozen 4; have HN2 := Lib.hid hN2)); have HC2 := Lib.hid hC2; have HM2 := Lib.hid hM2; have HB2 := Lib.hid hB2; clear hC2 hM2 hB2 hb2))
    all_goals first
      | (obtain ⟨W, hW, hP, hBW⟩ := put5' HB2.out (Nat.le_refl _) HN2.out (.int .i64 1) (.int .i64 k) (.int .i64 T) (.int .i64 r) (.int .i64 1); rw [hW]; exact ⟨w1.heap.size, rfl, hP, Nat.le_refl _, hBW⟩)
      | exact ⟨w2.heap.size, rfl, Block.new w2 _ _, HB2.out.size, HB2.out.alloc HB2.out.size _⟩
  rintro p8 wq ⟨k8, l8, b8⟩
  have hRq := HR1.out.below b8 HR1.out.lt
  have hBq := HB1.out.trans (b8.mono HB1.out.size)
  have hCq := HC1.out.below b8 HC1.out.lt
  have x5 : wq.cell? ⟨w.heap.size, 5, none⟩ = some (.int .i64 t) := hCq.cell 5
  have k80 : wq.cell? ⟨p8, 0, none⟩ = some (.int .i64 1) := k8.cell 0
  have k81 : wq.cell? ⟨p8, 1, none⟩ = some (.int .i64 k) := k8.cell 1
  have k82 : wq.cell? ⟨p8, 2, none⟩ = some (.int .i64 T) := k8.cell 2
  have k83 : wq.cell? ⟨p8, 3, none⟩ = some (.int .i64 r) := k8.cell 3
  have k84 : wq.cell? ⟨p8, 4, none⟩ = some (.int .i64 1) := k8.cell 4
  have k8f : wq.frozen? ⟨p8, 3, none⟩ = false := k8.frozen 3
  have hp8 : w.heap.size + 1 < p8 := Nat.lt_of_lt_of_le HR1.out.lt l8
  dsimp only
  have y0 := hRq.cell 0
  have f0 := hRq.frozen 0
  have y1 := hRq.cell 1
  have f1 := hRq.frozen 1
  have y2 := hRq.cell 2
  have f2 := hRq.frozen 2
  have y3 := hRq.cell 3
  have f3 := hRq.frozen 3
  have y4 := hRq.cell 4
  have f4 := hRq.frozen 4
  have HRq := Lib.hid hRq
  have HBq := Lib.hid hBq
  clear hCq b8 HC1d HM1d HC1a HM1a HN0 Hb1d Hb1a HSc HTe
  by_cases h0 : t = 0
  · have d0 : decide (0 < t) = false := decide_eq_false (by omega)
    rw [if_pos h0] at HZ
    clear h0
    go_wp2
    obtain ⟨W, hW, hP, hBW⟩ := put5' HBq.out (by omega) HRq.out (.int .i64 1) (.int .i64 k) (.int .i64 T) (.int .i64 r) (.int .i64 1)
    rw [hW]
    have hP2 := hP
    have hB2 := hBW
    have p0 := hP2.cell 0
    have p1 := hP2.cell 1
    have p2 := hP2.cell 2
    have p3 := hP2.cell 3
    have p4 := hP2.cell 4
    refine bodyPost_ret (v := .tuple #[.agg #[.int .i64 1, .int .i64 k, .int .i64 T, .int .i64 r, .int .i64 1], .bool true]) (by simp [results, Try.results30, go_sem, p0, p1, p2, p3, p4]) rfl ?_
    exact ⟨_, _, _, _, _, _, rfl, (fun _ => ⟨HZ.out, rfl⟩), (fun h => by cases h), hB2⟩
  · have d0 : decide (0 < t) = true := decide_eq_true (by omega)
    rw [if_neg h0] at HZ
    clear h0
    obtain ⟨w8, hw8⟩ : ∃ w8, wq.setCell ⟨p8, 3, none⟩ (.int .i64 (T + 2 * t)) = w8 := ⟨_, rfl⟩
    have k9 : Block w8 p8 29 #[.int .i64 1, .int .i64 k, .int .i64 T, .int .i64 (T + 2 * t), .int .i64 1] := by rw [← hw8]; exact k8.set_ 3 (.int .i64 (T + 2 * t))
    have hR8 : Block w8 (w.heap.size + 1) 29 #[.int .i64 0, .int .i64 0, .int .i64 0, .int .i64 0, .int .i64 0] := by rw [← hw8]; exact hRq.far (show w.heap.size + 1 ≠ p8 by omega) _
    have HB8 : Hid (Below w.heap.size w w8) := Lib.hid (by rw [← hw8]; exact hBq.setCell (show w.heap.size ≤ p8 by omega) _)
    have j0 : w8.cell? ⟨p8, 0, none⟩ = some (.int .i64 1) := k9.cell 0
    have j1 : w8.cell? ⟨p8, 1, none⟩ = some (.int .i64 k) := k9.cell 1
    have j2 : w8.cell? ⟨p8, 2, none⟩ = some (.int .i64 T) := k9.cell 2
    have j3 : w8.cell? ⟨p8, 3, none⟩ = some (.int .i64 (T + 2 * t)) := k9.cell 3
    have j4 : w8.cell? ⟨p8, 4, none⟩ = some (.int .i64 1) := k9.cell 4
    have z0 := hR8.cell 0
    have g80 := hR8.frozen 0
    have z1 := hR8.cell 1
    have g81 := hR8.frozen 1
    have z2 := hR8.cell 2
    have g82 := hR8.frozen 2
    have z3 := hR8.cell 3
    have g83 := hR8.frozen 3
    have z4 := hR8.cell 4
    have g84 := hR8.frozen 4
    have HR8 := Lib.hid hR8
    clear hR8 k9 hRq hBq k8
    go_wp2
    obtain ⟨W, hW, hP, hBW⟩ := put5' HB8.out (by omega) HR8.out (.int .i64 1) (.int .i64 k) (.int .i64 T) (.int .i64 (T + 2 * t)) (.int .i64 1)
    rw [hW]
    have hP2 := hP
    have hB2 := hBW
    have p0 := hP2.cell 0
    have p1 := hP2.cell 1
    have p2 := hP2.cell 2
    have p3 := hP2.cell 3
    have p4 := hP2.cell 4
    refine bodyPost_ret (v := .tuple #[.agg #[.int .i64 1, .int .i64 k, .int .i64 T, .int .i64 (T + 2 * t), .int .i64 1], .bool true]) (by simp [results, Try.results30, go_sem, p0, p1, p2, p3, p4]) rfl ?_
    exact ⟨_, _, _, _, _, _, rfl, (fun _ => ⟨HZ.out, rfl⟩), (fun h => by cases h), hB2⟩
set_option maxRecDepth 100000 in
set_option maxHeartbeats 6400000 in
theorem rkind_0 (c : C) (hbd : Bd c) (h1 : c.code ≠ 1) (h2 : c.code ≠ 2) (h3 : c.code ≠ 3) (h4 : c.code ≠ 4) (h5 : c.code ≠ 5) (w : World) : Calls Try.prog 30 #[.agg (cV c)] w (KRes c w) := by
  have HZ : Hid (chk c = none) := Lib.hid (chk_none (by unfold kind; rw [if_neg h1, if_neg h2, if_neg h3, if_neg h4, if_neg h5]))
  obtain ⟨code, n, k, d, r, t, ww⟩ := c
  obtain ⟨⟨bn1, bn2, bt1, bt2⟩, bc, ⟨bk1, bk2⟩, ⟨bd1, bd2⟩, ⟨br1, br2⟩, bw⟩ := hbd
  dsimp only at h1 h2 h3 h4 h5 bn1 bn2 bt1 bt2 bc bk1 bk2 bd1 bd2 br1 br2 bw
  clear bc bw
  obtain ⟨U, hU⟩ : ∃ V, w.alloc (.cells #[.int .u8 (code : Nat), .int .i64 n, .int .i64 k, .int .i64 d, .int .i64 r, .int .i64 t, .int .i64 ww] 23) = V := ⟨_, rfl⟩
  obtain ⟨V, hV⟩ : ∃ V, U.alloc (.cells #[.int .i64 0, .int .i64 0, .int .i64 0, .int .i64 0, .int .i64 0] 29) = V := ⟨_, rfl⟩
  have hus : U.heap.size = w.heap.size + 1 := by rw [← hU, World.size_alloc]
  have hbc : Block V w.heap.size 23 #[.int .u8 (code : Nat), .int .i64 n, .int .i64 k, .int .i64 d, .int .i64 r, .int .i64 t, .int .i64 ww] := by rw [← hV, ← hU]; exact (Block.new w _ _).alloc _
  have hbr : Block V (w.heap.size + 1) 29 #[.int .i64 0, .int .i64 0, .int .i64 0, .int .i64 0, .int .i64 0] := by rw [← hus, ← hV]; exact Block.new U _ _
  have hbel : Below w.heap.size w V := by rw [← hV]; exact (by rw [← hU]; exact (Below.refl _ _).alloc (Nat.le_refl _) _ : Below w.heap.size w U).alloc (by omega) _
  have x0 : V.cell? ⟨w.heap.size, 0, none⟩ = some (.int .u8 (code : Nat)) := hbc.cell 0
  unfold cV
  dsimp only at HZ ⊢
  have g1 : ((code : Int) == 1) = false := by simp; omega
  have g2 : ((code : Int) == 2) = false := by simp; omega
  have g3 : ((code : Int) == 3) = false := by simp; omega
  have g4 : ((code : Int) == 4) = false := by simp; omega
  have g5 : ((code : Int) == 5) = false := by simp; omega
  clear h1 h2 h3 h4 h5
  have y0 := hbr.cell 0
  have f0 := hbr.frozen 0
  have y1 := hbr.cell 1
  have f1 := hbr.frozen 1
  have y2 := hbr.cell 2
  have f2 := hbr.frozen 2
  have y3 := hbr.cell 3
  have f3 := hbr.frozen 3
  have y4 := hbr.cell 4
  have f4 := hbr.frozen 4
  have HR := Lib.hid hbr
  have HB := Lib.hid hbel
  clear hbc hbr hbel
  go_enter Try.func30, Try.ntmps30
  go_wp2_with fail
  obtain ⟨W, hW, hP, hBW⟩ := put5' HB.out (by omega) HR.out (.int .i64 0) (.int .i64 0) (.int .i64 0) (.int .i64 0) (.int .i64 0)
  rw [hW]
  have hP2 := hP
  have hB2 := hBW
  have p0 := hP2.cell 0
  have p1 := hP2.cell 1
  have p2 := hP2.cell 2
  have p3 := hP2.cell 3
  have p4 := hP2.cell 4
  refine bodyPost_ret (v := .tuple #[.agg #[.int .i64 0, .int .i64 0, .int .i64 0, .int .i64 0, .int .i64 0], .bool false]) (by simp [results, Try.results30, go_sem, p0, p1, p2, p3, p4]) rfl ?_
  exact ⟨_, _, _, _, _, _, rfl, (fun h => by cases h), (fun _ => HZ.out), hB2⟩
/-- The definition's kind, of any code within the bounds. -/
theorem rkind_calls (c : C) (hbd : Bd c) (w : World) : Calls Try.prog 30 #[.agg (cV c)] w (KRes c w) := by
  by_cases h1 : c.code = 1
  · exact rkind_1 c hbd h1 w
  by_cases h2 : c.code = 2
  · exact rkind_2 c hbd h2 w
  by_cases h3 : c.code = 3
  · exact rkind_3 c hbd h3 w
  by_cases h4 : c.code = 4
  · exact rkind_4 c hbd h4 w
  by_cases h5 : c.code = 5
  · exact rkind_5 c hbd h5 w
  exact rkind_0 c hbd h1 h2 h3 h4 h5 w
end Go.Proofs.Ytikfjbomogekbaa.Cf
