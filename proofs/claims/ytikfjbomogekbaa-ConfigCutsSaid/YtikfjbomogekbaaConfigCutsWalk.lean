/- ConfigCuts: the walk. -/
import Derived.Test.YtikfjbomogekbaaCfWorks
namespace Go.Proofs.Ytikfjbomogekbaa.configCuts
open Go.RowKit Cf
attribute [local go_sem] Oper.semAt_some
set_option linter.unusedVariables false

theorem cut_bd {a d : Int} (ha : -300 ≤ a ∧ a ≤ 300) (hd : -300 ≤ d ∧ d ≤ 300) : ∀ j : Nat, j ≤ 300 → -1000 * (j : Int) ≤ cut a d j ∧ cut a d j ≤ 1000 * (j : Int)
  | 0, _ => by simp [cut]
  | j + 1, h => by
    have ih := cut_bd ha hd j (by omega)
    rw [cut]
    have : min a (d - (j : Int)) ≤ a := Int.min_le_left _ _
    have : min a (d - (j : Int)) = a ∨ min a (d - (j : Int)) = d - (j : Int) := by omega
    omega
set_option maxRecDepth 100000 in
set_option maxHeartbeats 6400000 in
theorem walk (w : World) (c0 : Cf.C) (hc0 : c0.Ok) : Calls Try.prog 5 #[.agg (Cf.cV c0)] w fun e w' => e = .returned (.bool true) ∧ Below w.heap.size w w' := by
  have HW := Lib.hid works_calls
  cases hck : chk c0 with
  | none =>
    have HC := Lib.hid (check_calls c0 hc0)
    rw [hck] at HC
    obtain ⟨code, n, k, d, r, t, ww⟩ := c0
    unfold cV at HC ⊢
    dsimp only at HC ⊢
    have HQ : Hid (∀ X : World, Calls Try.prog 8 #[.agg #[.int .u8 (code : Nat), .int .i64 n, .int .i64 k, .int .i64 d, .int .i64 r, .int .i64 t, .int .i64 ww]] X fun e w' => e = .returned (.tuple #[.agg #[.int .i64 0, .int .i64 0, .int .i64 0, .int .i64 0, .int .i64 0], .int .i64 130]) ∧ Below X.heap.size X w') := HC
    have HB := Lib.hid ((Below.refl w.heap.size w).alloc (Nat.le_refl _) (.cells #[.int .u8 (code : Nat), .int .i64 n, .int .i64 k, .int .i64 d, .int .i64 r, .int .i64 t, .int .i64 ww] 23))
    clear hck HC hc0
    go_enter Try.func5, Try.ntmps5
    go_wp2_with (first | (go_at_call 8; (with_reducible refine (HQ.out _).mono ?_); rintro e w1 ⟨rfl, hb1⟩; have HB1 := Lib.hid (HB.out.trans (hb1.mono HB.out.size)); clear hb1) | (go_at_call 13; (with_reducible refine (HW.out _).mono ?_); rintro e w2 ⟨rfl, hb2⟩; have HB2 := Lib.hid ((HB1.out.alloc HB1.out.size (.cells #[.int .i64 0, .int .i64 0, .int .i64 0, .int .i64 0, .int .i64 0] 25)).trans (hb2.mono (HB1.out.alloc HB1.out.size _).size)); clear hb2))
    go_ret
    exact ⟨rfl, HB2.out⟩
  | some s =>
    have HC := Lib.hid (check_calls c0 hc0)
    rw [hck] at HC
    obtain ⟨⟨bn1, bn2⟩, ⟨bk1, bk2⟩, ⟨bd1, bd2⟩, ⟨br1, br2⟩, ⟨bt1, bt2⟩, ⟨bw1, bw2⟩⟩ := chk_bytes hck
    obtain ⟨p1, p2, p3, p4, p5, p6, p7⟩ := chk_pos hck
    have pcut := chk_cut hck
    obtain ⟨q1, q2, q3⟩ := chk_some hck
    obtain ⟨-, q4, q5, -, q6⟩ := kind_bd q1 q2
    have q7 := kind_a q1 q2
    clear q1 q2 q3 hck hc0
    obtain ⟨code, n, k, d, r, t, ww⟩ := c0
    obtain ⟨sa, sb, ss, so⟩ := s
    unfold cV at HC ⊢
    dsimp only at HC bn1 bn2 bk1 bk2 bd1 bd2 bt1 bt2 bw1 bw2 p1 p2 p3 p4 p5 p6 p7 pcut q4 q5 q6 q7 ⊢
    have HQ : Hid (∀ X : World, Calls Try.prog 8 #[.agg #[.int .u8 (code : Nat), .int .i64 n, .int .i64 k, .int .i64 d, .int .i64 r, .int .i64 t, .int .i64 ww]] X fun e w' => e = .returned (.tuple #[.agg #[.int .i64 sa, .int .i64 sb, .int .i64 ss, .int .i64 so, .int .i64 1], .int .i64 0]) ∧ Below X.heap.size X w') := HC
    have HB := Lib.hid ((Below.refl w.heap.size w).alloc (Nat.le_refl _) (.cells #[.int .u8 (code : Nat), .int .i64 n, .int .i64 k, .int .i64 d, .int .i64 r, .int .i64 t, .int .i64 ww] 23))
    have HK := Lib.hid (Block.new w 23 #[.int .u8 (code : Nat), .int .i64 n, .int .i64 k, .int .i64 d, .int .i64 r, .int .i64 t, .int .i64 ww])
    clear HC
    go_enter Try.func5, Try.ntmps5
    go_wp2_with (go_at_call 8; (with_reducible refine (HQ.out _).mono ?_); rintro e w1 ⟨rfl, hb1⟩; have HB1 := Lib.hid (HB.out.trans (hb1.mono HB.out.size)); have HK1 := Lib.hid (HK.out.below hb1 HK.out.lt); clear hb1)
    obtain ⟨w2, hw2⟩ : ∃ w2, w1.alloc (.cells #[.int .i64 sa, .int .i64 sb, .int .i64 ss, .int .i64 so, .int .i64 1] 25) = w2 := ⟨_, rfl⟩
    obtain ⟨B1, hB1⟩ : ∃ B1, w1.heap.size = B1 := ⟨_, rfl⟩
    have hK2 : Block w2 w.heap.size 23 #[.int .u8 (code : Nat), .int .i64 n, .int .i64 k, .int .i64 d, .int .i64 r, .int .i64 t, .int .i64 ww] := by rw [← hw2]; exact HK1.out.alloc _
    have hS2 : Block w2 B1 25 #[.int .i64 sa, .int .i64 sb, .int .i64 ss, .int .i64 so, .int .i64 1] := by rw [← hw2, ← hB1]; exact Block.new w1 _ _
    have HB2 : Hid (Below w.heap.size w w2) := Lib.hid (by rw [← hw2]; exact HB1.out.alloc HB1.out.size _)
    rw [hw2, hB1]
    clear hw2 hB1 HB1 HK1 HB HK HQ
    have x0 : w2.cell? ⟨w.heap.size, 0, none⟩ = some (.int .u8 (code : Nat)) := hK2.cell 0
    have x1 : w2.cell? ⟨w.heap.size, 1, none⟩ = some (.int .i64 n) := hK2.cell 1
    have x2 : w2.cell? ⟨w.heap.size, 2, none⟩ = some (.int .i64 k) := hK2.cell 2
    have x3 : w2.cell? ⟨w.heap.size, 3, none⟩ = some (.int .i64 d) := hK2.cell 3
    have x5 : w2.cell? ⟨w.heap.size, 5, none⟩ = some (.int .i64 t) := hK2.cell 5
    have x6 : w2.cell? ⟨w.heap.size, 6, none⟩ = some (.int .i64 ww) := hK2.cell 6
    have y0 : w2.cell? ⟨B1, 0, none⟩ = some (.int .i64 sa) := hS2.cell 0
    have y1 : w2.cell? ⟨B1, 1, none⟩ = some (.int .i64 sb) := hS2.cell 1
    have y2 : w2.cell? ⟨B1, 2, none⟩ = some (.int .i64 ss) := hS2.cell 2
    have y3 : w2.cell? ⟨B1, 3, none⟩ = some (.int .i64 so) := hS2.cell 3
    have y4 : w2.cell? ⟨B1, 4, none⟩ = some (.int .i64 1) := hS2.cell 4
    clear hK2 hS2
    obtain ⟨kn, rfl⟩ : ∃ kn : Nat, k = (kn : Int) := ⟨k.toNat, by omega⟩
    rw [Int.toNat_natCast] at pcut
    have Hcut := Lib.hid pcut
    have hbd := Lib.hid (cut_bd (a := sa) (d := d) (by omega) (by omega))
    clear pcut
    go_loopw [5, 6] (fun x y wr => ∃ j : Nat, j ≤ kn ∧ x = .int .i64 (cut sa d j) ∧ y = .int .i64 (j : Nat) ∧ wr = w2) (fun _ y _ => ((kn : Int) - intOf y).toNat)
    case atStart => exact ⟨0, by omega, rfl, rfl, rfl⟩
    case round =>
      obtain ⟨j, hj, rfl, rfl, rfl⟩ := hrel
      by_cases hjk : j < kn
      · have d1 : decide ((j : Int) < (kn : Int)) = true := decide_eq_true (by omega)
        have hb1 := hbd.out j (by omega)
        have hb2 := hbd.out (j + 1) (by omega)
        have e1 : IntKind.i64.wrap (d - (j : Int)) = d - (j : Int) := i64w (by omega) (by omega)
        have hm : (if d - (j : Int) < sa then d - (j : Int) else sa) = min sa (d - (j : Int)) := by split <;> omega
        have e2 : IntKind.i64.wrap (cut sa d j + if d - (j : Int) < sa then d - (j : Int) else sa) = cut sa d (j + 1) := by
          rw [hm, show cut sa d j + min sa (d - (j : Int)) = cut sa d (j + 1) from rfl]
          exact i64w (by omega) (by omega)
        have e3 : IntKind.i64.wrap ((j : Int) + 1) = (j : Int) + 1 := i64w (by omega) (by omega)
        clear hb1 hb2 hm
        go_wp2_with fail
        go_roundw
        case rel => exact ⟨j + 1, by omega, rfl, by go_num, by first | rfl | trivial⟩
        case measure => simp [intOf]; omega
      · obtain rfl : j = kn := by omega
        have d1 : decide ((j : Int) < (j : Int)) = false := decide_eq_false (by omega)
        have D1 : decide (1 ≤ sb) = true := decide_eq_true p1
        have D2 : decide (1 ≤ sa) = true := decide_eq_true p2
        have D3 : decide (sb ≤ ss * sa) = true := decide_eq_true p3
        have D4 : decide (1 ≤ so) = true := decide_eq_true p4
        have D5 : decide (so < n) = true := decide_eq_true p5
        have D6 : decide (ss + 2 * t ≤ ww) = true := decide_eq_true p6
        have D7 : decide (ww ≤ n) = true := decide_eq_true p7
        have m0 : 0 ≤ ss * sa := Int.mul_nonneg (by omega) (by omega)
        have m1 : ss * sa ≤ 1000 * 300 := Int.mul_le_mul (by omega) (by omega) (by omega) (by omega)
        have e1 : IntKind.i64.wrap (ss * sa) = ss * sa := i64w (by omega) (by omega)
        have e2 : IntKind.i64.wrap (2 * t) = 2 * t := i64w (by omega) (by omega)
        have e3 : IntKind.i64.wrap (ss + 2 * t) = ss + 2 * t := i64w (by omega) (by omega)
        clear m0 m1 hbd
        by_cases hc : code = 2 ∨ code = 3
        · have hcu := Hcut.out hc
          have D0 : (cut sa d j != sb) = false := by rw [hcu]; simp
          clear hcu
          by_cases hc2 : code = 2
          · subst hc2
            clear hc
            have g1 : (((2 : Nat) : Int) == 2) = true := rfl
            go_wp2_with (go_at_call 13; (with_reducible refine (HW.out _).mono ?_); rintro e w3 ⟨rfl, hb3⟩; have HB3 := Lib.hid (HB2.out.trans (hb3.mono HB2.out.size)); clear hb3)
            go_ret
            exact ⟨rfl, HB3.out⟩
          · obtain rfl : code = 3 := by omega
            clear hc hc2
            have g1 : (((3 : Nat) : Int) == 2) = false := rfl
            have g2 : (((3 : Nat) : Int) == 3) = true := rfl
            go_wp2_with (go_at_call 13; (with_reducible refine (HW.out _).mono ?_); rintro e w3 ⟨rfl, hb3⟩; have HB3 := Lib.hid (HB2.out.trans (hb3.mono HB2.out.size)); clear hb3)
            go_ret
            exact ⟨rfl, HB3.out⟩
        · have g1 : ((code : Int) == 2) = false := by simp; omega
          have g2 : ((code : Int) == 3) = false := by simp; omega
          clear hc
          go_wp2_with (go_at_call 13; (with_reducible refine (HW.out _).mono ?_); rintro e w3 ⟨rfl, hb3⟩; have HB3 := Lib.hid (HB2.out.trans (hb3.mono HB2.out.size)); clear hb3)
          go_ret
          exact ⟨rfl, HB3.out⟩
end Go.Proofs.Ytikfjbomogekbaa.configCuts
