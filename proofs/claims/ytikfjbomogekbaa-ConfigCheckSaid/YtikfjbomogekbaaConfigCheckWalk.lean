/- ConfigCheck: the walk. -/
import Derived.Test.YtikfjbomogekbaaCfPut
import Derived.Test.YtikfjbomogekbaaCfWorks
import Derived.Test.YtikfjbomogekbaaPolySame
namespace Go.Proofs.Ytikfjbomogekbaa.configCheck
open Go.RowKit Cf
attribute [local go_sem] Oper.semAt_some
set_option linter.unusedVariables false

theorem putN_lt {c : C} (h : c.code < 256) : ∀ x ∈ putN c, x < 256 := by
  intro x hx
  unfold putN at hx
  cases hc : chk c with
  | none => rw [hc] at hx; cases hx
  | some s =>
    have hb := chk_bytes hc
    rw [hc] at hx
    simp only [List.mem_cons, List.not_mem_nil, or_false] at hx
    omega
set_option maxRecDepth 100000 in
set_option maxHeartbeats 6400000 in
theorem walk (w : World) (c0 : Cf.C) (hc0 : c0.Ok) : Calls Try.prog 3 #[.agg (Cf.cV c0)] w fun e w' => e = .returned (.bool true) ∧ Below w.heap.size w w' := by
  have HW := Lib.hid works_calls
  have HC1 := Lib.hid (check_calls c0 hc0)
  have HC2 := Lib.hid (rcheck_calls c0 hc0)
  have HP1 := Lib.hid (put_calls c0 hc0)
  have HP2 := Lib.hid (rput_calls c0 hc0)
  unfold PutIs at HP1 HP2
  obtain ⟨p, hp⟩ := F8.of_bytes (putN c0) (putN_lt hc0.1)
  obtain ⟨L, hL⟩ : ∃ L, (putN c0).length = L := ⟨_, rfl⟩
  have hpl : p.length = L := by rw [← hL, hp, F8.bs_length]
  obtain ⟨er, her⟩ : ∃ er, eZ (chk c0) = er := ⟨_, rfl⟩
  obtain ⟨v0, v1, v2, v3, v4, hv⟩ := sV_agg (chk c0)
  rw [her, hv] at HC1 HC2
  rw [her, hL, hp] at HP1 HP2
  have HPl := Lib.hid hpl
  clear her hv hL hp hpl hc0
  obtain ⟨code, n, k, d, r, t, ww⟩ := c0
  unfold cV at HC1 HC2 HP1 HP2 ⊢
  dsimp only at HC1 HC2 HP1 HP2 ⊢
  have HB := Lib.hid ((Below.refl w.heap.size w).alloc (Nat.le_refl _) (.cells #[.int .u8 (code : Nat), .int .i64 n, .int .i64 k, .int .i64 d, .int .i64 r, .int .i64 t, .int .i64 ww] 23))
  have HK := Lib.hid (Block.new w 23 #[.int .u8 (code : Nat), .int .i64 n, .int .i64 k, .int .i64 d, .int .i64 r, .int .i64 t, .int .i64 ww])
  go_enter Try.func3, Try.ntmps3
  go_wp2_with (first
    | (go_at_call 8; (with_reducible refine (HC1.out _).mono ?_); rintro e w1 ⟨rfl, hb⟩; have HB1 := Lib.hid (HB.out.trans (hb.mono HB.out.size)); have hk := HK.out.below hb HK.out.lt; have xa0 : w1.cell? ⟨w.heap.size, 0, none⟩ = some (.int .u8 (code : Nat)) := hk.cell 0; have xa1 : w1.cell? ⟨w.heap.size, 1, none⟩ = some (.int .i64 n) := hk.cell 1; have xa2 : w1.cell? ⟨w.heap.size, 2, none⟩ = some (.int .i64 k) := hk.cell 2; have xa3 : w1.cell? ⟨w.heap.size, 3, none⟩ = some (.int .i64 d) := hk.cell 3; have xa4 : w1.cell? ⟨w.heap.size, 4, none⟩ = some (.int .i64 r) := hk.cell 4; have xa5 : w1.cell? ⟨w.heap.size, 5, none⟩ = some (.int .i64 t) := hk.cell 5; have xa6 : w1.cell? ⟨w.heap.size, 6, none⟩ = some (.int .i64 ww) := hk.cell 6; have la := hk.lt; have HK1 := Lib.hid hk; clear hb hk)
    | (go_at_call 9; (with_reducible refine (HC2.out _).mono ?_); rintro e w2 ⟨rfl, hb⟩; have HB2 := Lib.hid ((HB1.out.alloc HB1.out.size (.cells #[.int .i64 v0, .int .i64 v1, .int .i64 v2, .int .i64 v3, .int .i64 v4] 25)).trans (hb.mono (HB1.out.alloc HB1.out.size (.cells #[.int .i64 v0, .int .i64 v1, .int .i64 v2, .int .i64 v3, .int .i64 v4] 25)).size)); have hk := (HK1.out.alloc (.cells #[.int .i64 v0, .int .i64 v1, .int .i64 v2, .int .i64 v3, .int .i64 v4] 25)).below hb (HK1.out.alloc (.cells #[.int .i64 v0, .int .i64 v1, .int .i64 v2, .int .i64 v3, .int .i64 v4] 25)).lt; have hs := (Block.new w1 25 #[.int .i64 v0, .int .i64 v1, .int .i64 v2, .int .i64 v3, .int .i64 v4]).below hb (Block.new w1 25 #[.int .i64 v0, .int .i64 v1, .int .i64 v2, .int .i64 v3, .int .i64 v4]).lt; have xb0 : w2.cell? ⟨w.heap.size, 0, none⟩ = some (.int .u8 (code : Nat)) := hk.cell 0; have xb1 : w2.cell? ⟨w.heap.size, 1, none⟩ = some (.int .i64 n) := hk.cell 1; have xb2 : w2.cell? ⟨w.heap.size, 2, none⟩ = some (.int .i64 k) := hk.cell 2; have xb3 : w2.cell? ⟨w.heap.size, 3, none⟩ = some (.int .i64 d) := hk.cell 3; have xb4 : w2.cell? ⟨w.heap.size, 4, none⟩ = some (.int .i64 r) := hk.cell 4; have xb5 : w2.cell? ⟨w.heap.size, 5, none⟩ = some (.int .i64 t) := hk.cell 5; have xb6 : w2.cell? ⟨w.heap.size, 6, none⟩ = some (.int .i64 ww) := hk.cell 6; have lb := hk.lt; have lb1 := hs.lt; have HK2 := Lib.hid hk; have HS2 := Lib.hid hs; clear hb hk hs)
    | (go_at_call 10; (with_reducible refine (HP1.out _).mono ?_); rintro e w3 ⟨A3, c3, rfl, hc3, hy3, hb⟩; have HB3 := Lib.hid ((HB2.out.alloc HB2.out.size (.cells #[.int .i64 v0, .int .i64 v1, .int .i64 v2, .int .i64 v3, .int .i64 v4] 29)).trans (hb.mono (HB2.out.alloc HB2.out.size (.cells #[.int .i64 v0, .int .i64 v1, .int .i64 v2, .int .i64 v3, .int .i64 v4] 29)).size)); have hk := (HK2.out.alloc (.cells #[.int .i64 v0, .int .i64 v1, .int .i64 v2, .int .i64 v3, .int .i64 v4] 29)).below hb (HK2.out.alloc (.cells #[.int .i64 v0, .int .i64 v1, .int .i64 v2, .int .i64 v3, .int .i64 v4] 29)).lt; have hs := (HS2.out.alloc (.cells #[.int .i64 v0, .int .i64 v1, .int .i64 v2, .int .i64 v3, .int .i64 v4] 29)).below hb (HS2.out.alloc (.cells #[.int .i64 v0, .int .i64 v1, .int .i64 v2, .int .i64 v3, .int .i64 v4] 29)).lt; have hs' := (Block.new w2 29 #[.int .i64 v0, .int .i64 v1, .int .i64 v2, .int .i64 v3, .int .i64 v4]).below hb (Block.new w2 29 #[.int .i64 v0, .int .i64 v1, .int .i64 v2, .int .i64 v3, .int .i64 v4]).lt; have xc0 : w3.cell? ⟨w.heap.size, 0, none⟩ = some (.int .u8 (code : Nat)) := hk.cell 0; have xc1 : w3.cell? ⟨w.heap.size, 1, none⟩ = some (.int .i64 n) := hk.cell 1; have xc2 : w3.cell? ⟨w.heap.size, 2, none⟩ = some (.int .i64 k) := hk.cell 2; have xc3 : w3.cell? ⟨w.heap.size, 3, none⟩ = some (.int .i64 d) := hk.cell 3; have xc4 : w3.cell? ⟨w.heap.size, 4, none⟩ = some (.int .i64 r) := hk.cell 4; have xc5 : w3.cell? ⟨w.heap.size, 5, none⟩ = some (.int .i64 t) := hk.cell 5; have xc6 : w3.cell? ⟨w.heap.size, 6, none⟩ = some (.int .i64 ww) := hk.cell 6; have lc := hk.lt; have HS3 := Lib.hid hs; have HT3 := Lib.hid hs'; have HY3 := Lib.hid hy3; clear hb hk hs hs' hy3)
    | (go_at_call 11; (with_reducible refine (HP2.out _).mono ?_); rintro e w4 ⟨A4, c4, rfl, hc4, hy4, hb⟩; have HB4 := Lib.hid (HB3.out.trans (hb.mono HB3.out.size)); have hs := HS3.out.below hb HS3.out.lt; have ht := HT3.out.below hb HT3.out.lt; have ya0 : w4.cell? ⟨w1.heap.size, 0, none⟩ = some (.int .i64 v0) := hs.cell 0; have ya1 : w4.cell? ⟨w1.heap.size, 1, none⟩ = some (.int .i64 v1) := hs.cell 1; have ya2 : w4.cell? ⟨w1.heap.size, 2, none⟩ = some (.int .i64 v2) := hs.cell 2; have ya3 : w4.cell? ⟨w1.heap.size, 3, none⟩ = some (.int .i64 v3) := hs.cell 3; have ya4 : w4.cell? ⟨w1.heap.size, 4, none⟩ = some (.int .i64 v4) := hs.cell 4; have yb0 : w4.cell? ⟨w2.heap.size, 0, none⟩ = some (.int .i64 v0) := ht.cell 0; have yb1 : w4.cell? ⟨w2.heap.size, 1, none⟩ = some (.int .i64 v1) := ht.cell 1; have yb2 : w4.cell? ⟨w2.heap.size, 2, none⟩ = some (.int .i64 v2) := ht.cell 2; have yb3 : w4.cell? ⟨w2.heap.size, 3, none⟩ = some (.int .i64 v3) := ht.cell 3; have yb4 : w4.cell? ⟨w2.heap.size, 4, none⟩ = some (.int .i64 v4) := ht.cell 4; have HSa := Lib.hid (Poly.same_calls A3 A4 p p L L c3 c4 w4 HPl.out HPl.out (HY3.out.below hb) hy4); rw [decide_eq_true rfl] at HSa; clear hb hs ht hy4)
    | (go_at_call 12; (with_reducible refine HSa.out.mono ?_); rintro e wq ⟨rfl, rfl⟩)
    | (go_at_call 13; (with_reducible refine (HW.out _).mono ?_); rintro e wz ⟨rfl, hb⟩; have HBz := Lib.hid (HB4.out.trans (hb.mono HB4.out.size)); clear hb))
  go_ret
  exact ⟨rfl, HBz.out⟩
end Go.Proofs.Ytikfjbomogekbaa.configCheck
