/- ConfigGet: the walk. -/
import Derived.Test.YtikfjbomogekbaaCfGet
import Derived.Test.YtikfjbomogekbaaCfWorks
import Derived.Test.YtikfjbomogekbaaPolySame
namespace Go.Proofs.Ytikfjbomogekbaa.configGet
open Go.RowKit Cf
attribute [local go_sem] Oper.semAt_some
set_option linter.unusedVariables false

/-- Two codes held against each other. -/
theorem eq_config (a b c d e f g a' b' c' d' e' f' g' : Int) (w : World) : (Op.equalIn 10000 23 (.agg #[.int .u8 a, .int .i64 b, .int .i64 c, .int .i64 d, .int .i64 e, .int .i64 f, .int .i64 g]) (.agg #[.int .u8 a', .int .i64 b', .int .i64 c', .int .i64 d', .int .i64 e', .int .i64 f', .int .i64 g'])).run Try.prog w = .ok (a == a' && b == b' && c == c' && d == d' && e == e' && f == f' && g == g') w := by
  have u3 := Try.underlying3
  have a3 := Try.isAgg3
  have z3 := Try.sizeOf3
  have u5 := Try.underlying5
  have a5 := Try.isAgg5
  have z5 := Try.sizeOf5
  have hS : Try.prog.underlying 23 = some (.struct (Try.prog.fieldsOf 23)) := by kernel_rfl
  have hp : Try.prog.stoodInHeld 23 = false := by kernel_rfl
  rw [show (10000 : Nat) = 9999 + 1 from rfl, run_equalIn_agg w 9999 23 _ _ hS hp]
  simp only [Program.fieldsOf, Try.underlying23]
  go_simp
  by_cases h1 : a = a' <;> by_cases h2 : b = b' <;> by_cases h3 : c = c' <;> by_cases h4 : d = d' <;> by_cases h5 : e = e' <;> by_cases h6 : f = f' <;> by_cases h7 : g = g' <;> simp [h1, h2, h3, h4, h5, h6, h7]
theorem putN_lt {c : C} (h : c.code < 256) : ∀ x ∈ putN c, x < 256 := by
  intro x hx
  unfold putN at hx
  cases hc : chk c with
  | none => rw [hc] at hx; cases hx
  | some s =>
    have hb := chk_bytes hc
    rw [hc] at hx
    simp only [List.mem_cons, List.not_mem_nil, or_false] at hx
    omega
theorem getC_ok {l : List Nat} {c : C} (h : getC l = some c) (hl : ∀ x ∈ l, x < 256) : c.Ok := by
  obtain ⟨h1, s, h2⟩ := put_getC h
  have hb := chk_bytes h2
  have hc : c.code < 256 := by
    refine hl _ ?_
    rw [← h1]
    unfold putN
    rw [h2]
    simp
  unfold C.Ok
  omega
set_option maxRecDepth 100000 in
set_option maxHeartbeats 6400000 in
theorem get00 (w : World) (A0 : Option Addr) (l0 : List Nat) (c0 m0 : Nat) (hm0 : l0.length = m0) (hb0 : Bytes w A0 l0) (hc0 : m0 ≤ c0) (h3 : m0 ≤ 300) (c1 : Cf.C) (hc1 : c1.Ok) (hx : getC l0 = none) (hck : chk c1 = none) : Calls Try.prog 4 #[.slice A0 m0 c0, .agg (Cf.cV c1)] w fun e w' => e = .returned (.bool true) ∧ Below w.heap.size w w' := by
  have HW := Lib.hid works_calls
  have HBy := Lib.hid hb0
  have HG := Lib.hid fun (X : World) (hX : Bytes X A0 l0) => get_calls A0 l0 m0 c0 X hm0 hX hc0
  have HR := Lib.hid fun (X : World) (hX : Bytes X A0 l0) => rget_calls A0 l0 m0 c0 X hm0 hX hc0
  unfold GetIs at HG HR
  rw [hx] at HG HR
  unfold gV gE at HG HR
  have HP := Lib.hid (put_calls c1 hc1)
  unfold PutIs at HP
  have he1 : eZ (chk c1) = 130 := by rw [hck]; rfl
  have hl1 : putN c1 = [] := by unfold putN; rw [hck]
  rw [he1, hl1] at HP
  clear he1 hl1
  obtain ⟨code, n, k, d, r, t, ww⟩ := c1
  unfold cV at HP ⊢
  dsimp only at HG HR HP ⊢
  have hEq := eq_config
  have d3 : decide (300 < (m0 : Int)) = false := decide_eq_false (by omega)
  have HB := Lib.hid ((Below.refl w.heap.size w).alloc (Nat.le_refl _) (.cells #[.int .u8 (code : Nat), .int .i64 n, .int .i64 k, .int .i64 d, .int .i64 r, .int .i64 t, .int .i64 ww] 23))
  have HK := Lib.hid (Block.new w 23 #[.int .u8 (code : Nat), .int .i64 n, .int .i64 k, .int .i64 d, .int .i64 r, .int .i64 t, .int .i64 ww])
  clear hx hck hc1 hb0 hm0 hc0 h3
  go_enter Try.func4, Try.ntmps4
  go_wp2_with (first
    | (go_at_call 14; (with_reducible refine (HG.out _ (HBy.out.below HB.out)).mono ?_); rintro e w1 ⟨rfl, hb⟩; have HB1 := Lib.hid (HB.out.trans (hb.mono HB.out.size)); have hk := HK.out.below hb HK.out.lt; have xa0 : w1.cell? ⟨w.heap.size, 0, none⟩ = some (.int .u8 (code : Nat)) := hk.cell 0; have xa1 : w1.cell? ⟨w.heap.size, 1, none⟩ = some (.int .i64 n) := hk.cell 1; have xa2 : w1.cell? ⟨w.heap.size, 2, none⟩ = some (.int .i64 k) := hk.cell 2; have xa3 : w1.cell? ⟨w.heap.size, 3, none⟩ = some (.int .i64 d) := hk.cell 3; have xa4 : w1.cell? ⟨w.heap.size, 4, none⟩ = some (.int .i64 r) := hk.cell 4; have xa5 : w1.cell? ⟨w.heap.size, 5, none⟩ = some (.int .i64 t) := hk.cell 5; have xa6 : w1.cell? ⟨w.heap.size, 6, none⟩ = some (.int .i64 ww) := hk.cell 6; have la := hk.lt; have HK1 := Lib.hid hk; clear hb hk)
    | (go_at_call 15; (with_reducible refine (HR.out _ (HBy.out.below (HB1.out.alloc HB1.out.size (.cells #[.int .u8 0, .int .i64 0, .int .i64 0, .int .i64 0, .int .i64 0, .int .i64 0, .int .i64 0] 23)))).mono ?_); rintro e w2 ⟨rfl, hb⟩; have HB2 := Lib.hid ((HB1.out.alloc HB1.out.size (.cells #[.int .u8 0, .int .i64 0, .int .i64 0, .int .i64 0, .int .i64 0, .int .i64 0, .int .i64 0] 23)).trans (hb.mono (HB1.out.alloc HB1.out.size (.cells #[.int .u8 0, .int .i64 0, .int .i64 0, .int .i64 0, .int .i64 0, .int .i64 0, .int .i64 0] 23)).size)); have hk := (HK1.out.alloc (.cells #[.int .u8 0, .int .i64 0, .int .i64 0, .int .i64 0, .int .i64 0, .int .i64 0, .int .i64 0] 23)).below hb (HK1.out.alloc (.cells #[.int .u8 0, .int .i64 0, .int .i64 0, .int .i64 0, .int .i64 0, .int .i64 0, .int .i64 0] 23)).lt; have hs := (Block.new w1 23 #[.int .u8 0, .int .i64 0, .int .i64 0, .int .i64 0, .int .i64 0, .int .i64 0, .int .i64 0]).below hb (Block.new w1 23 #[.int .u8 0, .int .i64 0, .int .i64 0, .int .i64 0, .int .i64 0, .int .i64 0, .int .i64 0]).lt; have xb0 : w2.cell? ⟨w.heap.size, 0, none⟩ = some (.int .u8 (code : Nat)) := hk.cell 0; have xb1 : w2.cell? ⟨w.heap.size, 1, none⟩ = some (.int .i64 n) := hk.cell 1; have xb2 : w2.cell? ⟨w.heap.size, 2, none⟩ = some (.int .i64 k) := hk.cell 2; have xb3 : w2.cell? ⟨w.heap.size, 3, none⟩ = some (.int .i64 d) := hk.cell 3; have xb4 : w2.cell? ⟨w.heap.size, 4, none⟩ = some (.int .i64 r) := hk.cell 4; have xb5 : w2.cell? ⟨w.heap.size, 5, none⟩ = some (.int .i64 t) := hk.cell 5; have xb6 : w2.cell? ⟨w.heap.size, 6, none⟩ = some (.int .i64 ww) := hk.cell 6; have ya0 : w2.cell? ⟨w1.heap.size, 0, none⟩ = some (.int .u8 0) := hs.cell 0; have ya1 : w2.cell? ⟨w1.heap.size, 1, none⟩ = some (.int .i64 0) := hs.cell 1; have ya2 : w2.cell? ⟨w1.heap.size, 2, none⟩ = some (.int .i64 0) := hs.cell 2; have ya3 : w2.cell? ⟨w1.heap.size, 3, none⟩ = some (.int .i64 0) := hs.cell 3; have ya4 : w2.cell? ⟨w1.heap.size, 4, none⟩ = some (.int .i64 0) := hs.cell 4; have ya5 : w2.cell? ⟨w1.heap.size, 5, none⟩ = some (.int .i64 0) := hs.cell 5; have ya6 : w2.cell? ⟨w1.heap.size, 6, none⟩ = some (.int .i64 0) := hs.cell 6; have lb := hk.lt; have lb1 := hs.lt; have HK2 := Lib.hid hk; have HS2 := Lib.hid hs; clear hb hk hs)
    | (go_at_call 10; (with_reducible refine (HP.out _).mono ?_); rintro e w4 ⟨A4, c4, rfl, hc4, hy4, hb⟩; have HB4 := Lib.hid ((HB2.out.alloc HB2.out.size (.cells #[.int .u8 0, .int .i64 0, .int .i64 0, .int .i64 0, .int .i64 0, .int .i64 0, .int .i64 0] 23)).trans (hb.mono (HB2.out.alloc HB2.out.size (.cells #[.int .u8 0, .int .i64 0, .int .i64 0, .int .i64 0, .int .i64 0, .int .i64 0, .int .i64 0] 23)).size)); clear hb hy4)
    | (go_at_call 13; (with_reducible refine (HW.out _).mono ?_); rintro e wz ⟨rfl, hb⟩; have HBz := Lib.hid (HB4.out.trans (hb.mono HB4.out.size)); clear hb))
  go_ret
  exact ⟨rfl, HBz.out⟩
set_option maxRecDepth 100000 in
set_option maxHeartbeats 6400000 in
theorem get01 (w : World) (A0 : Option Addr) (l0 : List Nat) (c0 m0 : Nat) (hm0 : l0.length = m0) (hb0 : Bytes w A0 l0) (hc0 : m0 ≤ c0) (h3 : m0 ≤ 300) (c1 : Cf.C) (hc1 : c1.Ok) (hx : getC l0 = none) (sh : Sh) (hck : chk c1 = some sh) : Calls Try.prog 4 #[.slice A0 m0 c0, .agg (Cf.cV c1)] w fun e w' => e = .returned (.bool true) ∧ Below w.heap.size w w' := by
  have HW := Lib.hid works_calls
  have HBy := Lib.hid hb0
  have HG := Lib.hid fun (X : World) (hX : Bytes X A0 l0) => get_calls A0 l0 m0 c0 X hm0 hX hc0
  have HR := Lib.hid fun (X : World) (hX : Bytes X A0 l0) => rget_calls A0 l0 m0 c0 X hm0 hX hc0
  unfold GetIs at HG HR
  rw [hx] at HG HR
  unfold gV gE at HG HR
  have HP := Lib.hid (put_calls c1 hc1)
  unfold PutIs at HP
  have HQ := Lib.hid fun (A : Option Addr) (cap : Nat) (X : World) (hX : Bytes X A (putN c1)) (hc : (putN c1).length ≤ cap) => get_calls A (putN c1) (putN c1).length cap X rfl hX hc
  unfold GetIs at HQ
  rw [getC_put hck] at HQ
  unfold gV gE at HQ
  have he1 : eZ (chk c1) = 0 := by rw [hck]; rfl
  rw [he1] at HP
  obtain ⟨L, hL⟩ : ∃ L, (putN c1).length = L := ⟨_, rfl⟩
  obtain ⟨PL, hPL⟩ : ∃ PL, putN c1 = PL := ⟨_, rfl⟩
  rw [hL, hPL] at HP HQ
  clear he1 hL hPL
  obtain ⟨code, n, k, d, r, t, ww⟩ := c1
  unfold cV at HQ HP ⊢
  dsimp only at HQ HG HR HP ⊢
  have hEq := eq_config
  have d3 : decide (300 < (m0 : Int)) = false := decide_eq_false (by omega)
  have HB := Lib.hid ((Below.refl w.heap.size w).alloc (Nat.le_refl _) (.cells #[.int .u8 (code : Nat), .int .i64 n, .int .i64 k, .int .i64 d, .int .i64 r, .int .i64 t, .int .i64 ww] 23))
  have HK := Lib.hid (Block.new w 23 #[.int .u8 (code : Nat), .int .i64 n, .int .i64 k, .int .i64 d, .int .i64 r, .int .i64 t, .int .i64 ww])
  clear hx hck hc1 hb0 hm0 hc0 h3
  go_enter Try.func4, Try.ntmps4
  go_wp2_with (first
    | (go_at_call 14; (with_reducible refine (HG.out _ (HBy.out.below HB.out)).mono ?_); rintro e w1 ⟨rfl, hb⟩; have HB1 := Lib.hid (HB.out.trans (hb.mono HB.out.size)); have hk := HK.out.below hb HK.out.lt; have xa0 : w1.cell? ⟨w.heap.size, 0, none⟩ = some (.int .u8 (code : Nat)) := hk.cell 0; have xa1 : w1.cell? ⟨w.heap.size, 1, none⟩ = some (.int .i64 n) := hk.cell 1; have xa2 : w1.cell? ⟨w.heap.size, 2, none⟩ = some (.int .i64 k) := hk.cell 2; have xa3 : w1.cell? ⟨w.heap.size, 3, none⟩ = some (.int .i64 d) := hk.cell 3; have xa4 : w1.cell? ⟨w.heap.size, 4, none⟩ = some (.int .i64 r) := hk.cell 4; have xa5 : w1.cell? ⟨w.heap.size, 5, none⟩ = some (.int .i64 t) := hk.cell 5; have xa6 : w1.cell? ⟨w.heap.size, 6, none⟩ = some (.int .i64 ww) := hk.cell 6; have la := hk.lt; have HK1 := Lib.hid hk; clear hb hk)
    | (go_at_call 15; (with_reducible refine (HR.out _ (HBy.out.below (HB1.out.alloc HB1.out.size (.cells #[.int .u8 0, .int .i64 0, .int .i64 0, .int .i64 0, .int .i64 0, .int .i64 0, .int .i64 0] 23)))).mono ?_); rintro e w2 ⟨rfl, hb⟩; have HB2 := Lib.hid ((HB1.out.alloc HB1.out.size (.cells #[.int .u8 0, .int .i64 0, .int .i64 0, .int .i64 0, .int .i64 0, .int .i64 0, .int .i64 0] 23)).trans (hb.mono (HB1.out.alloc HB1.out.size (.cells #[.int .u8 0, .int .i64 0, .int .i64 0, .int .i64 0, .int .i64 0, .int .i64 0, .int .i64 0] 23)).size)); have hk := (HK1.out.alloc (.cells #[.int .u8 0, .int .i64 0, .int .i64 0, .int .i64 0, .int .i64 0, .int .i64 0, .int .i64 0] 23)).below hb (HK1.out.alloc (.cells #[.int .u8 0, .int .i64 0, .int .i64 0, .int .i64 0, .int .i64 0, .int .i64 0, .int .i64 0] 23)).lt; have hs := (Block.new w1 23 #[.int .u8 0, .int .i64 0, .int .i64 0, .int .i64 0, .int .i64 0, .int .i64 0, .int .i64 0]).below hb (Block.new w1 23 #[.int .u8 0, .int .i64 0, .int .i64 0, .int .i64 0, .int .i64 0, .int .i64 0, .int .i64 0]).lt; have xb0 : w2.cell? ⟨w.heap.size, 0, none⟩ = some (.int .u8 (code : Nat)) := hk.cell 0; have xb1 : w2.cell? ⟨w.heap.size, 1, none⟩ = some (.int .i64 n) := hk.cell 1; have xb2 : w2.cell? ⟨w.heap.size, 2, none⟩ = some (.int .i64 k) := hk.cell 2; have xb3 : w2.cell? ⟨w.heap.size, 3, none⟩ = some (.int .i64 d) := hk.cell 3; have xb4 : w2.cell? ⟨w.heap.size, 4, none⟩ = some (.int .i64 r) := hk.cell 4; have xb5 : w2.cell? ⟨w.heap.size, 5, none⟩ = some (.int .i64 t) := hk.cell 5; have xb6 : w2.cell? ⟨w.heap.size, 6, none⟩ = some (.int .i64 ww) := hk.cell 6; have ya0 : w2.cell? ⟨w1.heap.size, 0, none⟩ = some (.int .u8 0) := hs.cell 0; have ya1 : w2.cell? ⟨w1.heap.size, 1, none⟩ = some (.int .i64 0) := hs.cell 1; have ya2 : w2.cell? ⟨w1.heap.size, 2, none⟩ = some (.int .i64 0) := hs.cell 2; have ya3 : w2.cell? ⟨w1.heap.size, 3, none⟩ = some (.int .i64 0) := hs.cell 3; have ya4 : w2.cell? ⟨w1.heap.size, 4, none⟩ = some (.int .i64 0) := hs.cell 4; have ya5 : w2.cell? ⟨w1.heap.size, 5, none⟩ = some (.int .i64 0) := hs.cell 5; have ya6 : w2.cell? ⟨w1.heap.size, 6, none⟩ = some (.int .i64 0) := hs.cell 6; have lb := hk.lt; have lb1 := hs.lt; have HK2 := Lib.hid hk; have HS2 := Lib.hid hs; clear hb hk hs)
    | (go_at_call 10; (with_reducible refine (HP.out _).mono ?_); rintro e w4 ⟨A4, c4, rfl, hc4, hy4, hb⟩; have HB4 := Lib.hid ((HB2.out.alloc HB2.out.size (.cells #[.int .u8 0, .int .i64 0, .int .i64 0, .int .i64 0, .int .i64 0, .int .i64 0, .int .i64 0] 23)).trans (hb.mono (HB2.out.alloc HB2.out.size (.cells #[.int .u8 0, .int .i64 0, .int .i64 0, .int .i64 0, .int .i64 0, .int .i64 0, .int .i64 0] 23)).size)); have hk := (HK2.out.alloc (.cells #[.int .u8 0, .int .i64 0, .int .i64 0, .int .i64 0, .int .i64 0, .int .i64 0, .int .i64 0] 23)).below hb (HK2.out.alloc (.cells #[.int .u8 0, .int .i64 0, .int .i64 0, .int .i64 0, .int .i64 0, .int .i64 0, .int .i64 0] 23)).lt; have xf0 : w4.cell? ⟨w.heap.size, 0, none⟩ = some (.int .u8 (code : Nat)) := hk.cell 0; have xf1 : w4.cell? ⟨w.heap.size, 1, none⟩ = some (.int .i64 n) := hk.cell 1; have xf2 : w4.cell? ⟨w.heap.size, 2, none⟩ = some (.int .i64 k) := hk.cell 2; have xf3 : w4.cell? ⟨w.heap.size, 3, none⟩ = some (.int .i64 d) := hk.cell 3; have xf4 : w4.cell? ⟨w.heap.size, 4, none⟩ = some (.int .i64 r) := hk.cell 4; have xf5 : w4.cell? ⟨w.heap.size, 5, none⟩ = some (.int .i64 t) := hk.cell 5; have xf6 : w4.cell? ⟨w.heap.size, 6, none⟩ = some (.int .i64 ww) := hk.cell 6; have HK4 := Lib.hid hk; have HQ4 := Lib.hid (HQ.out A4 c4 w4 hy4 hc4); clear hb hk hy4)
    | (go_at_call 14; (with_reducible refine HQ4.out.mono ?_); rintro e w5 ⟨rfl, hb⟩; have HB5 := Lib.hid (HB4.out.trans (hb.mono HB4.out.size)); have hk := HK4.out.below hb HK4.out.lt; have xg0 : w5.cell? ⟨w.heap.size, 0, none⟩ = some (.int .u8 (code : Nat)) := hk.cell 0; have xg1 : w5.cell? ⟨w.heap.size, 1, none⟩ = some (.int .i64 n) := hk.cell 1; have xg2 : w5.cell? ⟨w.heap.size, 2, none⟩ = some (.int .i64 k) := hk.cell 2; have xg3 : w5.cell? ⟨w.heap.size, 3, none⟩ = some (.int .i64 d) := hk.cell 3; have xg4 : w5.cell? ⟨w.heap.size, 4, none⟩ = some (.int .i64 r) := hk.cell 4; have xg5 : w5.cell? ⟨w.heap.size, 5, none⟩ = some (.int .i64 t) := hk.cell 5; have xg6 : w5.cell? ⟨w.heap.size, 6, none⟩ = some (.int .i64 ww) := hk.cell 6; have lg := hk.lt; clear hb hk)
    | (go_at_call 13; (with_reducible refine (HW.out _).mono ?_); rintro e wz ⟨rfl, hb⟩; have HBz := Lib.hid ((HB5.out.alloc HB5.out.size (.cells #[.int .u8 (code : Nat), .int .i64 n, .int .i64 k, .int .i64 d, .int .i64 r, .int .i64 t, .int .i64 ww] 23)).trans (hb.mono (HB5.out.alloc HB5.out.size (.cells #[.int .u8 (code : Nat), .int .i64 n, .int .i64 k, .int .i64 d, .int .i64 r, .int .i64 t, .int .i64 ww] 23)).size)); clear hb))
  go_ret
  exact ⟨rfl, HBz.out⟩
set_option maxRecDepth 100000 in
set_option maxHeartbeats 6400000 in
theorem get10 (w : World) (A0 : Option Addr) (l0 : List Nat) (c0 m0 : Nat) (hm0 : l0.length = m0) (hb0 : Bytes w A0 l0) (hc0 : m0 ≤ c0) (h3 : m0 ≤ 300) (c1 : Cf.C) (hc1 : c1.Ok) (x : C) (hx : getC l0 = some x) (hck : chk c1 = none) : Calls Try.prog 4 #[.slice A0 m0 c0, .agg (Cf.cV c1)] w fun e w' => e = .returned (.bool true) ∧ Below w.heap.size w w' := by
  have HW := Lib.hid works_calls
  have HBy := Lib.hid hb0
  have HG := Lib.hid fun (X : World) (hX : Bytes X A0 l0) => get_calls A0 l0 m0 c0 X hm0 hX hc0
  have HR := Lib.hid fun (X : World) (hX : Bytes X A0 l0) => rget_calls A0 l0 m0 c0 X hm0 hX hc0
  unfold GetIs at HG HR
  rw [hx] at HG HR
  unfold gV gE at HG HR
  have HP := Lib.hid (put_calls c1 hc1)
  unfold PutIs at HP
  obtain ⟨hpx, hsx⟩ := put_getC hx
  have hxo := getC_ok hx hb0.lt
  have HX := Lib.hid (put_calls x hxo)
  unfold PutIs at HX
  have hex : eZ (chk x) = 0 := by obtain ⟨s', hs'⟩ := hsx; rw [hs']; rfl
  obtain ⟨p, hp⟩ := F8.of_bytes l0 hb0.lt
  have HPl := Lib.hid (show p.length = m0 by rw [← hm0, hp, F8.bs_length])
  rw [hpx, hex, hm0, hp] at HX
  have HB0p : Hid (∀ X, Bytes X A0 l0 → Bytes X A0 (F8.bs p)) := Lib.hid fun X h => by rw [← hp]; exact h
  obtain ⟨xc, xn, xk, xd, xr, xt, xw⟩ := x
  clear hpx hsx hxo hex hp
  have he1 : eZ (chk c1) = 130 := by rw [hck]; rfl
  have hl1 : putN c1 = [] := by unfold putN; rw [hck]
  rw [he1, hl1] at HP
  clear he1 hl1
  obtain ⟨code, n, k, d, r, t, ww⟩ := c1
  unfold cV at HX HG HR HP ⊢
  dsimp only at HX HG HR HP ⊢
  have hEq := eq_config
  have d3 : decide (300 < (m0 : Int)) = false := decide_eq_false (by omega)
  have HB := Lib.hid ((Below.refl w.heap.size w).alloc (Nat.le_refl _) (.cells #[.int .u8 (code : Nat), .int .i64 n, .int .i64 k, .int .i64 d, .int .i64 r, .int .i64 t, .int .i64 ww] 23))
  have HK := Lib.hid (Block.new w 23 #[.int .u8 (code : Nat), .int .i64 n, .int .i64 k, .int .i64 d, .int .i64 r, .int .i64 t, .int .i64 ww])
  clear hx hck hc1 hb0 hm0 hc0 h3
  go_enter Try.func4, Try.ntmps4
  go_wp2_with (first
    | (go_at_call 14; (with_reducible refine (HG.out _ (HBy.out.below HB.out)).mono ?_); rintro e w1 ⟨rfl, hb⟩; have HB1 := Lib.hid (HB.out.trans (hb.mono HB.out.size)); have hk := HK.out.below hb HK.out.lt; have xa0 : w1.cell? ⟨w.heap.size, 0, none⟩ = some (.int .u8 (code : Nat)) := hk.cell 0; have xa1 : w1.cell? ⟨w.heap.size, 1, none⟩ = some (.int .i64 n) := hk.cell 1; have xa2 : w1.cell? ⟨w.heap.size, 2, none⟩ = some (.int .i64 k) := hk.cell 2; have xa3 : w1.cell? ⟨w.heap.size, 3, none⟩ = some (.int .i64 d) := hk.cell 3; have xa4 : w1.cell? ⟨w.heap.size, 4, none⟩ = some (.int .i64 r) := hk.cell 4; have xa5 : w1.cell? ⟨w.heap.size, 5, none⟩ = some (.int .i64 t) := hk.cell 5; have xa6 : w1.cell? ⟨w.heap.size, 6, none⟩ = some (.int .i64 ww) := hk.cell 6; have la := hk.lt; have HK1 := Lib.hid hk; clear hb hk)
    | (go_at_call 15; (with_reducible refine (HR.out _ (HBy.out.below (HB1.out.alloc HB1.out.size (.cells #[.int .u8 (xc : Nat), .int .i64 xn, .int .i64 xk, .int .i64 xd, .int .i64 xr, .int .i64 xt, .int .i64 xw] 23)))).mono ?_); rintro e w2 ⟨rfl, hb⟩; have HB2 := Lib.hid ((HB1.out.alloc HB1.out.size (.cells #[.int .u8 (xc : Nat), .int .i64 xn, .int .i64 xk, .int .i64 xd, .int .i64 xr, .int .i64 xt, .int .i64 xw] 23)).trans (hb.mono (HB1.out.alloc HB1.out.size (.cells #[.int .u8 (xc : Nat), .int .i64 xn, .int .i64 xk, .int .i64 xd, .int .i64 xr, .int .i64 xt, .int .i64 xw] 23)).size)); have hk := (HK1.out.alloc (.cells #[.int .u8 (xc : Nat), .int .i64 xn, .int .i64 xk, .int .i64 xd, .int .i64 xr, .int .i64 xt, .int .i64 xw] 23)).below hb (HK1.out.alloc (.cells #[.int .u8 (xc : Nat), .int .i64 xn, .int .i64 xk, .int .i64 xd, .int .i64 xr, .int .i64 xt, .int .i64 xw] 23)).lt; have hs := (Block.new w1 23 #[.int .u8 (xc : Nat), .int .i64 xn, .int .i64 xk, .int .i64 xd, .int .i64 xr, .int .i64 xt, .int .i64 xw]).below hb (Block.new w1 23 #[.int .u8 (xc : Nat), .int .i64 xn, .int .i64 xk, .int .i64 xd, .int .i64 xr, .int .i64 xt, .int .i64 xw]).lt; have xb0 : w2.cell? ⟨w.heap.size, 0, none⟩ = some (.int .u8 (code : Nat)) := hk.cell 0; have xb1 : w2.cell? ⟨w.heap.size, 1, none⟩ = some (.int .i64 n) := hk.cell 1; have xb2 : w2.cell? ⟨w.heap.size, 2, none⟩ = some (.int .i64 k) := hk.cell 2; have xb3 : w2.cell? ⟨w.heap.size, 3, none⟩ = some (.int .i64 d) := hk.cell 3; have xb4 : w2.cell? ⟨w.heap.size, 4, none⟩ = some (.int .i64 r) := hk.cell 4; have xb5 : w2.cell? ⟨w.heap.size, 5, none⟩ = some (.int .i64 t) := hk.cell 5; have xb6 : w2.cell? ⟨w.heap.size, 6, none⟩ = some (.int .i64 ww) := hk.cell 6; have ya0 : w2.cell? ⟨w1.heap.size, 0, none⟩ = some (.int .u8 (xc : Nat)) := hs.cell 0; have ya1 : w2.cell? ⟨w1.heap.size, 1, none⟩ = some (.int .i64 xn) := hs.cell 1; have ya2 : w2.cell? ⟨w1.heap.size, 2, none⟩ = some (.int .i64 xk) := hs.cell 2; have ya3 : w2.cell? ⟨w1.heap.size, 3, none⟩ = some (.int .i64 xd) := hs.cell 3; have ya4 : w2.cell? ⟨w1.heap.size, 4, none⟩ = some (.int .i64 xr) := hs.cell 4; have ya5 : w2.cell? ⟨w1.heap.size, 5, none⟩ = some (.int .i64 xt) := hs.cell 5; have ya6 : w2.cell? ⟨w1.heap.size, 6, none⟩ = some (.int .i64 xw) := hs.cell 6; have lb := hk.lt; have lb1 := hs.lt; have HK2 := Lib.hid hk; have HS2 := Lib.hid hs; clear hb hk hs)
    | (go_at_call 10; (with_reducible refine (HX.out _).mono ?_); rintro e w3 ⟨A3, c3, rfl, hc3, hy3, hb⟩; have HB3 := Lib.hid ((HB2.out.alloc HB2.out.size (.cells #[.int .u8 (xc : Nat), .int .i64 xn, .int .i64 xk, .int .i64 xd, .int .i64 xr, .int .i64 xt, .int .i64 xw] 23)).trans (hb.mono (HB2.out.alloc HB2.out.size (.cells #[.int .u8 (xc : Nat), .int .i64 xn, .int .i64 xk, .int .i64 xd, .int .i64 xr, .int .i64 xt, .int .i64 xw] 23)).size)); have hk := (HK2.out.alloc (.cells #[.int .u8 (xc : Nat), .int .i64 xn, .int .i64 xk, .int .i64 xd, .int .i64 xr, .int .i64 xt, .int .i64 xw] 23)).below hb (HK2.out.alloc (.cells #[.int .u8 (xc : Nat), .int .i64 xn, .int .i64 xk, .int .i64 xd, .int .i64 xr, .int .i64 xt, .int .i64 xw] 23)).lt; have xe0 : w3.cell? ⟨w.heap.size, 0, none⟩ = some (.int .u8 (code : Nat)) := hk.cell 0; have xe1 : w3.cell? ⟨w.heap.size, 1, none⟩ = some (.int .i64 n) := hk.cell 1; have xe2 : w3.cell? ⟨w.heap.size, 2, none⟩ = some (.int .i64 k) := hk.cell 2; have xe3 : w3.cell? ⟨w.heap.size, 3, none⟩ = some (.int .i64 d) := hk.cell 3; have xe4 : w3.cell? ⟨w.heap.size, 4, none⟩ = some (.int .i64 r) := hk.cell 4; have xe5 : w3.cell? ⟨w.heap.size, 5, none⟩ = some (.int .i64 t) := hk.cell 5; have xe6 : w3.cell? ⟨w.heap.size, 6, none⟩ = some (.int .i64 ww) := hk.cell 6; have HK3 := Lib.hid hk; have HSa := Lib.hid (Poly.same_calls A3 A0 p p m0 m0 c3 c0 w3 HPl.out HPl.out hy3 (HB0p.out _ (HBy.out.below HB3.out))); rw [decide_eq_true rfl] at HSa; clear hb hk hy3)
    | (go_at_call 12; (with_reducible refine HSa.out.mono ?_); rintro e wq ⟨rfl, rfl⟩)
    | (go_at_call 10; (with_reducible refine (HP.out _).mono ?_); rintro e w4 ⟨A4, c4, rfl, hc4, hy4, hb⟩; have HB4 := Lib.hid (HB3.out.trans (hb.mono HB3.out.size)); clear hb hy4)
    | (go_at_call 13; (with_reducible refine (HW.out _).mono ?_); rintro e wz ⟨rfl, hb⟩; have HBz := Lib.hid (HB4.out.trans (hb.mono HB4.out.size)); clear hb))
  go_ret
  exact ⟨rfl, HBz.out⟩
set_option maxRecDepth 100000 in
set_option maxHeartbeats 6400000 in
theorem get11 (w : World) (A0 : Option Addr) (l0 : List Nat) (c0 m0 : Nat) (hm0 : l0.length = m0) (hb0 : Bytes w A0 l0) (hc0 : m0 ≤ c0) (h3 : m0 ≤ 300) (c1 : Cf.C) (hc1 : c1.Ok) (x : C) (hx : getC l0 = some x) (sh : Sh) (hck : chk c1 = some sh) : Calls Try.prog 4 #[.slice A0 m0 c0, .agg (Cf.cV c1)] w fun e w' => e = .returned (.bool true) ∧ Below w.heap.size w w' := by
  have HW := Lib.hid works_calls
  have HBy := Lib.hid hb0
  have HG := Lib.hid fun (X : World) (hX : Bytes X A0 l0) => get_calls A0 l0 m0 c0 X hm0 hX hc0
  have HR := Lib.hid fun (X : World) (hX : Bytes X A0 l0) => rget_calls A0 l0 m0 c0 X hm0 hX hc0
  unfold GetIs at HG HR
  rw [hx] at HG HR
  unfold gV gE at HG HR
  have HP := Lib.hid (put_calls c1 hc1)
  unfold PutIs at HP
  obtain ⟨hpx, hsx⟩ := put_getC hx
  have hxo := getC_ok hx hb0.lt
  have HX := Lib.hid (put_calls x hxo)
  unfold PutIs at HX
  have hex : eZ (chk x) = 0 := by obtain ⟨s', hs'⟩ := hsx; rw [hs']; rfl
  obtain ⟨p, hp⟩ := F8.of_bytes l0 hb0.lt
  have HPl := Lib.hid (show p.length = m0 by rw [← hm0, hp, F8.bs_length])
  rw [hpx, hex, hm0, hp] at HX
  have HB0p : Hid (∀ X, Bytes X A0 l0 → Bytes X A0 (F8.bs p)) := Lib.hid fun X h => by rw [← hp]; exact h
  obtain ⟨xc, xn, xk, xd, xr, xt, xw⟩ := x
  clear hpx hsx hxo hex hp
  have HQ := Lib.hid fun (A : Option Addr) (cap : Nat) (X : World) (hX : Bytes X A (putN c1)) (hc : (putN c1).length ≤ cap) => get_calls A (putN c1) (putN c1).length cap X rfl hX hc
  unfold GetIs at HQ
  rw [getC_put hck] at HQ
  unfold gV gE at HQ
  have he1 : eZ (chk c1) = 0 := by rw [hck]; rfl
  rw [he1] at HP
  obtain ⟨L, hL⟩ : ∃ L, (putN c1).length = L := ⟨_, rfl⟩
  obtain ⟨PL, hPL⟩ : ∃ PL, putN c1 = PL := ⟨_, rfl⟩
  rw [hL, hPL] at HP HQ
  clear he1 hL hPL
  obtain ⟨code, n, k, d, r, t, ww⟩ := c1
  unfold cV at HQ HX HG HR HP ⊢
  dsimp only at HQ HX HG HR HP ⊢
  have hEq := eq_config
  have d3 : decide (300 < (m0 : Int)) = false := decide_eq_false (by omega)
  have HB := Lib.hid ((Below.refl w.heap.size w).alloc (Nat.le_refl _) (.cells #[.int .u8 (code : Nat), .int .i64 n, .int .i64 k, .int .i64 d, .int .i64 r, .int .i64 t, .int .i64 ww] 23))
  have HK := Lib.hid (Block.new w 23 #[.int .u8 (code : Nat), .int .i64 n, .int .i64 k, .int .i64 d, .int .i64 r, .int .i64 t, .int .i64 ww])
  clear hx hck hc1 hb0 hm0 hc0 h3
  go_enter Try.func4, Try.ntmps4
  go_wp2_with (first
    | (go_at_call 14; (with_reducible refine (HG.out _ (HBy.out.below HB.out)).mono ?_); rintro e w1 ⟨rfl, hb⟩; have HB1 := Lib.hid (HB.out.trans (hb.mono HB.out.size)); have hk := HK.out.below hb HK.out.lt; have xa0 : w1.cell? ⟨w.heap.size, 0, none⟩ = some (.int .u8 (code : Nat)) := hk.cell 0; have xa1 : w1.cell? ⟨w.heap.size, 1, none⟩ = some (.int .i64 n) := hk.cell 1; have xa2 : w1.cell? ⟨w.heap.size, 2, none⟩ = some (.int .i64 k) := hk.cell 2; have xa3 : w1.cell? ⟨w.heap.size, 3, none⟩ = some (.int .i64 d) := hk.cell 3; have xa4 : w1.cell? ⟨w.heap.size, 4, none⟩ = some (.int .i64 r) := hk.cell 4; have xa5 : w1.cell? ⟨w.heap.size, 5, none⟩ = some (.int .i64 t) := hk.cell 5; have xa6 : w1.cell? ⟨w.heap.size, 6, none⟩ = some (.int .i64 ww) := hk.cell 6; have la := hk.lt; have HK1 := Lib.hid hk; clear hb hk)
    | (go_at_call 15; (with_reducible refine (HR.out _ (HBy.out.below (HB1.out.alloc HB1.out.size (.cells #[.int .u8 (xc : Nat), .int .i64 xn, .int .i64 xk, .int .i64 xd, .int .i64 xr, .int .i64 xt, .int .i64 xw] 23)))).mono ?_); rintro e w2 ⟨rfl, hb⟩; have HB2 := Lib.hid ((HB1.out.alloc HB1.out.size (.cells #[.int .u8 (xc : Nat), .int .i64 xn, .int .i64 xk, .int .i64 xd, .int .i64 xr, .int .i64 xt, .int .i64 xw] 23)).trans (hb.mono (HB1.out.alloc HB1.out.size (.cells #[.int .u8 (xc : Nat), .int .i64 xn, .int .i64 xk, .int .i64 xd, .int .i64 xr, .int .i64 xt, .int .i64 xw] 23)).size)); have hk := (HK1.out.alloc (.cells #[.int .u8 (xc : Nat), .int .i64 xn, .int .i64 xk, .int .i64 xd, .int .i64 xr, .int .i64 xt, .int .i64 xw] 23)).below hb (HK1.out.alloc (.cells #[.int .u8 (xc : Nat), .int .i64 xn, .int .i64 xk, .int .i64 xd, .int .i64 xr, .int .i64 xt, .int .i64 xw] 23)).lt; have hs := (Block.new w1 23 #[.int .u8 (xc : Nat), .int .i64 xn, .int .i64 xk, .int .i64 xd, .int .i64 xr, .int .i64 xt, .int .i64 xw]).below hb (Block.new w1 23 #[.int .u8 (xc : Nat), .int .i64 xn, .int .i64 xk, .int .i64 xd, .int .i64 xr, .int .i64 xt, .int .i64 xw]).lt; have xb0 : w2.cell? ⟨w.heap.size, 0, none⟩ = some (.int .u8 (code : Nat)) := hk.cell 0; have xb1 : w2.cell? ⟨w.heap.size, 1, none⟩ = some (.int .i64 n) := hk.cell 1; have xb2 : w2.cell? ⟨w.heap.size, 2, none⟩ = some (.int .i64 k) := hk.cell 2; have xb3 : w2.cell? ⟨w.heap.size, 3, none⟩ = some (.int .i64 d) := hk.cell 3; have xb4 : w2.cell? ⟨w.heap.size, 4, none⟩ = some (.int .i64 r) := hk.cell 4; have xb5 : w2.cell? ⟨w.heap.size, 5, none⟩ = some (.int .i64 t) := hk.cell 5; have xb6 : w2.cell? ⟨w.heap.size, 6, none⟩ = some (.int .i64 ww) := hk.cell 6; have ya0 : w2.cell? ⟨w1.heap.size, 0, none⟩ = some (.int .u8 (xc : Nat)) := hs.cell 0; have ya1 : w2.cell? ⟨w1.heap.size, 1, none⟩ = some (.int .i64 xn) := hs.cell 1; have ya2 : w2.cell? ⟨w1.heap.size, 2, none⟩ = some (.int .i64 xk) := hs.cell 2; have ya3 : w2.cell? ⟨w1.heap.size, 3, none⟩ = some (.int .i64 xd) := hs.cell 3; have ya4 : w2.cell? ⟨w1.heap.size, 4, none⟩ = some (.int .i64 xr) := hs.cell 4; have ya5 : w2.cell? ⟨w1.heap.size, 5, none⟩ = some (.int .i64 xt) := hs.cell 5; have ya6 : w2.cell? ⟨w1.heap.size, 6, none⟩ = some (.int .i64 xw) := hs.cell 6; have lb := hk.lt; have lb1 := hs.lt; have HK2 := Lib.hid hk; have HS2 := Lib.hid hs; clear hb hk hs)
    | (go_at_call 10; (with_reducible refine (HX.out _).mono ?_); rintro e w3 ⟨A3, c3, rfl, hc3, hy3, hb⟩; have HB3 := Lib.hid ((HB2.out.alloc HB2.out.size (.cells #[.int .u8 (xc : Nat), .int .i64 xn, .int .i64 xk, .int .i64 xd, .int .i64 xr, .int .i64 xt, .int .i64 xw] 23)).trans (hb.mono (HB2.out.alloc HB2.out.size (.cells #[.int .u8 (xc : Nat), .int .i64 xn, .int .i64 xk, .int .i64 xd, .int .i64 xr, .int .i64 xt, .int .i64 xw] 23)).size)); have hk := (HK2.out.alloc (.cells #[.int .u8 (xc : Nat), .int .i64 xn, .int .i64 xk, .int .i64 xd, .int .i64 xr, .int .i64 xt, .int .i64 xw] 23)).below hb (HK2.out.alloc (.cells #[.int .u8 (xc : Nat), .int .i64 xn, .int .i64 xk, .int .i64 xd, .int .i64 xr, .int .i64 xt, .int .i64 xw] 23)).lt; have xe0 : w3.cell? ⟨w.heap.size, 0, none⟩ = some (.int .u8 (code : Nat)) := hk.cell 0; have xe1 : w3.cell? ⟨w.heap.size, 1, none⟩ = some (.int .i64 n) := hk.cell 1; have xe2 : w3.cell? ⟨w.heap.size, 2, none⟩ = some (.int .i64 k) := hk.cell 2; have xe3 : w3.cell? ⟨w.heap.size, 3, none⟩ = some (.int .i64 d) := hk.cell 3; have xe4 : w3.cell? ⟨w.heap.size, 4, none⟩ = some (.int .i64 r) := hk.cell 4; have xe5 : w3.cell? ⟨w.heap.size, 5, none⟩ = some (.int .i64 t) := hk.cell 5; have xe6 : w3.cell? ⟨w.heap.size, 6, none⟩ = some (.int .i64 ww) := hk.cell 6; have HK3 := Lib.hid hk; have HSa := Lib.hid (Poly.same_calls A3 A0 p p m0 m0 c3 c0 w3 HPl.out HPl.out hy3 (HB0p.out _ (HBy.out.below HB3.out))); rw [decide_eq_true rfl] at HSa; clear hb hk hy3)
    | (go_at_call 12; (with_reducible refine HSa.out.mono ?_); rintro e wq ⟨rfl, rfl⟩)
    | (go_at_call 10; (with_reducible refine (HP.out _).mono ?_); rintro e w4 ⟨A4, c4, rfl, hc4, hy4, hb⟩; have HB4 := Lib.hid (HB3.out.trans (hb.mono HB3.out.size)); have hk := HK3.out.below hb HK3.out.lt; have xf0 : w4.cell? ⟨w.heap.size, 0, none⟩ = some (.int .u8 (code : Nat)) := hk.cell 0; have xf1 : w4.cell? ⟨w.heap.size, 1, none⟩ = some (.int .i64 n) := hk.cell 1; have xf2 : w4.cell? ⟨w.heap.size, 2, none⟩ = some (.int .i64 k) := hk.cell 2; have xf3 : w4.cell? ⟨w.heap.size, 3, none⟩ = some (.int .i64 d) := hk.cell 3; have xf4 : w4.cell? ⟨w.heap.size, 4, none⟩ = some (.int .i64 r) := hk.cell 4; have xf5 : w4.cell? ⟨w.heap.size, 5, none⟩ = some (.int .i64 t) := hk.cell 5; have xf6 : w4.cell? ⟨w.heap.size, 6, none⟩ = some (.int .i64 ww) := hk.cell 6; have HK4 := Lib.hid hk; have HQ4 := Lib.hid (HQ.out A4 c4 w4 hy4 hc4); clear hb hk hy4)
    | (go_at_call 14; (with_reducible refine HQ4.out.mono ?_); rintro e w5 ⟨rfl, hb⟩; have HB5 := Lib.hid (HB4.out.trans (hb.mono HB4.out.size)); have hk := HK4.out.below hb HK4.out.lt; have xg0 : w5.cell? ⟨w.heap.size, 0, none⟩ = some (.int .u8 (code : Nat)) := hk.cell 0; have xg1 : w5.cell? ⟨w.heap.size, 1, none⟩ = some (.int .i64 n) := hk.cell 1; have xg2 : w5.cell? ⟨w.heap.size, 2, none⟩ = some (.int .i64 k) := hk.cell 2; have xg3 : w5.cell? ⟨w.heap.size, 3, none⟩ = some (.int .i64 d) := hk.cell 3; have xg4 : w5.cell? ⟨w.heap.size, 4, none⟩ = some (.int .i64 r) := hk.cell 4; have xg5 : w5.cell? ⟨w.heap.size, 5, none⟩ = some (.int .i64 t) := hk.cell 5; have xg6 : w5.cell? ⟨w.heap.size, 6, none⟩ = some (.int .i64 ww) := hk.cell 6; have lg := hk.lt; clear hb hk)
    | (go_at_call 13; (with_reducible refine (HW.out _).mono ?_); rintro e wz ⟨rfl, hb⟩; have HBz := Lib.hid ((HB5.out.alloc HB5.out.size (.cells #[.int .u8 (code : Nat), .int .i64 n, .int .i64 k, .int .i64 d, .int .i64 r, .int .i64 t, .int .i64 ww] 23)).trans (hb.mono (HB5.out.alloc HB5.out.size (.cells #[.int .u8 (code : Nat), .int .i64 n, .int .i64 k, .int .i64 d, .int .i64 r, .int .i64 t, .int .i64 ww] 23)).size)); clear hb))
  go_ret
  exact ⟨rfl, HBz.out⟩
set_option maxRecDepth 100000 in
theorem walk (w : World) (A0 : Option Addr) (l0 : List Nat) (c0 : Nat) (hb0 : Bytes w A0 l0) (hc0 : l0.length ≤ c0) (hm0 : c0 ≤ 9223372036854775807) (c1 : Cf.C) (hc1 : c1.Ok) : Calls Try.prog 4 #[.slice A0 l0.length c0, .agg (Cf.cV c1)] w fun e w' => e = .returned (.bool true) ∧ Below w.heap.size w w' := by
  by_cases h3 : l0.length ≤ 300
  · cases hx : getC l0 with
    | none =>
      cases hck : chk c1 with
      | none => exact get00 w A0 l0 c0 _ rfl hb0 hc0 h3 c1 hc1 hx hck
      | some sh => exact get01 w A0 l0 c0 _ rfl hb0 hc0 h3 c1 hc1 hx sh hck
    | some x =>
      cases hck : chk c1 with
      | none => exact get10 w A0 l0 c0 _ rfl hb0 hc0 h3 c1 hc1 x hx hck
      | some sh => exact get11 w A0 l0 c0 _ rfl hb0 hc0 h3 c1 hc1 x hx sh hck
  have HW := Lib.hid works_calls
  obtain ⟨m0, hm⟩ : ∃ m0, l0.length = m0 := ⟨_, rfl⟩
  rw [hm] at h3 ⊢
  have d3 : decide (300 < (m0 : Int)) = true := decide_eq_true (by omega)
  obtain ⟨code, n, k, d, r, t, ww⟩ := c1
  unfold cV
  dsimp only
  have HB := Lib.hid ((Below.refl w.heap.size w).alloc (Nat.le_refl _) (.cells #[.int .u8 (code : Nat), .int .i64 n, .int .i64 k, .int .i64 d, .int .i64 r, .int .i64 t, .int .i64 ww] 23))
  clear hb0 hc0 hm0 hc1 h3 hm
  go_enter Try.func4, Try.ntmps4
  go_wp2_with (go_at_call 13; (with_reducible refine (HW.out _).mono ?_); rintro e wz ⟨rfl, hb⟩; have HBz := Lib.hid (HB.out.trans (hb.mono HB.out.size)); clear hb)
  go_ret
  exact ⟨rfl, HBz.out⟩
end Go.Proofs.Ytikfjbomogekbaa.configGet
