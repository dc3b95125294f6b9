/- Put: a valid code as bytes; the program's and the definition's. -/
import Derived.Test.YtikfjbomogekbaaCfRChk
namespace Go.Proofs.Ytikfjbomogekbaa.Cf
open Go.RowKit
attribute [local go_sem] Oper.semAt_some
set_option linter.unusedVariables false

/-- The bytes of a code, if that is valid. -/
def putN (c : C) : List Nat := match chk c with
  | none => []
  | some _ => [c.code, c.n.toNat, c.k.toNat, c.d.toNat, c.r.toNat, c.t.toNat, c.w.toNat]
/-- What Put answers. -/
def PutIs (c : C) (w : World) (e : Ending) (w' : World) : Prop :=
  ∃ A cap, e = .returned (.tuple #[.slice A (putN c).length cap, .int .i64 (eZ (chk c))]) ∧ (putN c).length ≤ cap ∧ Bytes w' A (putN c) ∧ Below w.heap.size w w'
theorem u8w {x : Nat} (h : x ≤ 255) : IntKind.u8.wrap (x : Int) = (x : Int) := by
  rw [IntKind.wrap_u8']; omega
theorem bytes7 (w : World) {a b c d e f g : Nat} (h : a < 256 ∧ b < 256 ∧ c < 256 ∧ d < 256 ∧ e < 256 ∧ f < 256 ∧ g < 256) : Bytes (w.alloc (.cells #[.int .u8 (a : Nat), .int .u8 (b : Nat), .int .u8 (c : Nat), .int .u8 (d : Nat), .int .u8 (e : Nat), .int .u8 (f : Nat), .int .u8 (g : Nat)] 5)) (some ⟨w.heap.size, 0, none⟩) [a, b, c, d, e, f, g] :=
  ⟨Row.new w _ _ (0, 0), fun x hx => by simp only [List.mem_cons, List.not_mem_nil, or_false] at hx; omega⟩
set_option maxRecDepth 100000 in
set_option maxHeartbeats 6400000 in
theorem put_calls (c : C) (hok : c.Ok) (w : World) : Calls Try.prog 10 #[.agg (cV c)] w (PutIs c w) := by
  cases hck : chk c with
  | none =>
    have HC := Lib.hid (check_calls c hok)
    rw [hck] at HC
    have HP : Hid (putN c = [] ∧ eZ (chk c) = 130) := Lib.hid ⟨by unfold putN; rw [hck], by rw [hck]; rfl⟩
    obtain ⟨code, n, k, d, r, t, ww⟩ := c
    unfold cV at HC ⊢
    dsimp only at HC ⊢
    have HQ : Hid (∀ X : World, Calls Try.prog 8 #[.agg #[.int .u8 (code : Nat), .int .i64 n, .int .i64 k, .int .i64 d, .int .i64 r, .int .i64 t, .int .i64 ww]] X fun e w' => e = .returned (.tuple #[.agg #[.int .i64 0, .int .i64 0, .int .i64 0, .int .i64 0, .int .i64 0], .int .i64 130]) ∧ Below X.heap.size X w') := HC
    have HB := Lib.hid ((Below.refl w.heap.size w).alloc (Nat.le_refl _) (.cells #[.int .u8 (code : Nat), .int .i64 n, .int .i64 k, .int .i64 d, .int .i64 r, .int .i64 t, .int .i64 ww] 23))
    clear hck HC hok
    go_enter Try.func10, Try.ntmps10
    go_wp2_with (go_at_call 8; (with_reducible refine (HQ.out _).mono ?_); rintro e w1 ⟨rfl, hb1⟩; have HB1 := Lib.hid (HB.out.trans (hb1.mono HB.out.size)); clear hb1)
    go_ret2
    obtain ⟨e1, e2⟩ := HP.out
    unfold PutIs
    rw [e1, e2]
    exact ⟨none, 0, rfl, Nat.le_refl _, Bytes.nil _ _, HB1.out.alloc HB1.out.size _⟩
  | some s =>
    have HC := Lib.hid (check_calls c hok)
    rw [hck] at HC
    have HP : Hid (putN c = [c.code, c.n.toNat, c.k.toNat, c.d.toNat, c.r.toNat, c.t.toNat, c.w.toNat] ∧ eZ (chk c) = 0) := Lib.hid ⟨by unfold putN; rw [hck], by rw [hck]; rfl⟩
    obtain ⟨⟨bn1, bn2⟩, ⟨bk1, bk2⟩, ⟨bd1, bd2⟩, ⟨br1, br2⟩, ⟨bt1, bt2⟩, ⟨bw1, bw2⟩⟩ := chk_bytes hck
    have hcode := hok.1
    clear hck hok
    obtain ⟨code, n, k, d, r, t, ww⟩ := c
    obtain ⟨sa, sb, ss, so⟩ := s
    dsimp only at bn1 bn2 bk1 bk2 bd1 bd2 br1 br2 bt1 bt2 bw1 bw2 hcode HP
    obtain ⟨n, rfl⟩ := Int.eq_ofNat_of_zero_le (show 0 ≤ n by omega)
    obtain ⟨k, rfl⟩ := Int.eq_ofNat_of_zero_le (show 0 ≤ k by omega)
    obtain ⟨d, rfl⟩ := Int.eq_ofNat_of_zero_le (show 0 ≤ d by omega)
    obtain ⟨r, rfl⟩ := Int.eq_ofNat_of_zero_le (show 0 ≤ r by omega)
    obtain ⟨t, rfl⟩ := Int.eq_ofNat_of_zero_le (show 0 ≤ t by omega)
    obtain ⟨ww, rfl⟩ := Int.eq_ofNat_of_zero_le (show 0 ≤ ww by omega)
    simp only [Int.toNat_natCast] at HP
    unfold cV at HC ⊢
    dsimp only at HC ⊢
    have HQ : Hid (∀ X : World, Calls Try.prog 8 #[.agg #[.int .u8 (code : Nat), .int .i64 (n : Nat), .int .i64 (k : Nat), .int .i64 (d : Nat), .int .i64 (r : Nat), .int .i64 (t : Nat), .int .i64 (ww : Nat)]] X fun e w' => e = .returned (.tuple #[.agg #[.int .i64 sa, .int .i64 sb, .int .i64 ss, .int .i64 so, .int .i64 1], .int .i64 0]) ∧ Below X.heap.size X w') := HC
    have HB := Lib.hid ((Below.refl w.heap.size w).alloc (Nat.le_refl _) (.cells #[.int .u8 (code : Nat), .int .i64 (n : Nat), .int .i64 (k : Nat), .int .i64 (d : Nat), .int .i64 (r : Nat), .int .i64 (t : Nat), .int .i64 (ww : Nat)] 23))
    have HK := Lib.hid (Block.new w 23 #[.int .u8 (code : Nat), .int .i64 (n : Nat), .int .i64 (k : Nat), .int .i64 (d : Nat), .int .i64 (r : Nat), .int .i64 (t : Nat), .int .i64 (ww : Nat)])
    have v1 := u8w (x := n) (by omega)
    have v2 := u8w (x := k) (by omega)
    have v3 := u8w (x := d) (by omega)
    have v4 := u8w (x := r) (by omega)
    have v5 := u8w (x := t) (by omega)
    have v6 := u8w (x := ww) (by omega)
    have HL : Hid (code < 256 ∧ n < 256 ∧ k < 256 ∧ d < 256 ∧ r < 256 ∧ t < 256 ∧ ww < 256) := Lib.hid ⟨hcode, by omega, by omega, by omega, by omega, by omega, by omega⟩
    clear HC
    go_enter Try.func10, Try.ntmps10
    go_wp2_with (go_at_call 8; (with_reducible refine (HQ.out _).mono ?_); rintro e w1 ⟨rfl, hb1⟩; have HB1 := Lib.hid (HB.out.trans (hb1.mono HB.out.size)); have hK1 := HK.out.below hb1 HK.out.lt; have z0 : w1.cell? ⟨w.heap.size, 0, none⟩ = some (.int .u8 (code : Nat)) := hK1.cell 0; have z1 : w1.cell? ⟨w.heap.size, 1, none⟩ = some (.int .i64 (n : Nat)) := hK1.cell 1; have z2 : w1.cell? ⟨w.heap.size, 2, none⟩ = some (.int .i64 (k : Nat)) := hK1.cell 2; have z3 : w1.cell? ⟨w.heap.size, 3, none⟩ = some (.int .i64 (d : Nat)) := hK1.cell 3; have z4 : w1.cell? ⟨w.heap.size, 4, none⟩ = some (.int .i64 (r : Nat)) := hK1.cell 4; have z5 : w1.cell? ⟨w.heap.size, 5, none⟩ = some (.int .i64 (t : Nat)) := hK1.cell 5; have z6 : w1.cell? ⟨w.heap.size, 6, none⟩ = some (.int .i64 (ww : Nat)) := hK1.cell 6; have l1 := hK1.lt; clear hK1 hb1)
    go_ret2
    obtain ⟨e1, e2⟩ := HP.out
    unfold PutIs
    rw [e1, e2]
    have h7 := bytes7 (w1.alloc (.cells #[.int .i64 sa, .int .i64 sb, .int .i64 ss, .int .i64 so, .int .i64 1] 25)) HL.out
    rw [World.size_alloc] at h7
    exact ⟨_, 7, rfl, Nat.le_refl _, h7, (HB1.out.alloc HB1.out.size _).alloc (HB1.out.alloc HB1.out.size _).size _⟩
set_option maxRecDepth 100000 in
set_option maxHeartbeats 6400000 in
theorem rput_calls (c : C) (hok : c.Ok) (w : World) : Calls Try.prog 11 #[.agg (cV c)] w (PutIs c w) := by
  cases hck : chk c with
  | none =>
    have HC := Lib.hid (rcheck_calls c hok)
    rw [hck] at HC
    have HP : Hid (putN c = [] ∧ eZ (chk c) = 130) := Lib.hid ⟨by unfold putN; rw [hck], by rw [hck]; rfl⟩
    obtain ⟨code, n, k, d, r, t, ww⟩ := c
    unfold cV at HC ⊢
    dsimp only at HC ⊢
    have HQ : Hid (∀ X : World, Calls Try.prog 9 #[.agg #[.int .u8 (code : Nat), .int .i64 n, .int .i64 k, .int .i64 d, .int .i64 r, .int .i64 t, .int .i64 ww]] X fun e w' => e = .returned (.tuple #[.agg #[.int .i64 0, .int .i64 0, .int .i64 0, .int .i64 0, .int .i64 0], .int .i64 130]) ∧ Below X.heap.size X w') := HC
    have HB := Lib.hid ((Below.refl w.heap.size w).alloc (Nat.le_refl _) (.cells #[.int .u8 (code : Nat), .int .i64 n, .int .i64 k, .int .i64 d, .int .i64 r, .int .i64 t, .int .i64 ww] 23))
    clear hck HC hok
    go_enter Try.func11, Try.ntmps11
    go_wp2_with (go_at_call 9; (with_reducible refine (HQ.out _).mono ?_); rintro e w1 ⟨rfl, hb1⟩; have HB1 := Lib.hid (HB.out.trans (hb1.mono HB.out.size)); clear hb1)
    go_ret2
    obtain ⟨e1, e2⟩ := HP.out
    unfold PutIs
    rw [e1, e2]
    exact ⟨none, 0, rfl, Nat.le_refl _, Bytes.nil _ _, HB1.out.alloc HB1.out.size _⟩
  | some s =>
    have HC := Lib.hid (rcheck_calls c hok)
    rw [hck] at HC
    have HP : Hid (putN c = [c.code, c.n.toNat, c.k.toNat, c.d.toNat, c.r.toNat, c.t.toNat, c.w.toNat] ∧ eZ (chk c) = 0) := Lib.hid ⟨by unfold putN; rw [hck], by rw [hck]; rfl⟩
    obtain ⟨⟨bn1, bn2⟩, ⟨bk1, bk2⟩, ⟨bd1, bd2⟩, ⟨br1, br2⟩, ⟨bt1, bt2⟩, ⟨bw1, bw2⟩⟩ := chk_bytes hck
    have hcode := hok.1
    clear hck hok
    obtain ⟨code, n, k, d, r, t, ww⟩ := c
    obtain ⟨sa, sb, ss, so⟩ := s
    dsimp only at bn1 bn2 bk1 bk2 bd1 bd2 br1 br2 bt1 bt2 bw1 bw2 hcode HP
    obtain ⟨n, rfl⟩ := Int.eq_ofNat_of_zero_le (show 0 ≤ n by omega)
    obtain ⟨k, rfl⟩ := Int.eq_ofNat_of_zero_le (show 0 ≤ k by omega)
    obtain ⟨d, rfl⟩ := Int.eq_ofNat_of_zero_le (show 0 ≤ d by omega)
    obtain ⟨r, rfl⟩ := Int.eq_ofNat_of_zero_le (show 0 ≤ r by omega)
    obtain ⟨t, rfl⟩ := Int.eq_ofNat_of_zero_le (show 0 ≤ t by omega)
    obtain ⟨ww, rfl⟩ := Int.eq_ofNat_of_zero_le (show 0 ≤ ww by omega)
    simp only [Int.toNat_natCast] at HP
    unfold cV at HC ⊢
    dsimp only at HC ⊢
    have HQ : Hid (∀ X : World, Calls Try.prog 9 #[.agg #[.int .u8 (code : Nat), .int .i64 (n : Nat), .int .i64 (k : Nat), .int .i64 (d : Nat), .int .i64 (r : Nat), .int .i64 (t : Nat), .int .i64 (ww : Nat)]] X fun e w' => e = .returned (.tuple #[.agg #[.int .i64 sa, .int .i64 sb, .int .i64 ss, .int .i64 so, .int .i64 1], .int .i64 0]) ∧ Below X.heap.size X w') := HC
    have HB := Lib.hid ((Below.refl w.heap.size w).alloc (Nat.le_refl _) (.cells #[.int .u8 (code : Nat), .int .i64 (n : Nat), .int .i64 (k : Nat), .int .i64 (d : Nat), .int .i64 (r : Nat), .int .i64 (t : Nat), .int .i64 (ww : Nat)] 23))
    have HK := Lib.hid (Block.new w 23 #[.int .u8 (code : Nat), .int .i64 (n : Nat), .int .i64 (k : Nat), .int .i64 (d : Nat), .int .i64 (r : Nat), .int .i64 (t : Nat), .int .i64 (ww : Nat)])
    have v1 := u8w (x := n) (by omega)
    have v2 := u8w (x := k) (by omega)
    have v3 := u8w (x := d) (by omega)
    have v4 := u8w (x := r) (by omega)
    have v5 := u8w (x := t) (by omega)
    have v6 := u8w (x := ww) (by omega)
    have HL : Hid (code < 256 ∧ n < 256 ∧ k < 256 ∧ d < 256 ∧ r < 256 ∧ t < 256 ∧ ww < 256) := Lib.hid ⟨hcode, by omega, by omega, by omega, by omega, by omega, by omega⟩
    clear HC
    go_enter Try.func11, Try.ntmps11
    go_wp2_with (go_at_call 9; (with_reducible refine (HQ.out _).mono ?_); rintro e w1 ⟨rfl, hb1⟩; have HB1 := Lib.hid (HB.out.trans (hb1.mono HB.out.size)); have hK1 := HK.out.below hb1 HK.out.lt; have z0 : w1.cell? ⟨w.heap.size, 0, none⟩ = some (.int .u8 (code : Nat)) := hK1.cell 0; have z1 : w1.cell? ⟨w.heap.size, 1, none⟩ = some (.int .i64 (n : Nat)) := hK1.cell 1; have z2 : w1.cell? ⟨w.heap.size, 2, none⟩ = some (.int .i64 (k : Nat)) := hK1.cell 2; have z3 : w1.cell? ⟨w.heap.size, 3, none⟩ = some (.int .i64 (d : Nat)) := hK1.cell 3; have z4 : w1.cell? ⟨w.heap.size, 4, none⟩ = some (.int .i64 (r : Nat)) := hK1.cell 4; have z5 : w1.cell? ⟨w.heap.size, 5, none⟩ = some (.int .i64 (t : Nat)) := hK1.cell 5; have z6 : w1.cell? ⟨w.heap.size, 6, none⟩ = some (.int .i64 (ww : Nat)) := hK1.cell 6; have l1 := hK1.lt; clear hK1 hb1)
    go_ret2
    obtain ⟨e1, e2⟩ := HP.out
    unfold PutIs
    rw [e1, e2]
    have h7 := bytes7 (w1.alloc (.cells #[.int .i64 sa, .int .i64 sb, .int .i64 ss, .int .i64 so, .int .i64 1] 29)) HL.out
    rw [World.size_alloc] at h7
    exact ⟨_, 7, rfl, Nat.le_refl _, h7, (HB1.out.alloc HB1.out.size _).alloc (HB1.out.alloc HB1.out.size _).size _⟩
end Go.Proofs.Ytikfjbomogekbaa.Cf
