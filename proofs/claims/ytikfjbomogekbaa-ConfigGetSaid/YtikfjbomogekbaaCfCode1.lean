/- Which codes are valid: the small functions. -/
import Derived.Test.YtikfjbomogekbaaCfMath
import Derived.Test.YtikfjbomogekbaaRows
import Derived.Below
import Derived.Lib.Hide
import Derived.WalkKit
import Derived.ProofKit
import Derived.BigQuiet
import Derived.Lib.QuietBelow
import Derived.Deep.RegionHeld
namespace Go.Proofs.Ytikfjbomogekbaa.Cf
open Go.RowKit
attribute [local go_sem] Oper.semAt_some
set_option linter.unusedVariables false

/-- A code as a value. -/
def cV (c : C) : Array Value := #[.int .u8 (c.code : Nat), .int .i64 c.n, .int .i64 c.k, .int .i64 c.d, .int .i64 c.r, .int .i64 c.t, .int .i64 c.w]
/-- A shape as a value. -/
def sV : Option Sh → Value
  | none => .agg #[.int .i64 0, .int .i64 0, .int .i64 0, .int .i64 0, .int .i64 0]
  | some s => .agg #[.int .i64 s.a, .int .i64 s.b, .int .i64 s.s, .int .i64 s.o, .int .i64 1]
/-- A code's numbers are int. -/
def C.Ok (c : C) : Prop := c.code < 256 ∧ (-9223372036854775808 ≤ c.n ∧ c.n ≤ 9223372036854775807) ∧ (-9223372036854775808 ≤ c.k ∧ c.k ≤ 9223372036854775807) ∧ (-9223372036854775808 ≤ c.d ∧ c.d ≤ 9223372036854775807) ∧ (-9223372036854775808 ≤ c.r ∧ c.r ≤ 9223372036854775807) ∧ (-9223372036854775808 ≤ c.t ∧ c.t ≤ 9223372036854775807) ∧ (-9223372036854775808 ≤ c.w ∧ c.w ≤ 9223372036854775807)
theorem ret_nat {k : IntKind} {a b : Nat} (h : a = b) : Ending.returned (.int k (a : Int)) = .returned (.int k (b : Int)) := by rw [h]
theorem pairs_nonneg (k : Int) : 0 ≤ k * (k - 1) := by
  rcases Int.lt_or_le 0 k with h | h
  · exact Int.mul_nonneg (by omega) (by omega)
  · have := Int.mul_nonneg (show 0 ≤ -k by omega) (show 0 ≤ -(k - 1) by omega)
    rw [Int.neg_mul_neg] at this
    exact this
theorem pairs_calls (k : Int) (h1 : -1000 ≤ k) (h2 : k ≤ 1000) (w : World) : Calls Try.prog 74 #[.int .i64 k] w fun e w' => e = .returned (.int .i64 (pairs k)) ∧ w' = w := by
  have h0 := pairs_nonneg k
  have h3 : k * (k - 1) ≤ 1000000000 := by
    have ha : k * (k - 1) = (1000 - k) * (-1000 - k) + (1000000 - k) := by
      rw [Int.sub_mul, Int.mul_sub, Int.mul_sub, Int.mul_sub]
      omega
    have hb : 0 ≤ (1000 - k) * (1000 + k) := Int.mul_nonneg (by omega) (by omega)
    have hc : (1000 - k) * (-1000 - k) = -((1000 - k) * (1000 + k)) := by
      rw [← Int.mul_neg]
      congr 1
      omega
    omega
  have hp : pairs k = k * (k - 1) / 2 := rfl
  obtain ⟨m, hm⟩ : ∃ m, k * (k - 1) = m := ⟨_, rfl⟩
  rw [hm] at h0 h3 hp
  have w1 : IntKind.i64.wrap (k - 1) = k - 1 := IntWalk.i64_in _ (by omega)
  have w2 : IntKind.i64.wrap (k * (k - 1)) = m := by rw [hm]; exact IntWalk.i64_in _ (by omega)
  have w3 : m.tdiv 2 = m / 2 := Int.tdiv_eq_ediv_of_nonneg h0
  have w4 : IntKind.i64.wrap (m / 2) = m / 2 := IntWalk.i64_in _ (by omega)
  rw [hp]
  clear hp
  have hm' := Lib.hid hm
  clear hm
  go_enter Try.func74, Try.ntmps74
  go_wp2
  go_ret
  exact ⟨rfl, rfl⟩
theorem gcd_step (a b : Nat) : Nat.gcd b (a % b) = Nat.gcd a b := by
  rw [Nat.gcd_comm b, ← Nat.gcd_rec, Nat.gcd_comm]
set_option maxHeartbeats 1600000 in
theorem divisor_calls (a b : Nat) (ha : a < 1000) (hb : b < 1000) (w : World) :
    Calls Try.prog 92 #[.int .i64 a, .int .i64 b] w fun e w' => e = .returned (.int .i64 (Nat.gcd a b : Nat)) ∧ ∃ n, w' = w.drewN n := by
  go_enter Try.func92, Try.ntmps92
  go_wp2
  go_loopw [0, 1] (fun x y wr => ∃ c d n : Nat, c < 1000 ∧ d < 1000 ∧ x = .int .i64 c ∧ y = .int .i64 d ∧ Hid (Nat.gcd c d = Nat.gcd a b) ∧ wr = w.drewN n) (fun _ y _ => (intOf y).toNat)
  case atStart => exact ⟨a, b, 0, ha, hb, rfl, rfl, Lib.hid rfl, rfl⟩
  case round =>
    obtain ⟨c, d, n, hc, hd, rfl, rfl, HG, rfl⟩ := hrel
    by_cases d0 : d = 0
    · subst d0
      go_wp2
      go_ret
      exact ⟨ret_nat (by rw [← HG.out, Nat.gcd_zero_right]), n, rfl⟩
    · have h1 : decide ((0 : Int) < (d : Int)) = true := decide_eq_true (by omega)
      have hd0 : (d : Int) ≠ 0 := by omega
      go_wp2
      go_region
      all_goals
        go_wp2
        go_roundw
        case rel => exact ⟨d, c % d, n + 1, hd, Nat.lt_of_le_of_lt (Nat.mod_le _ _) hc, rfl, by go_num, by rw [gcd_step]; exact HG, rfl⟩
        case measure => have := Nat.mod_lt c (show 0 < d by omega); simp [intOf]; omega
/-- Alpha is small enough, and no two of the places have points with the same power. -/
def Spr (c : C) : Prop := c.d - c.k + 1 ≤ 16 ∧ c.n + (c.d - 2 * c.k + 2) ≤ lim (c.d - c.k + 1).toNat
instance (c : C) : Decidable (Spr c) := inferInstanceAs (Decidable (_ ∧ _))
set_option maxRecDepth 100000 in
set_option maxHeartbeats 1600000 in
theorem spreads_calls (c : C) (h1 : 2 ≤ c.k) (h2 : 2 * c.k ≤ c.d + 2) (h3 : c.d < c.n) (h4 : c.n ≤ 255) (w : World) : Calls Try.prog 72 #[.agg (cV c)] w fun e w' => e = .returned (.bool (decide (Spr c))) ∧ Below w.heap.size w w' := by
  obtain ⟨code, n, k, d, r, t, ww⟩ := c
  dsimp only at h1 h2 h3 h4
  obtain ⟨a, ha⟩ : ∃ a : Nat, d - k + 1 = (a : Int) := ⟨(d - k + 1).toNat, by omega⟩
  have hS : Spr ⟨code, n, k, d, r, t, ww⟩ ↔ (a : Int) ≤ 16 ∧ n + (d - 2 * k + 2) ≤ (lim a : Nat) := by
    unfold Spr
    dsimp only
    rw [ha, Int.toNat_natCast]
  have hS' : decide (Spr ⟨code, n, k, d, r, t, ww⟩) = decide ((a : Int) ≤ 16 ∧ n + (d - 2 * k + 2) ≤ (lim a : Nat)) := decide_eq_decide.2 hS
  rw [hS']
  clear hS hS'
  unfold cV
  dsimp only
  have hd : Hid (∀ X : World, Calls Try.prog 92 #[.int .i64 (a : Nat), .int .i64 255] X fun e w' => e = .returned (.int .i64 (Nat.gcd a 255 : Nat)) ∧ Below X.heap.size X w') := Lib.hid fun X => (divisor_calls a 255 (by omega) (by decide) X).mono fun _ _ h => ⟨h.1, by obtain ⟨n, rfl⟩ := h.2; exact Below.drewN' (Below.refl _ _) n⟩
  have hl : lim a = 255 / Nat.gcd a 255 := by unfold lim; rw [Nat.gcd_comm]
  have hg0 : 0 < Nat.gcd a 255 := Nat.gcd_pos_of_pos_right _ (by decide)
  have hg1 : Nat.gcd a 255 ≤ 255 := Nat.gcd_le_right _ (by decide)
  rw [hl]
  clear hl
  obtain ⟨gg, hgg⟩ : ∃ gg, Nat.gcd a 255 = gg := ⟨_, rfl⟩
  rw [hgg] at hd hg0 hg1 ⊢
  have hgg' := Lib.hid hgg
  clear hgg
  obtain ⟨V, hV⟩ : ∃ V, w.alloc (.cells #[.int .u8 (code : Nat), .int .i64 n, .int .i64 k, .int .i64 d, .int .i64 r, .int .i64 t, .int .i64 ww] 23) = V := ⟨_, rfl⟩
  have hb : Below w.heap.size w V := by rw [← hV]; exact (Below.refl _ _).alloc (Nat.le_refl _) _
  have hbl : Block V w.heap.size 23 #[.int .u8 (code : Nat), .int .i64 n, .int .i64 k, .int .i64 d, .int .i64 r, .int .i64 t, .int .i64 ww] := by rw [← hV]; exact Block.new w _ _
  have HB := Lib.hid hb
  have X1 := cell_regrown (show V.cell? ⟨w.heap.size, 1, none⟩ = some (.int .i64 n) from hbl.cell 1)
  have X2 := cell_regrown (show V.cell? ⟨w.heap.size, 2, none⟩ = some (.int .i64 k) from hbl.cell 2)
  have X3 := cell_regrown (show V.cell? ⟨w.heap.size, 3, none⟩ = some (.int .i64 d) from hbl.cell 3)
  clear hb hbl
  have w1 : IntKind.i64.wrap (d - k) = d - k := IntWalk.i64_in _ (by omega)
  have w2 : IntKind.i64.wrap (d - k + 1) = (a : Int) := by rw [ha]; exact IntWalk.i64_in _ (by omega)
  have w3 : IntKind.i64.wrap (2 * k) = 2 * k := IntWalk.i64_in _ (by omega)
  have w4 : IntKind.i64.wrap (d - 2 * k) = d - 2 * k := IntWalk.i64_in _ (by omega)
  have w5 : IntKind.i64.wrap (d - 2 * k + 2) = d - 2 * k + 2 := IntWalk.i64_in _ (by omega)
  have w6 : IntKind.i64.wrap (n + (d - 2 * k + 2)) = n + (d - 2 * k + 2) := IntWalk.i64_in _ (by omega)
  have w7 : (255 : Int).tdiv (gg : Int) = ((255 / gg : Nat) : Int) := by
    rw [Int.tdiv_eq_ediv_of_nonneg (by decide)]; rfl
  obtain ⟨q, hq⟩ : ∃ q, 255 / gg = q := ⟨_, rfl⟩
  have hq2 : q ≤ 255 := by rw [← hq]; exact Nat.div_le_self _ _
  rw [hq] at w7 ⊢
  have w8 : IntKind.i64.wrap (q : Int) = (q : Int) := IntWalk.i64_in _ (by omega)
  have hg2 : ((gg : Int) == 0) = false := by simp; omega
  have hg3 : ¬ (gg : Int) = 0 := by omega
  have ha' := Lib.hid ha
  clear ha hq
  go_enter Try.func72, Try.ntmps72
  go_wp2_with fail
  clear hV
  refine wp_region_quiet_below (by kernel_rfl) (by kernel_rfl) ?_
  repeat (go_big_quiet_step (fail))
  refine wpQuiet_nil ?_
  intro _ hw'
  obtain ⟨⟨dq, osq⟩, hw''⟩ := hw'
  subst hw''
  have HQ := Lib.hid (HB.out.trans ((below_regrown V dq osq).mono HB.out.size))
  replace X1 := cell_regrown (X1 dq osq)
  dsimp only
  generalize Sort.grow (redrawn V dq) osq = wq at *
  clear X2 X3
  by_cases hal : (a : Int) ≤ 16
  · have hal' : decide ((a : Int) ≤ 16) = true := decide_eq_true hal
    have HR : Hid (decide ((a : Int) ≤ 16 ∧ n + (d - 2 * k + 2) ≤ (q : Int)) = decide (n + (d - 2 * k + 2) ≤ (q : Int))) := Lib.hid (decide_eq_decide.2 ⟨fun h => h.2, fun h => ⟨hal, h⟩⟩)
    clear hal
    go_wp2_with fail
    refine wp_region_quiet_below (by kernel_rfl) (by kernel_rfl) ?_
    repeat (go_big_quiet_step ((go_at_call 92; (with_reducible exact Calls.regrown_of (hd.out _)))))
    refine wpQuiet_nil ?_
    intro _ hw'
    obtain ⟨⟨dq2, osq2⟩, hw''⟩ := hw'
    subst hw''
    have HQ2 := Lib.hid (HQ.out.trans ((below_regrown wq dq2 osq2).mono HQ.out.size))
    dsimp only
    generalize Sort.grow (redrawn wq dq2) osq2 = wq2 at *
    clear X1
    go_wp2
    go_ret
    exact ⟨by rw [HR.out]; rfl, HQ2.out⟩
  · have hal' : decide ((a : Int) ≤ 16) = false := decide_eq_false hal
    have HR : Hid (decide ((a : Int) ≤ 16 ∧ n + (d - 2 * k + 2) ≤ (q : Int)) = false) := Lib.hid (decide_eq_false fun h => hal h.1)
    clear hal
    go_wp2_with fail
    refine wp_region_quiet_below (by kernel_rfl) (by kernel_rfl) ?_
    repeat (go_big_quiet_step (fail))
    refine wpQuiet_nil ?_
    intro _ hw'
    obtain ⟨⟨dq2, osq2⟩, hw''⟩ := hw'
    subst hw''
    have HQ2 := Lib.hid (HQ.out.trans ((below_regrown wq dq2 osq2).mono HQ.out.size))
    dsimp only
    generalize Sort.grow (redrawn wq dq2) osq2 = wq2 at *
    clear X1
    go_wp2
    go_ret
    exact ⟨by rw [HR.out]; rfl, HQ2.out⟩
end Go.Proofs.Ytikfjbomogekbaa.Cf
