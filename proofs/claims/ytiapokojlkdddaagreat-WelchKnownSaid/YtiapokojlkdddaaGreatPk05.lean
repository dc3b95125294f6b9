/- Of the program and its document, joined: GfRef, PolyKit, Turn. -/
import Derived.Test.YtiapokojlkdddaaGreatPk04
import Derived.Test.YtiapokojlkdddaaGreatPk02
import Derived.Test.YtiapokojlkdddaaGreatPk03
import Derived.RangeFuncNested
import Derived.RangeFuncBound
import Derived.Shelf.Abstract
import Derived.Shelf.RegionOpen
import Derived.WalkKit
import Derived.OwnWalkIn
import Derived.TacticsInMore
import Derived.LoopNIn
import Derived.LoopIn
/- What the definition's calls do: the product of polynomials and its rest, and what is made of it. -/
namespace Go.Proofs.YtiapokojlkdddaaGreat.GF
open Go.RowKit

theorem rmA_step (a b k : Nat) : rmA a b (k + 1) = if b.testBit k then rmA a b k ^^^ (a <<< k) else rmA a b k := rfl
theorem rmR_step (n j : Nat) : rmR n (j + 1) = if (rmR n j).testBit (14 - j) then rmR n j ^^^ (285 <<< (6 - j)) else rmR n j := rfl
theorem shl_lt {a k : Nat} (ha : a < 512) (hk : k ≤ 8) : a <<< k < 131072 := by
  rw [Nat.shiftLeft_eq]
  have : 2 ^ k ≤ 2 ^ 8 := Nat.pow_le_pow_right (by decide) hk
  exact Nat.lt_of_le_of_lt (Nat.mul_le_mul_left a this) (by omega)
theorem shl_int (a k : Nat) : ((a <<< k : Nat) : Int) = (a : Int) * 2 ^ k := by rw [Nat.shiftLeft_eq]; simp
theorem shl_in {a k : Nat} (ha : a < 512) (hk : k ≤ 8) : IntKind.i64.wrap ((a : Int) * 2 ^ k) = (a : Int) * 2 ^ k := by
  have h := shl_lt ha hk
  rw [← shl_int]
  generalize a <<< k = y at h
  exact IntWalk.i64_in _ (by omega)

set_option maxRecDepth 100000 in
set_option maxHeartbeats 1600000 in
theorem refMul_calls (a b : Nat) (ha : a < 256) (hb : b < 256) (w : World) :
    Calls Tryz.prog 75 #[.int .u8 a, .int .u8 b] w fun e w' => e = .returned (.int .u8 (gm a b : Nat)) ∧ w' = w := by
  go_enter Tryz.func75, Tryz.ntmps75
  go_wp2
  go_loop [5, 6] (fun n i => ∃ k : Nat, k ≤ 8 ∧ i = .int .i64 k ∧ n = .int .i64 (rmA a b k : Nat)) (fun _ i => 8 - (intOf i).toNat)
  case atStart => exact ⟨0, by omega, rfl, rfl⟩
  case round =>
    obtain ⟨k, hk, rfl, rfl⟩ := hrel
    have hr := rmA_lt16 ha b k hk
    by_cases hlt : k < 8
    · have HB := bit_u8 b k hb
      have hs := shl_lt (a := a) (k := k) (by omega) hk
      have HX := Lib.hid (i64_xor (rmA a b k) (a <<< k) (by omega) (by omega))
      have hsw := shl_in (a := a) (k := k) (by omega) hk
      have HS := Lib.hid (rmA_step a b k)
      by_cases hbit : b.testBit k = true
      · rw [hbit] at HB
        go_wp2
        go_round
        case rel => exact ⟨k + 1, by omega, by go_num, by rw [HS.out, hbit, if_pos rfl, ← HX.out, shl_int]⟩
        case measure => simp [intOf]; omega
      · have hb2 : b.testBit k = false := by simpa using hbit
        rw [hb2] at HB
        go_wp2
        go_round
        case rel => exact ⟨k + 1, by omega, by go_num, by rw [HS.out, hb2]; rfl⟩
        case measure => simp [intOf]; omega
    · obtain rfl : k = 8 := by omega
      have hx : rmA a b 8 < 65536 := hr
      have HF : Hid (rmR (rmA a b 8) 7 % 256 = gm a b) := Lib.hid (rm_eq ha hb)
      clear hr hlt hk
      obtain ⟨x, hxx⟩ : ∃ x : Nat, rmA a b 8 = x := ⟨_, rfl⟩
      rw [hxx] at hx HF
      simp only [Int.cast_ofNat_Int, hxx]
      clear hxx
      go_wp2
      go_loop [5, 7] (fun n i => ∃ m : Nat, 7 ≤ m ∧ m ≤ 14 ∧ i = .int .i64 m ∧ n = .int .i64 (rmR x (14 - m) : Nat)) (fun _ i => (intOf i).toNat)
      case atStart => exact ⟨14, by omega, by omega, rfl, rfl⟩
      case round =>
        obtain ⟨m, hm7, hm14, rfl, rfl⟩ := hrel
        have hr := rmR_lt hx (14 - m)
        by_cases hge : 8 ≤ m
        · obtain ⟨d, hd⟩ : ∃ d : Nat, (m : Int) - 8 = (d : Int) := ⟨m - 8, by omega⟩
          have hdm : d = m - 8 := by omega
          have HB := bit_i64 (rmR x (14 - m)) m (by omega)
          have hs := shl_lt (a := 285) (k := d) (by omega) (by omega)
          have HX := Lib.hid (i64_xor (rmR x (14 - m)) (285 <<< d) (by omega) (by omega))
          have hsw : IntKind.i64.wrap ((285 : Int) * 2 ^ d) = (285 : Int) * 2 ^ d := shl_in (a := 285) (k := d) (by omega) (by omega)
          have HS : Hid (rmR x (14 - (m - 1)) = if (rmR x (14 - m)).testBit m then rmR x (14 - m) ^^^ (285 <<< d) else rmR x (14 - m)) := by
            have := rmR_step x (14 - m)
            rw [show 14 - (14 - m) = m by omega, show 6 - (14 - m) = d by omega, show 14 - m + 1 = 14 - (m - 1) by omega] at this
            exact Lib.hid this
          clear hdm
          by_cases hbit : (rmR x (14 - m)).testBit m = true
          · rw [hbit] at HB
            go_wp2
            go_round
            case rel => exact ⟨m - 1, by omega, by omega, val_int (by omega), by rw [HS.out, hbit, if_pos rfl, ← HX.out, shl_int]; rfl⟩
            case measure => simp [intOf]; omega
          · have hb2 : (rmR x (14 - m)).testBit m = false := by simpa using hbit
            rw [hb2] at HB
            go_wp2
            go_round
            case rel => exact ⟨m - 1, by omega, by omega, val_int (by omega), by rw [HS.out, hb2]; rfl⟩
            case measure => simp [intOf]; omega
        · obtain rfl : m = 7 := by omega
          go_wp2
          go_ret
          exact ⟨ret_int (by rw [← HF.out]; simp), rfl⟩

theorem gq_ne {b : Nat} (hb : b < 256) (h0 : b ≠ 0) : gq 1 b ≠ 0 := fun h => by
  have := gm_gq (a := 1) (by decide) hb h0
  rw [h, zero_gm] at this
  exact absurd this (by decide)
theorem gq_of {a b : Nat} (ha : a < 256) (hb : b < 256) (h : gm a b = 1) : b = gq 1 a := by
  have a0 : a ≠ 0 := fun e => by subst e; rw [zero_gm] at h; cases h
  rw [← h, gm_comm, gq_gm hb ha a0]
theorem gm_gq1 {a b : Nat} (ha : a < 256) (hb : b < 256) (h0 : b ≠ 0) : gm a (gq 1 b) = gq a b := by
  refine gm_cancel (gm_lt _ _) (gq_lt _ _) hb h0 ?_
  rw [gm_gq ha hb h0, gm_assoc ha (gq_lt _ _) hb, gm_gq (by decide) hb h0, gm_one ha]
theorem rpow_zero (n : Nat) (hn : 0 < n) : rpow 0 n = 0 := by
  cases n with
  | zero => omega
  | succ n => exact gm_zero _

set_option maxRecDepth 100000 in
set_option maxHeartbeats 1600000 in
theorem refInv_calls (a : Nat) (ha : a < 256) (a0 : a ≠ 0) (w : World) :
    Calls Tryz.prog 179 #[.int .u8 a] w fun e w' => e = .returned (.tuple #[.int .u8 (gq 1 a : Nat), .bool true]) ∧ w = w' := by
  have hq := gq_lt 1 a
  have hq0 := gq_ne ha a0
  have HQ := Lib.hid (gm_comm _ _ ▸ gm_gq (a := 1) (by decide) ha a0 : gm a (gq 1 a) = 1)
  go_enter Tryz.func179, Tryz.ntmps179
  go_wp2
  go_loop [4] (fun i => ∃ k : Nat, 1 ≤ k ∧ k ≤ gq 1 a ∧ i = .int .i64 k) (fun i => 256 - (intOf i).toNat)
  case atStart => exact ⟨1, by omega, by omega, rfl⟩
  case round =>
    obtain ⟨k, hk1, hkq, rfl⟩ := hrel
    have hk : k < 256 := by omega
    have hg := gm_lt a k
    have hwr : IntKind.u8.wrap (k : Int) = (k : Int) := by rw [IntKind.wrap_u8']; omega
    by_cases h1 : gm a k = 1
    · have H1 := Lib.hid h1
      have hb : (((gm a k : Nat) : Int) == 1) = true := by simp; omega
      clear h1
      go_wp2_with (go_at_call 75; refine (refMul_calls _ _ ha hk _).mono ?_; rintro e w' ⟨rfl, rfl⟩)
      go_ret2
      exact ⟨ret_pair (gq_of ha hk H1.out), rfl⟩
    · have hb : (((gm a k : Nat) : Int) == 1) = false := by simp; omega
      have hne : k ≠ gq 1 a := fun e => h1 (by rw [e]; exact HQ.out)
      clear h1
      go_wp2_with (go_at_call 75; refine (refMul_calls _ _ ha hk _).mono ?_; rintro e w' ⟨rfl, rfl⟩)
      go_round
      case rel => exact ⟨k + 1, by omega, by omega, by go_num⟩
      case measure => simp [intOf]; omega

set_option maxRecDepth 100000 in
set_option maxHeartbeats 1600000 in
theorem refInv_zero (w : World) :
    Calls Tryz.prog 179 #[.int .u8 0] w fun e w' => e = .returned (.tuple #[.int .u8 0, .bool false]) ∧ w = w' := by
  go_enter Tryz.func179, Tryz.ntmps179
  go_wp2
  go_loop [4] (fun i => ∃ k : Nat, 1 ≤ k ∧ k ≤ 256 ∧ i = .int .i64 k) (fun i => 256 - (intOf i).toNat)
  case atStart => exact ⟨1, by omega, by omega, rfl⟩
  case round =>
    obtain ⟨k, hk1, hkq, rfl⟩ := hrel
    by_cases hk : k < 256
    · have hwr : IntKind.u8.wrap (k : Int) = (k : Int) := by rw [IntKind.wrap_u8']; omega
      have hm := refMul_calls 0 k (by decide) hk
      rw [zero_gm] at hm
      go_wp2_with (go_at_call 75; refine (hm _).mono ?_; rintro e w' ⟨rfl, rfl⟩)
      go_round
      case rel => exact ⟨k + 1, by omega, by omega, by go_num⟩
      case measure => simp [intOf]; omega
    · obtain rfl : k = 256 := by omega
      go_wp2
      go_ret2
      exact ⟨rfl, rfl⟩

theorem refDiv_zero (a : Nat) (w : World) :
    Calls Tryz.prog 136 #[.int .u8 a, .int .u8 0] w fun e w' => e = .returned (.tuple #[.int .u8 0, .bool false]) ∧ w = w' := by
  go_enter Tryz.func136, Tryz.ntmps136
  go_wp2_with (go_at_call 179; refine (refInv_zero _).mono ?_; rintro e w' ⟨rfl, rfl⟩)
  go_ret2
  exact ⟨rfl, rfl⟩
theorem refDiv_calls (a b : Nat) (ha : a < 256) (hb : b < 256) (b0 : b ≠ 0) (w : World) :
    Calls Tryz.prog 136 #[.int .u8 a, .int .u8 b] w fun e w' => e = .returned (.tuple #[.int .u8 (gq a b : Nat), .bool true]) ∧ w = w' := by
  have HQ := Lib.hid (gm_gq1 ha hb b0)
  go_enter Tryz.func136, Tryz.ntmps136
  go_wp2_with (first | (go_at_call 179; refine (refInv_calls b hb b0 _).mono ?_; rintro e w' ⟨rfl, rfl⟩) | (go_at_call 75; refine (refMul_calls _ _ ha (gq_lt _ _) _).mono ?_; rintro e w' ⟨rfl, rfl⟩))
  go_ret2
  exact ⟨ret_pair HQ.out, rfl⟩

set_option maxRecDepth 100000 in
set_option maxHeartbeats 1600000 in
theorem refPow_calls (a : Nat) (ha : a < 256) (n : Int) (hl : -9223372036854775808 ≤ n) (hh : n < 9223372036854775808) (w : World) :
    Calls Tryz.prog 86 #[.int .u8 a, .int .i64 n] w fun e w' => e = .returned (.int .u8 (gpow a n : Nat)) ∧ w = w' := by
  by_cases n0 : n = 0
  · subst n0
    rw [show gpow a 0 = 1 from rfl]
    go_enter Tryz.func86, Tryz.ntmps86
    go_wp2
    go_ret
    exact ⟨rfl, rfl⟩
  have h0 : (n == 0) = false := by simp; omega
  by_cases a0 : a = 0
  · subst a0
    rw [show gpow 0 n = 0 by unfold gpow; rw [if_neg n0]; rfl]
    go_enter Tryz.func86, Tryz.ntmps86
    go_wp2
    go_ret
    exact ⟨rfl, rfl⟩
  have h1 : ((a : Int) == 0) = false := by simp; omega
  have ht := tmod255 n
  have hm : IntKind.i64.wrap (n.tmod 255) = n.tmod 255 := IntWalk.i64_in _ (by omega)
  have HG := Lib.hid (rpow_eq ha a0 n)
  obtain ⟨c, hcn⟩ : ∃ c : Nat, c = (n % 255).toNat := ⟨_, rfl⟩
  rw [← hcn] at HG
  have hc255 : c < 255 := by omega
  obtain ⟨m, hmm⟩ : ∃ m : Int, n.tmod 255 = m := ⟨_, rfl⟩
  rw [hmm] at hm ht
  by_cases hneg : m < 0
  · have hm2 : m + 255 = (c : Int) := by omega
    clear hcn ht
    go_enter Tryz.func86, Tryz.ntmps86
    go_wp2
    go_loop [6, 7] (fun x i => ∃ k : Nat, k ≤ c ∧ i = .int .i64 k ∧ x = .int .u8 (rpow a k : Nat)) (fun _ i => c - (intOf i).toNat)
    case atStart => exact ⟨0, by omega, rfl, rfl⟩
    case round =>
      obtain ⟨k, hk, rfl, rfl⟩ := hrel
      have hc : ∀ w, Calls Tryz.prog 75 #[.int .u8 (rpow a k : Nat), .int .u8 a] w fun e w' => e = .returned (.int .u8 (rpow a (k + 1) : Nat)) ∧ w' = w := refMul_calls (rpow a k) a (rpow_lt a k) ha
      by_cases hlt : k < c
      · go_wp2_with (go_at_call 75; refine (hc _).mono ?_; rintro e w' ⟨rfl, rfl⟩)
        go_round
        case rel => exact ⟨k + 1, by omega, by go_num, rfl⟩
        case measure => simp [intOf]; omega
      · obtain rfl : k = c := by omega
        go_wp2
        go_ret
        exact ⟨ret_nat HG.out, rfl⟩
  · obtain rfl : m = (c : Int) := by omega
    clear hcn ht
    go_enter Tryz.func86, Tryz.ntmps86
    go_wp2
    go_loop [6, 7] (fun x i => ∃ k : Nat, k ≤ c ∧ i = .int .i64 k ∧ x = .int .u8 (rpow a k : Nat)) (fun _ i => c - (intOf i).toNat)
    case atStart => exact ⟨0, by omega, rfl, rfl⟩
    case round =>
      obtain ⟨k, hk, rfl, rfl⟩ := hrel
      have hc : ∀ w, Calls Tryz.prog 75 #[.int .u8 (rpow a k : Nat), .int .u8 a] w fun e w' => e = .returned (.int .u8 (rpow a (k + 1) : Nat)) ∧ w' = w := refMul_calls (rpow a k) a (rpow_lt a k) ha
      by_cases hlt : k < c
      · go_wp2_with (go_at_call 75; refine (hc _).mono ?_; rintro e w' ⟨rfl, rfl⟩)
        go_round
        case rel => exact ⟨k + 1, by omega, by go_num, rfl⟩
        case measure => simp [intOf]; omega
      · obtain rfl : k = c := by omega
        go_wp2
        go_ret
        exact ⟨ret_nat HG.out, rfl⟩

end Go.Proofs.YtiapokojlkdddaaGreat.GF

/- Lists of the field's elements in memory. -/
namespace Go.Proofs.YtiapokojlkdddaaGreat.Poly
open Go.RowKit F8

theorem info_u8 : (Tryz.prog.info? 5).map (fun i => (i.zero, i.size, i.bytes)) = some (some (.int .u8 0), 1, 1) := by kernel_rfl
theorem bvs_length (p : List F8) : (bv (bs p)).length = p.length := by rw [bv_length, bs_length]
theorem ofLen {p q : List F8} (h : p = q) : p.length = q.length := by rw [h]
/-- A call has given a list of its own. -/
def Res (w w' : World) (e : Ending) (p : List F8) : Prop :=
  ∃ A c, e = .returned (.slice A p.length c) ∧ p.length ≤ c ∧ Own w' w.heap.size 5 (.slice A p.length c) (bv (bs p)) ∧ Below w.heap.size w w'
theorem Own.shape {w : World} {B : Nat} {e : TypeId} {v : Value} {p : List F8} (h : Own w B e v (bv (bs p))) : ∃ A c, v = .slice A p.length c ∧ p.length ≤ c := by
  have hl := bvs_length p
  rcases h.2 with ⟨rfl, hn⟩ | ⟨g, cap, cur, rfl, _, _, h3, _⟩
  · exact ⟨none, 0, by rw [← hl, hn], by omega⟩
  · exact ⟨some ⟨g, 0, none⟩, cap, by rw [hl], by omega⟩
theorem Own.bytes {w : World} {B : Nat} {e : TypeId} {A : Option Addr} {n c : Nat} {p : List F8} (h : Own w B e (.slice A n c) (bv (bs p))) : Bytes w A (bs p) := by
  obtain ⟨A', c', e1, hc⟩ := Own.shape h
  injection e1 with e2 e3 e4
  subst e2 e3 e4
  unfold Own at h
  rw [bvs_length] at h
  exact ⟨Row.of_own h, bs_lt p⟩
theorem Res.mk {w w' : World} {v : Value} {p : List F8} (h : Own w' w.heap.size 5 v (bv (bs p))) (hb : Below w.heap.size w w') : Res w w' (.returned v) p := by
  obtain ⟨A, c, rfl, hc⟩ := Own.shape h
  exact ⟨A, c, rfl, hc, h, hb⟩
/-- A cell of it. -/
theorem cellF {w : World} {A : Option Addr} {p : List F8} (h : Bytes w A (bs p)) (k : Nat) (hk : k < p.length) : ∃ b off, A = some ⟨b, off, none⟩ ∧ w.cell? ⟨b, off + k, none⟩ = some (.int .u8 ((coef p k).n : Int)) := by
  obtain ⟨b, off, h1, h2, _⟩ := h.at_ (k := k) (by rw [bs_length]; exact hk)
  refine ⟨b, off, h1, ?_⟩
  rw [h2, coef_of_lt hk]
  simp [bs]
theorem where_ {w : World} {A : Option Addr} {p : List F8} (h : Bytes w A (bs p)) (h0 : 0 < p.length) : ∃ b off, A = some ⟨b, off, none⟩ := by
  obtain ⟨b, off, h1, _⟩ := cellF h 0 h0; exact ⟨b, off, h1⟩
theorem cellAt {w : World} {b off : Nat} {p : List F8} (h : Bytes w (some ⟨b, off, none⟩) (bs p)) (k : Nat) (hk : k < p.length) : w.cell? ⟨b, off + k, none⟩ = some (.int .u8 ((coef p k).n : Int)) := by
  obtain ⟨b', off', h1, h2⟩ := cellF h k hk
  simp only [Option.some.injEq, Addr.mk.injEq] at h1
  obtain ⟨rfl, rfl, _⟩ := h1
  exact h2
theorem bytes_take {w : World} {A : Option Addr} {p : List F8} (h : Bytes w A (bs p)) (n : Nat) : Bytes w A (bs (p.take n)) := by
  refine ⟨fun k u hu => h.row k u ?_, bs_lt _⟩
  simp only [bv, bs, List.map_take, List.getElem?_take] at hu ⊢
  split at hu
  · exact hu
  · cases hu
theorem bytes_drop {w : World} {b off : Nat} {p : List F8} (h : Bytes w (some ⟨b, off, none⟩) (bs p)) (n : Nat) : Bytes w (some ⟨b, off + n, none⟩) (bs (p.drop n)) := by
  refine ⟨fun k u hu => ?_, bs_lt _⟩
  simp only [bv, bs, List.map_drop, List.getElem?_drop] at hu
  obtain ⟨b', off', e, hc⟩ := h.row (n + k) u hu
  simp only [Option.some.injEq, Addr.mk.injEq] at e
  obtain ⟨rfl, rfl, _⟩ := e
  exact ⟨_, _, rfl, by rw [← hc, Nat.add_assoc]⟩
theorem n_beq (a b : F8) : (((a.n : Int) == (b.n : Int)) = true) ↔ a = b := by
  rw [← F8.n_inj, beq_iff_eq]; omega
theorem n_beq_false {a b : F8} (h : a ≠ b) : ((a.n : Int) == (b.n : Int)) = false := by
  rw [Bool.eq_false_iff]; exact fun e => h ((n_beq a b).1 e)
theorem n_beq0 {a : F8} (h : a ≠ 0) : ((a.n : Int) == 0) = false := n_beq_false h
theorem f8_bounds (a : F8) : (0 : Int) ≤ a.n ∧ (a.n : Int) < 256 := by have := a.h; omega
theorem addr_add (b off k : Nat) : (⟨b, off, none⟩ : Addr).add k = ⟨b, off + k, none⟩ := by unfold Addr.add; split <;> simp_all
/-- 's[:n]' and 's[n:]'. -/
theorem slice_to {w : World} {A : Option Addr} {p : List F8} (h : Bytes w A (bs p)) (c n : Nat) (hn : n ≤ p.length) (hc : p.length ≤ c) :
    ∃ A2, (∀ w, (Instr.slice 22 (.slice A p.length c) none (some (.int .i64 (n : Int))) none).run Tryz.prog w = .ok (.slice A2 n c) w) ∧ Bytes w A2 (bs (p.take n)) ∧ ∀ a, A2 = some a → ∃ a0, A = some a0 ∧ a0.block = a.block := by
  refine ⟨if c = 0 then A else A.map (·.add (0 * 1)), fun w => ?_, ?_, ?_⟩
  · obtain ⟨i, hi, _, hi2, _⟩ := info_parts info_u8
    simp [Instr.slice, Instr.sliceBounds, Instr.sliceBound, run_underlying Tryz.underlying22, asIntOf, sizeOf, typeInfo, Sem.run_bind, hi]
    intro h; omega
  · by_cases hl : p = []
    · subst hl; simp only [List.take_nil]; exact Bytes.nil _ _
    · have h0 : 0 < p.length := List.length_pos_iff.2 hl
      obtain ⟨b, off, rfl⟩ := where_ h h0
      rw [if_neg (by omega)]
      simp only [Option.map_some, Nat.zero_mul, addr_add, Nat.add_zero]
      exact bytes_take h n
  · intro a ha
    split at ha
    · exact ⟨a, ha, rfl⟩
    · obtain ⟨a0, e, rfl⟩ := Option.map_eq_some_iff.1 ha
      exact ⟨a0, e, by unfold Addr.add; split <;> rfl⟩
theorem slice_from {w : World} {A : Option Addr} {p : List F8} (h : Bytes w A (bs p)) (c n : Nat) (hn : n ≤ p.length) (hc : p.length ≤ c) :
    ∃ A2, (∀ w, (Instr.slice 22 (.slice A p.length c) (some (.int .i64 (n : Int))) none none).run Tryz.prog w = .ok (.slice A2 (p.length - n) (c - n)) w) ∧ Bytes w A2 (bs (p.drop n)) ∧ ∀ a, A2 = some a → ∃ a0, A = some a0 ∧ a0.block = a.block := by
  refine ⟨if c = n then A else A.map (·.add (n * 1)), fun w => ?_, ?_, ?_⟩
  · obtain ⟨i, hi, _, hi2, _⟩ := info_parts info_u8
    simp [Instr.slice, Instr.sliceBounds, Instr.sliceBound, run_underlying Tryz.underlying22, asIntOf, sizeOf, typeInfo, Sem.run_bind, hi, hi2]
    intro h; omega
  · by_cases hl : p.drop n = []
    · rw [hl]; exact Bytes.nil _ _
    · have h0 : 0 < p.length := by rcases p with _ | ⟨x, p⟩; simp at hl; simp
      obtain ⟨b, off, rfl⟩ := where_ h h0
      have : c ≠ n := by rintro rfl; exact hl (List.drop_eq_nil_of_le hc)
      rw [if_neg this]
      simp only [Option.map_some, Nat.mul_one, addr_add]
      exact bytes_drop h n
  · intro a ha
    split at ha
    · exact ⟨a, ha, rfl⟩
    · obtain ⟨a0, e, rfl⟩ := Option.map_eq_some_iff.1 ha
      exact ⟨a0, e, by unfold Addr.add; split <;> rfl⟩
theorem made_bytes (n : Nat) : (madeCells (Value.int .u8 0).cells (n * 1)).toList = bv (bs (List.replicate n 0)) := by
  apply List.ext_getElem
  · simp [madeCells, bv, bs]
  · intro i h1 h2
    simp [madeCells, bv, bs, Value.cells, Nat.mod_one]; rfl
/-- 'make([]byte, n)'. -/
theorem make_run (w : World) (n : Nat) (hn : n ≤ 1000000000) :
    ∃ w', (Instr.makeSlice 22 (.int .i64 (n : Int)) (.int .i64 (n : Int))).run Tryz.prog w = .ok (.slice (some ⟨w.heap.size, 0, none⟩) n n) w' ∧ Own w' w.heap.size 5 (.slice (some ⟨w.heap.size, 0, none⟩) n n) (bv (bs (List.replicate n 0))) ∧ Below w.heap.size w w' := by
  obtain ⟨i0, hi, hi1, hi2, hi3⟩ := info_parts info_u8
  obtain ⟨w1, hmk, ho, hg⟩ := run_make_full (P := Tryz.prog) w w.heap.size 22 5 i0 _ 1 Tryz.underlying22 hi hi1 hi2 .i64 .i64 n (by rw [hi3]; omega) (by simp only [maxLen]; omega) (Nat.le_refl _)
  rw [made_bytes] at ho
  refine ⟨w1, hmk, ?_, (Below.refl w.heap.size w).grown hg (Nat.le_refl _) (fun _ h => by cases h)⟩
  unfold Own; rw [bvs_length, List.length_replicate]; exact ho
/-- 'wp_app' at a step of a region that draws its order. -/
theorem step_app {P : Program} (w : World) {ops : Array Oper} {o : Oper} {a : Act} {K : Act → World → Prop} {Q : Exit → Act → World → Prop} {E : Prop} (hgd : o.guard = none) (s x : Operand) (t : TypeId)
    (ho : o.op = .call { callee := .builtin .append, args := #[s, x], argTypes := #[t, t] })
    (B : Nat) (e : TypeId) (z : Value) (bytes : Nat) (ht : P.underlying t = some (.slice e)) (hinfo : (P.info? e).map (fun i => (i.zero, i.size, i.bytes)) = some (some z, 1, bytes)) (hz : z.cells.size = 1) (hb : 0 < bytes)
    (v : Value) (xs : List Value) (hs : a.eval s = v) (hown : Own w B e v xs) (A : Option Addr) (m c : Nat) (ys : List Value) (hx : a.eval x = .slice A m c) (hm : ys.length = m) (hr : Row w A ys) (h1 : ∀ u ∈ ys, u.oneCell' = true)
    (hlen : (xs.length + m) * bytes ≤ 140737488355328) (hB : B ≤ w.heap.size)
    (h : ∀ v' w', Own w' B e v' (xs ++ ys) → w.grownBy w' v.ownBlock → (v'.ownBlock = v.ownBlock ∨ v'.ownBlock = some w.heap.size) → K (a.put o.dst v') w') :
    if Region.wanted o (yielded ops a.tmps) = true then Oper.wp P o a w K Q else E := by
  have hw : Region.wanted o (yielded ops a.tmps) = true := by simp [Region.wanted, hgd]
  rw [if_pos hw]
  exact wp_app w s x t ho B e z bytes ht hinfo hz hb v xs hs hown A m c ys hx hm hr h1 hlen hB h
end Go.Proofs.YtiapokojlkdddaaGreat.Poly

/- A frame for the book-keeping of a loop over a function: below a bound all is as it was, and so is every block of cells. -/
namespace Go.Proofs.YtiapokojlkdddaaGreat.Poly
open Go.RowKit Go.Shelf
attribute [local go_sem] Oper.semAt_some

/-- Below B all is as it was, and so is every block of cells. -/
structure Turn (B : Nat) (W W' : World) : Prop where
  below : Below B W W'
  cells : ∀ (k : Nat) (cs : Array Value) (t : TypeId) (fr : Nat × Nat), W.heap[k]? = some (Obj.cells cs t fr) → W'.heap[k]? = some (Obj.cells cs t fr)
section
variable {B g : Nat} {W W' W'' : World}
theorem Turn.refl (B : Nat) (W : World) : Turn B W W := ⟨Below.refl _ _, fun _ _ _ _ h => h⟩
theorem Turn.trans (h : Turn B W W') (k : Turn B W' W'') : Turn B W W'' := ⟨h.below.trans k.below, fun i cs t fr hi => k.cells i cs t fr (h.cells i cs t fr hi)⟩
theorem Turn.alloc (hB : B ≤ W.heap.size) (o : Obj) : Turn B W (W.alloc o) :=
  ⟨(Below.refl _ _).alloc hB o, fun k _ _ _ h => (Below.heap_alloc W o k (Array.getElem?_eq_some_iff.1 h).1).trans h⟩
theorem Turn.put {l : Nat} {o : Obj} (h : W.heap[l]? = some o) (ho : o.isCells = false) (hB : B ≤ l) (o' : Obj) : Turn B W (W.putObj l o') := by
  have hl := (Array.getElem?_eq_some_iff.1 h).1
  refine ⟨(Below.refl B W).grown (grownBy_putObj' W l o') (by omega) (fun k e => by cases e; exact hB), fun k cs t fr hk => ?_⟩
  by_cases e : k = l
  · subst e; rw [h] at hk; cases hk; cases ho
  · exact (World.putObj_heap_other e).trans hk
theorem Turn.cell (h : Turn B W W') {p : Addr} {v : Value} (hc : W.cell? p = some v) : W'.cell? p = some v := by
  unfold World.cell? at hc ⊢
  cases ho : W.heap[p.block]? with
  | none => rw [ho] at hc; cases hc
  | some o =>
    rw [ho] at hc
    cases o with
    | cells cs t fr => rw [h.cells _ _ _ _ ho]; exact hc
    | _ => cases hc
theorem Turn.block {t : TypeId} {cs : Array Value} (h : Turn B W W') (hb : Block W g t cs) : Block W' g t cs := h.cells _ _ _ _ hb
theorem Turn.row {A : Option Addr} {xs : List Value} (h : Turn B W W') (hr : Row W A xs) : Row W' A xs := fun k u hu => by
  obtain ⟨b, off, e, hc⟩ := hr k u hu
  exact ⟨b, off, e, h.cell hc⟩
theorem Turn.bytes {A : Option Addr} {l : List Nat} (h : Turn B W W') (hr : Bytes W A l) : Bytes W' A l := ⟨h.row hr.row, hr.lt⟩
theorem Turn.own {B0 : Nat} {e : TypeId} {v : Value} {xs : List Value} (h : Turn B W W') (ho : Own W B0 e v xs) : Own W' B0 e v xs := by
  refine ⟨ho.1, ?_⟩
  rcases ho.2 with hn | ⟨g, cap, cur, h1, h2, h3, h4⟩
  · exact .inl hn
  · exact .inr ⟨g, cap, cur, h1, h2, h.cells _ _ _ _ h3, h4⟩
theorem Turn.fldP {p : Option Addr} (h : Turn B W W') (hp : GF.FldP W p) : GF.FldP W' p := by
  rcases hp with hp | ⟨g, hp, hf⟩
  · exact .inl hp
  · exact .inr ⟨g, hp, hf.imp h.block h.block⟩
theorem Turn.past {B0 g : Nat} {w : World} (h : Turn B W W') (hp : Past B0 g w W) (hB : B0 ≤ B) : Past B0 g w W' := hp.trans ((Past.of_below h.below g).mono hB)
theorem Turn.size (h : Turn B W W') : W.heap.size ≤ W'.heap.size := h.below.size
/-- What changes but one block of cells of those that were there leaves all that is no cells. -/
theorem keeps_past {l : Nat} (h : Past W.heap.size g W W') (hg : W.heap.size ≤ g ∨ ∃ cs t fr, W.heap[g]? = some (.cells cs t fr)) : KeepsFrom l W W' :=
  ⟨h.size, fun k o _ hk ho => by
    have hlt := (Array.getElem?_eq_some_iff.1 hk).1
    refine (h.block k hlt ?_).trans hk
    rintro rfl
    rcases hg with hg | ⟨cs, t, fr, hg⟩
    · omega
    · rw [hg] at hk; cases hk; cases ho⟩
theorem keeps_below {l : Nat} (h : Below W.heap.size W W') : KeepsFrom l W W' := keeps_past (g := W.heap.size) (Past.of_below h _) (.inl (Nat.le_refl _))
end


theorem zip2 (s1 s2 : Tmp) (u v : Value) (t : Array Value) :
    Array.foldl (fun (tmps : Array Value) (x : Tmp × Value) => match x with | (t, a) => tmps.setIfInBounds t a) t ((#[s1, s2] : Array Tmp).zip #[u, v]) = (t.setIfInBounds s1 u).setIfInBounds s2 v := by simp
end Go.Proofs.YtiapokojlkdddaaGreat.Poly
