/- Of the program, joined: GfRef, PolyKit, PolyDown, PolyRef, PolyRef2, PolyRef3, GfOps, GfSt, Str, PolySame, PolySpec. -/
import Derived.Test.YtofihklinkpbiaaGreatPl01
import Derived.Test.YtofihklinkpbiaaGreatPl03
import Derived.RangeFuncNested
import Derived.RangeFuncBound
import Derived.Shelf.Abstract
import Derived.Shelf.RegionOpen
import Derived.WalkKit
import Derived.OwnWalkIn
import Derived.TacticsInMore
import Derived.LoopNIn
import Derived.LoopIn
import Derived.Test.YtofihklinkpbiaaGreatPl02
import Derived.Deep.RegionLaw
import Derived.Deep.RegionHeld3
import Derived.BigQuiet
import Derived.Deep.QuietTactic
import Derived.Laws.BytesArg
import Derived.Lib.ConvBytes
namespace Go.Proofs.YtofihklinkpbiaaGreat.GF
open Go.RowKit
theorem rmA_step (a b k : Nat) : rmA a b (k + 1) = if b.testBit k then rmA a b k ^^^ (a <<< k) else rmA a b k := rfl
theorem rmR_step (n j : Nat) : rmR n (j + 1) = if (rmR n j).testBit (14 - j) then rmR n j ^^^ (285 <<< (6 - j)) else rmR n j := rfl
theorem shl_lt {a k : Nat} (ha : a < 512) (hk : k ≤ 8) : a <<< k < 131072 := by
 rw [Nat.shiftLeft_eq]
 have : 2 ^ k ≤ 2 ^ 8 := Nat.pow_le_pow_right (by decide) hk
 exact Nat.lt_of_le_of_lt (Nat.mul_le_mul_left a this) (by omega)
theorem shl_int (a k : Nat) : ((a <<< k : Nat) : Int) = (a : Int) * 2 ^ k := by rw [Nat.shiftLeft_eq]; simp
theorem shl_in {a k : Nat} (ha : a < 512) (hk : k ≤ 8) : IntKind.i64.wrap ((a : Int) * 2 ^ k) = (a : Int) * 2 ^ k := by
 have h := shl_lt ha hk
 rw [← shl_int]
 generalize a <<< k = y at h
 exact IntWalk.i64_in _ (by omega)
set_option maxRecDepth 100000 in
set_option maxHeartbeats 1600000 in
theorem refMul_calls (a b : Nat) (ha : a < 256) (hb : b < 256) (w : World) :
  Calls Tryz.prog 129 #[.int .u8 a, .int .u8 b] w fun e w' => e = .returned (.int .u8 (gm a b : Nat)) ∧ w' = w := by
 go_enter Tryz.func129, Tryz.ntmps129
 go_wp2
 go_loop [5, 6] (fun n i => ∃ k : Nat, k ≤ 8 ∧ i = .int .i64 k ∧ n = .int .i64 (rmA a b k : Nat)) (fun _ i => 8 - (intOf i).toNat)
 case atStart => exact ⟨0, by omega, rfl, rfl⟩
 case round =>
  obtain ⟨k, hk, rfl, rfl⟩ := hrel
  have hr := rmA_lt16 ha b k hk
  by_cases hlt : k < 8
  ·have HB := bit_u8 b k hb
   have hs := shl_lt (a := a) (k := k) (by omega) hk
   have HX := Lib.hid (i64_xor (rmA a b k) (a <<< k) (by omega) (by omega))
   have hsw := shl_in (a := a) (k := k) (by omega) hk
   have HS := Lib.hid (rmA_step a b k)
   by_cases hbit : b.testBit k = true
   ·rw [hbit] at HB
    go_wp2
    go_round
    case rel => exact ⟨k + 1, by omega, by go_num, by rw [HS.out, hbit, if_pos rfl, ← HX.out, shl_int]⟩
    case measure => simp [intOf]; omega
   ·have hb2 : b.testBit k = false := by simpa using hbit
    rw [hb2] at HB
    go_wp2
    go_round
    case rel => exact ⟨k + 1, by omega, by go_num, by rw [HS.out, hb2]; rfl⟩
    case measure => simp [intOf]; omega
  ·obtain rfl : k = 8 := by omega
   have hx : rmA a b 8 < 65536 := hr
   have HF : Hid (rmR (rmA a b 8) 7 % 256 = gm a b) := Lib.hid (rm_eq ha hb)
   clear hr hlt hk
   obtain ⟨x, hxx⟩ : ∃ x : Nat, rmA a b 8 = x := ⟨_, rfl⟩
   rw [hxx] at hx HF
   simp only [Int.cast_ofNat_Int, hxx]
   clear hxx
   go_wp2
   go_loop [5, 7] (fun n i => ∃ m : Nat, 7 ≤ m ∧ m ≤ 14 ∧ i = .int .i64 m ∧ n = .int .i64 (rmR x (14 - m) : Nat)) (fun _ i => (intOf i).toNat)
   case atStart => exact ⟨14, by omega, by omega, rfl, rfl⟩
   case round =>
    obtain ⟨m, hm7, hm14, rfl, rfl⟩ := hrel
    have hr := rmR_lt hx (14 - m)
    by_cases hge : 8 ≤ m
    ·obtain ⟨d, hd⟩ : ∃ d : Nat, (m : Int) - 8 = (d : Int) := ⟨m - 8, by omega⟩
     have hdm : d = m - 8 := by omega
     have HB := bit_i64 (rmR x (14 - m)) m (by omega)
     have hs := shl_lt (a := 285) (k := d) (by omega) (by omega)
     have HX := Lib.hid (i64_xor (rmR x (14 - m)) (285 <<< d) (by omega) (by omega))
     have hsw : IntKind.i64.wrap ((285 : Int) * 2 ^ d) = (285 : Int) * 2 ^ d := shl_in (a := 285) (k := d) (by omega) (by omega)
     have HS : Hid (rmR x (14 - (m - 1)) = if (rmR x (14 - m)).testBit m then rmR x (14 - m) ^^^ (285 <<< d) else rmR x (14 - m)) := by
      have := rmR_step x (14 - m)
      rw [show 14 - (14 - m) = m by omega, show 6 - (14 - m) = d by omega, show 14 - m + 1 = 14 - (m - 1) by omega] at this
      exact Lib.hid this
     clear hdm
     by_cases hbit : (rmR x (14 - m)).testBit m = true
     ·rw [hbit] at HB
      go_wp2
      go_round
      case rel => exact ⟨m - 1, by omega, by omega, val_int (by omega), by rw [HS.out, hbit, if_pos rfl, ← HX.out, shl_int]; rfl⟩
      case measure => simp [intOf]; omega
     ·have hb2 : (rmR x (14 - m)).testBit m = false := by simpa using hbit
      rw [hb2] at HB
      go_wp2
      go_round
      case rel => exact ⟨m - 1, by omega, by omega, val_int (by omega), by rw [HS.out, hb2]; rfl⟩
      case measure => simp [intOf]; omega
    ·obtain rfl : m = 7 := by omega
     go_wp2
     go_ret
     exact ⟨ret_int (by rw [← HF.out]; simp), rfl⟩
set_option maxRecDepth 100000 in
set_option maxHeartbeats 1600000 in
theorem refPow_calls (a : Nat) (ha : a < 256) (n : Int) (hl : -9223372036854775808 ≤ n) (hh : n < 9223372036854775808) (w : World) :
  Calls Tryz.prog 167 #[.int .u8 a, .int .i64 n] w fun e w' => e = .returned (.int .u8 (gpow a n : Nat)) ∧ w = w' := by
 by_cases n0 : n = 0
 ·subst n0
  rw [show gpow a 0 = 1 from rfl]
  go_enter Tryz.func167, Tryz.ntmps167
  go_wp2
  go_ret
  exact ⟨rfl, rfl⟩
 have h0 : (n == 0) = false := by simp; omega
 by_cases a0 : a = 0
 ·subst a0
  rw [show gpow 0 n = 0 by unfold gpow; rw [if_neg n0]; rfl]
  go_enter Tryz.func167, Tryz.ntmps167
  go_wp2
  go_ret
  exact ⟨rfl, rfl⟩
 have h1 : ((a : Int) == 0) = false := by simp; omega
 have ht := tmod255 n
 have hm : IntKind.i64.wrap (n.tmod 255) = n.tmod 255 := IntWalk.i64_in _ (by omega)
 have HG := Lib.hid (rpow_eq ha a0 n)
 obtain ⟨c, hcn⟩ : ∃ c : Nat, c = (n % 255).toNat := ⟨_, rfl⟩
 rw [← hcn] at HG
 have hc255 : c < 255 := by omega
 obtain ⟨m, hmm⟩ : ∃ m : Int, n.tmod 255 = m := ⟨_, rfl⟩
 rw [hmm] at hm ht
 by_cases hneg : m < 0
 ·have hm2 : m + 255 = (c : Int) := by omega
  clear hcn ht
  go_enter Tryz.func167, Tryz.ntmps167
  go_wp2
  go_loop [6, 7] (fun x i => ∃ k : Nat, k ≤ c ∧ i = .int .i64 k ∧ x = .int .u8 (rpow a k : Nat)) (fun _ i => c - (intOf i).toNat)
  case atStart => exact ⟨0, by omega, rfl, rfl⟩
  case round =>
   obtain ⟨k, hk, rfl, rfl⟩ := hrel
   have hc : ∀ w, Calls Tryz.prog 129 #[.int .u8 (rpow a k : Nat), .int .u8 a] w fun e w' => e = .returned (.int .u8 (rpow a (k + 1) : Nat)) ∧ w' = w := refMul_calls (rpow a k) a (rpow_lt a k) ha
   by_cases hlt : k < c
   ·go_wp2_with (go_at_call 129; refine (hc _).mono ?_; rintro e w' ⟨rfl, rfl⟩)
    go_round
    case rel => exact ⟨k + 1, by omega, by go_num, rfl⟩
    case measure => simp [intOf]; omega
   ·obtain rfl : k = c := by omega
    go_wp2
    go_ret
    exact ⟨ret_nat HG.out, rfl⟩
 ·obtain rfl : m = (c : Int) := by omega
  clear hcn ht
  go_enter Tryz.func167, Tryz.ntmps167
  go_wp2
  go_loop [6, 7] (fun x i => ∃ k : Nat, k ≤ c ∧ i = .int .i64 k ∧ x = .int .u8 (rpow a k : Nat)) (fun _ i => c - (intOf i).toNat)
  case atStart => exact ⟨0, by omega, rfl, rfl⟩
  case round =>
   obtain ⟨k, hk, rfl, rfl⟩ := hrel
   have hc : ∀ w, Calls Tryz.prog 129 #[.int .u8 (rpow a k : Nat), .int .u8 a] w fun e w' => e = .returned (.int .u8 (rpow a (k + 1) : Nat)) ∧ w' = w := refMul_calls (rpow a k) a (rpow_lt a k) ha
   by_cases hlt : k < c
   ·go_wp2_with (go_at_call 129; refine (hc _).mono ?_; rintro e w' ⟨rfl, rfl⟩)
    go_round
    case rel => exact ⟨k + 1, by omega, by go_num, rfl⟩
    case measure => simp [intOf]; omega
   ·obtain rfl : k = c := by omega
    go_wp2
    go_ret
    exact ⟨ret_nat HG.out, rfl⟩
end Go.Proofs.YtofihklinkpbiaaGreat.GF

namespace Go.Proofs.YtofihklinkpbiaaGreat.Poly
open Go.RowKit F8
theorem info_u8 : (Tryz.prog.info? 5).map (fun i => (i.zero, i.size, i.bytes)) = some (some (.int .u8 0), 1, 1) := by kernel_rfl
theorem bvs_length (p : List F8) : (bv (bs p)).length = p.length := by rw [bv_length, bs_length]
def Res (w w' : World) (e : Ending) (p : List F8) : Prop :=
 ∃ A c, e = .returned (.slice A p.length c) ∧ p.length ≤ c ∧ Own w' w.heap.size 5 (.slice A p.length c) (bv (bs p)) ∧ Below w.heap.size w w'
theorem Own.shape {w : World} {B : Nat} {e : TypeId} {v : Value} {p : List F8} (h : Own w B e v (bv (bs p))) : ∃ A c, v = .slice A p.length c ∧ p.length ≤ c := by
 have hl := bvs_length p
 rcases h.2 with ⟨rfl, hn⟩ | ⟨g, cap, cur, rfl, _, _, h3, _⟩
 ·exact ⟨none, 0, by rw [← hl, hn], by omega⟩
 ·exact ⟨some ⟨g, 0, none⟩, cap, by rw [hl], by omega⟩
theorem Own.bytes {w : World} {B : Nat} {e : TypeId} {A : Option Addr} {n c : Nat} {p : List F8} (h : Own w B e (.slice A n c) (bv (bs p))) : Bytes w A (bs p) := by
 obtain ⟨A', c', e1, hc⟩ := Own.shape h
 injection e1 with e2 e3 e4
 subst e2 e3 e4
 unfold Own at h
 rw [bvs_length] at h
 exact ⟨Row.of_own h, bs_lt p⟩
theorem Res.mk {w w' : World} {v : Value} {p : List F8} (h : Own w' w.heap.size 5 v (bv (bs p))) (hb : Below w.heap.size w w') : Res w w' (.returned v) p := by
 obtain ⟨A, c, rfl, hc⟩ := Own.shape h
 exact ⟨A, c, rfl, hc, h, hb⟩
theorem cellF {w : World} {A : Option Addr} {p : List F8} (h : Bytes w A (bs p)) (k : Nat) (hk : k < p.length) : ∃ b off, A = some ⟨b, off, none⟩ ∧ w.cell? ⟨b, off + k, none⟩ = some (.int .u8 ((coef p k).n : Int)) := by
 obtain ⟨b, off, h1, h2, _⟩ := h.at_ (k := k) (by rw [bs_length]; exact hk)
 refine ⟨b, off, h1, ?_⟩
 rw [h2, coef_of_lt hk]
 simp [bs]
theorem where_ {w : World} {A : Option Addr} {p : List F8} (h : Bytes w A (bs p)) (h0 : 0 < p.length) : ∃ b off, A = some ⟨b, off, none⟩ := by
 obtain ⟨b, off, h1, _⟩ := cellF h 0 h0; exact ⟨b, off, h1⟩
theorem cellAt {w : World} {b off : Nat} {p : List F8} (h : Bytes w (some ⟨b, off, none⟩) (bs p)) (k : Nat) (hk : k < p.length) : w.cell? ⟨b, off + k, none⟩ = some (.int .u8 ((coef p k).n : Int)) := by
 obtain ⟨b', off', h1, h2⟩ := cellF h k hk
 simp only [Option.some.injEq, Addr.mk.injEq] at h1
 obtain ⟨rfl, rfl, _⟩ := h1
 exact h2
theorem bytes_take {w : World} {A : Option Addr} {p : List F8} (h : Bytes w A (bs p)) (n : Nat) : Bytes w A (bs (p.take n)) := by
 refine ⟨fun k u hu => h.row k u ?_, bs_lt _⟩
 simp only [bv, bs, List.map_take, List.getElem?_take] at hu ⊢
 split at hu
 ·exact hu
 ·cases hu
theorem bytes_drop {w : World} {b off : Nat} {p : List F8} (h : Bytes w (some ⟨b, off, none⟩) (bs p)) (n : Nat) : Bytes w (some ⟨b, off + n, none⟩) (bs (p.drop n)) := by
 refine ⟨fun k u hu => ?_, bs_lt _⟩
 simp only [bv, bs, List.map_drop, List.getElem?_drop] at hu
 obtain ⟨b', off', e, hc⟩ := h.row (n + k) u hu
 simp only [Option.some.injEq, Addr.mk.injEq] at e
 obtain ⟨rfl, rfl, _⟩ := e
 exact ⟨_, _, rfl, by rw [← hc, Nat.add_assoc]⟩
theorem n_beq (a b : F8) : (((a.n : Int) == (b.n : Int)) = true) ↔ a = b := by
 rw [← F8.n_inj, beq_iff_eq]; omega
theorem n_beq_false {a b : F8} (h : a ≠ b) : ((a.n : Int) == (b.n : Int)) = false := by
 rw [Bool.eq_false_iff]; exact fun e => h ((n_beq a b).1 e)
theorem n_beq0 {a : F8} (h : a ≠ 0) : ((a.n : Int) == 0) = false := n_beq_false h
theorem f8_bounds (a : F8) : (0 : Int) ≤ a.n ∧ (a.n : Int) < 256 := by have := a.h; omega
theorem addr_add (b off k : Nat) : (⟨b, off, none⟩ : Addr).add k = ⟨b, off + k, none⟩ := by unfold Addr.add; split <;> simp_all
theorem slice_to {w : World} {A : Option Addr} {p : List F8} (h : Bytes w A (bs p)) (c n : Nat) (hn : n ≤ p.length) (hc : p.length ≤ c) :
  ∃ A2, (∀ w, (Instr.slice 22 (.slice A p.length c) none (some (.int .i64 (n : Int))) none).run Tryz.prog w = .ok (.slice A2 n c) w) ∧ Bytes w A2 (bs (p.take n)) ∧ ∀ a, A2 = some a → ∃ a0, A = some a0 ∧ a0.block = a.block := by
 refine ⟨if c = 0 then A else A.map (·.add (0 * 1)), fun w => ?_, ?_, ?_⟩
 ·obtain ⟨i, hi, _, hi2, _⟩ := info_parts info_u8
  simp [Instr.slice, Instr.sliceBounds, Instr.sliceBound, run_underlying Tryz.underlying22, asIntOf, sizeOf, typeInfo, Sem.run_bind, hi]
  intro h; omega
 ·by_cases hl : p = []
  ·subst hl; simp only [List.take_nil]; exact Bytes.nil _ _
  ·have h0 : 0 < p.length := List.length_pos_iff.2 hl
   obtain ⟨b, off, rfl⟩ := where_ h h0
   rw [if_neg (by omega)]
   simp only [Option.map_some, Nat.zero_mul, addr_add, Nat.add_zero]
   exact bytes_take h n
 ·intro a ha
  split at ha
  ·exact ⟨a, ha, rfl⟩
  ·obtain ⟨a0, e, rfl⟩ := Option.map_eq_some_iff.1 ha
   exact ⟨a0, e, by unfold Addr.add; split <;> rfl⟩
theorem slice_from {w : World} {A : Option Addr} {p : List F8} (h : Bytes w A (bs p)) (c n : Nat) (hn : n ≤ p.length) (hc : p.length ≤ c) :
  ∃ A2, (∀ w, (Instr.slice 22 (.slice A p.length c) (some (.int .i64 (n : Int))) none none).run Tryz.prog w = .ok (.slice A2 (p.length - n) (c - n)) w) ∧ Bytes w A2 (bs (p.drop n)) ∧ ∀ a, A2 = some a → ∃ a0, A = some a0 ∧ a0.block = a.block := by
 refine ⟨if c = n then A else A.map (·.add (n * 1)), fun w => ?_, ?_, ?_⟩
 ·obtain ⟨i, hi, _, hi2, _⟩ := info_parts info_u8
  simp [Instr.slice, Instr.sliceBounds, Instr.sliceBound, run_underlying Tryz.underlying22, asIntOf, sizeOf, typeInfo, Sem.run_bind, hi, hi2]
  intro h; omega
 ·by_cases hl : p.drop n = []
  ·rw [hl]; exact Bytes.nil _ _
  ·have h0 : 0 < p.length := by rcases p with _ | ⟨x, p⟩; simp at hl; simp
   obtain ⟨b, off, rfl⟩ := where_ h h0
   have : c ≠ n := by rintro rfl; exact hl (List.drop_eq_nil_of_le hc)
   rw [if_neg this]
   simp only [Option.map_some, Nat.mul_one, addr_add]
   exact bytes_drop h n
 ·intro a ha
  split at ha
  ·exact ⟨a, ha, rfl⟩
  ·obtain ⟨a0, e, rfl⟩ := Option.map_eq_some_iff.1 ha
   exact ⟨a0, e, by unfold Addr.add; split <;> rfl⟩
theorem made_bytes (n : Nat) : (madeCells (Value.int .u8 0).cells (n * 1)).toList = bv (bs (List.replicate n 0)) := by
 apply List.ext_getElem
 ·simp [madeCells, bv, bs]
 ·intro i h1 h2
  simp [madeCells, bv, bs, Value.cells, Nat.mod_one]; rfl
theorem make_run (w : World) (n : Nat) (hn : n ≤ 1000000000) :
  ∃ w', (Instr.makeSlice 22 (.int .i64 (n : Int)) (.int .i64 (n : Int))).run Tryz.prog w = .ok (.slice (some ⟨w.heap.size, 0, none⟩) n n) w' ∧ Own w' w.heap.size 5 (.slice (some ⟨w.heap.size, 0, none⟩) n n) (bv (bs (List.replicate n 0))) ∧ Below w.heap.size w w' := by
 obtain ⟨i0, hi, hi1, hi2, hi3⟩ := info_parts info_u8
 obtain ⟨w1, hmk, ho, hg⟩ := run_make_full (P := Tryz.prog) w w.heap.size 22 5 i0 _ 1 Tryz.underlying22 hi hi1 hi2 .i64 .i64 n (by rw [hi3]; omega) (by simp only [maxLen]; omega) (Nat.le_refl _)
 rw [made_bytes] at ho
 refine ⟨w1, hmk, ?_, (Below.refl w.heap.size w).grown hg (Nat.le_refl _) (fun _ h => by cases h)⟩
 unfold Own; rw [bvs_length, List.length_replicate]; exact ho
theorem step_app {P : Program} (w : World) {ops : Array Oper} {o : Oper} {a : Act} {K : Act → World → Prop} {Q : Exit → Act → World → Prop} {E : Prop} (hgd : o.guard = none) (s x : Operand) (t : TypeId)
  (ho : o.op = .call { callee := .builtin .append, args := #[s, x], argTypes := #[t, t] })
  (B : Nat) (e : TypeId) (z : Value) (bytes : Nat) (ht : P.underlying t = some (.slice e)) (hinfo : (P.info? e).map (fun i => (i.zero, i.size, i.bytes)) = some (some z, 1, bytes)) (hz : z.cells.size = 1) (hb : 0 < bytes)
  (v : Value) (xs : List Value) (hs : a.eval s = v) (hown : Own w B e v xs) (A : Option Addr) (m c : Nat) (ys : List Value) (hx : a.eval x = .slice A m c) (hm : ys.length = m) (hr : Row w A ys) (h1 : ∀ u ∈ ys, u.oneCell' = true)
  (hlen : (xs.length + m) * bytes ≤ 140737488355328) (hB : B ≤ w.heap.size)
  (h : ∀ v' w', Own w' B e v' (xs ++ ys) → w.grownBy w' v.ownBlock → (v'.ownBlock = v.ownBlock ∨ v'.ownBlock = some w.heap.size) → K (a.put o.dst v') w') :
  if Region.wanted o (yielded ops a.tmps) = true then Oper.wp P o a w K Q else E := by
 have hw : Region.wanted o (yielded ops a.tmps) = true := by simp [Region.wanted, hgd]
 rw [if_pos hw]
 exact wp_app w s x t ho B e z bytes ht hinfo hz hb v xs hs hown A m c ys hx hm hr h1 hlen hB h
end Go.Proofs.YtofihklinkpbiaaGreat.Poly

namespace Go.Proofs.YtofihklinkpbiaaGreat.Poly
open Go.RowKit Go.Shelf F8
attribute [local go_sem] Oper.semAt_some
def DownPost (B : Nat) (I : List F8 → World → Prop) (Ix : Code → World → Prop) (W : World) : Exit → Act → World → Prop
 | .normal, _, W' => KeepsFrom B W W' ∧ ∃ p, I p W'
 | .ret, _, W' => KeepsFrom B W W' ∧ Ix .ret W'
 | .exit id, _, W' => KeepsFrom B W W' ∧ Ix (.exit id) W'
 | _, _, _ => False
set_option maxRecDepth 100000 in
set_option maxHeartbeats 2000000 in
theorem down1_in (n : Nat) (hn : 1 ≤ n) (l Bn m c : Nat) (A : Option Addr) (hm : m ≤ 1000000) (J : Nat → List F8 → World → Prop) (Jx : World → Prop)
  (hJ : ∀ k p W, J k p W → p.length = m ∧ Bytes W A (bs p) ∧ W.cell? ⟨Bn, 0, none⟩ = some (.slice A m c))
  (hY : ∀ k p W, k < m → J (k + 1) p W → YieldAt Fence.wide (n - 1) Tryz.prog l #[.int .i64 k, .int .u8 (coef p k).n] W fun e W' =>
   (e = .returned (.bool true) ∧ ∃ p', J k p' W') ∨ (e = .returned (.bool false) ∧ Jx W'))
  (W : World) (p : List F8) (h0 : J m p W) :
  CallsIn Fence.wide n Tryz.prog 154 #[.func (.yield l) #[] #[], .pointer (some ⟨Bn, 0, none⟩)] W fun e W' => (∃ v, e = .returned v) ∧ ((∃ p', J 0 p' W') ∨ Jx W') := by
 refine callsIn_of_wp Tryz.func154 rfl trivial ?_ rfl
 simp only [Tryz.ntmps154, List.size_toArray, List.length_cons, List.length_nil, Nat.reduceAdd, Nat.reduceSub, Array.replicate_succ, Array.replicate_zero, List.push_toArray, List.append_toArray, List.nil_append, List.cons_append]
 have hb0 := (hJ _ _ _ h0).2.2
 gi_wp2
 gi_loopw [3] (fun i wr => ∃ (k : Nat) (p : List F8), k ≤ m ∧ i = .int .i64 ((k : Int) - 1) ∧ J k p wr) (fun i _ => (intOf i + 1).toNat)
 case atStart => exact ⟨m, p, Nat.le_refl _, rfl, h0⟩
 case round =>
  obtain ⟨k, q, hk, rfl, hj⟩ := hrel
  obtain ⟨hl, hB, hbx⟩ := hJ _ _ _ hj
  rcases Nat.eq_zero_or_pos k with rfl | hpos
  ·gi_wp2
   go_end0
   exact ⟨⟨_, rfl⟩, .inl ⟨q, hj⟩⟩
  ·obtain ⟨j, rfl⟩ : ∃ j, k = j + 1 := ⟨k - 1, by omega⟩
   obtain ⟨b, off, rfl, hc⟩ := cellF hB j (by omega)
   obtain ⟨fn, tmps, assign, body, hy, hR⟩ := hY j q wr (by omega) hj
   have e1 : (((j + 1 : Nat) : Int) - 1) = (j : Int) := by omega
   rw [e1]
   clear e1
   gi_wp2
   refine hR.mono ?_
   rintro e W3 (⟨rfl, q', hJ3⟩ | ⟨rfl, hJx3⟩)
   ·gi_wp2
    go_roundw
    case rel => exact ⟨j, q', by omega, rfl, hJ3⟩
    case measure => simp [intOf]
   ·gi_wp2
    refine bodyPost_ret (results_none rfl _ _ _) rfl ?_
    exact ⟨⟨_, rfl⟩, .inr hJx3⟩
set_option maxRecDepth 100000 in
set_option maxHeartbeats 2000000 in
theorem wpIn_down {n : Nat} (h1 : 3 ≤ n) {g : Operand} {s1 s2 : Tmp} {assign body : Code} {Q : Exit → Act → World → Prop} {a : Act} {w : World} {Bn m c : Nat} {A : Option Addr} (hm : m ≤ 1000000)
  (hg : a.eval g = .func (.func 154) #[] #[.pointer (some ⟨Bn, 0, none⟩)])
  (I : Nat → List F8 → World → Prop) (Ix : Code → World → Prop)
  (hI : ∀ k p W W', I k p W → Turn w.heap.size W W' → I k p W') (hIx : ∀ c W W', Ix c W → Turn w.heap.size W W' → Ix c W')
  (hrd : ∀ k p W, I k p W → p.length = m ∧ Bytes W A (bs p) ∧ W.cell? ⟨Bn, 0, none⟩ = some (.slice A m c))
  (p0 : List F8) (h0 : I m p0 w) (a₁ : Nat → F8 → Act)
  (hassign : ∀ (l k : Nat) (x : F8) (W : World) (K : Act → World → Prop), K (a₁ k x) W →
   assign.wpIn (Fence.wide.inRound l) (n - 1 - 1) Tryz.prog (Exit.then K (fun _ _ _ => False)) { tmps := (a.tmps.setIfInBounds s1 (.int .i64 k)).setIfInBounds s2 (.int .u8 x.n), defers := [] } W)
  (hbody : ∀ (l k : Nat) (p : List F8) (W : World), k < m → I (k + 1) p W → w.heap.size ≤ W.heap.size → body.wpIn (Fence.wide.inRound l) (n - 1 - 1) Tryz.prog (DownPost w.heap.size (I k) Ix W) (a₁ k (coef p k)) W)
  (hdone : ∀ (p : List F8) (W : World), I 0 p W → W.heap[w.heap.size]? = some (.deferred (some [])) → Q .normal { a with defers := { target := .collected w.heap.size, args := #[] } :: a.defers } W)
  (hstop : ∀ (c : Code) (W : World), Ix c W → W.heap[w.heap.size]? = some (.deferred (some [])) → c.wpIn Fence.wide n Tryz.prog Q { a with defers := { target := .collected w.heap.size, args := #[] } :: a.defers } W) :
  (Code.rangeFunc g #[s1, s2] assign body).wpIn Fence.wide n Tryz.prog Q a w := by
 refine wpIn_rangeFunc fun fn hfn => ?_
 obtain ⟨D, hD⟩ : ∃ D, D = w.heap.size := ⟨_, rfl⟩
 obtain ⟨R, hR⟩ : ∃ R : LoopState → Option Code → Obj, R = fun st j => .loop { state := st, pending := j, fn, tmps := a.tmps, params := #[s1, s2], assign, body, defers := D } := ⟨_, rfl⟩
 have hRc : ∀ st j, (R st j).isCells = false := by intro st j; rw [hR]; rfl
 let Bk : LoopState → Option Code → World → Prop := fun st j W => W.heap[D + 1]? = some (R st j) ∧ W.heap[D]? = some (.deferred (some []))
 have bk_put : ∀ {st j st' j'} {W : World}, Bk st j W → Bk st' j' (W.putObj (D + 1) (R st' j')) := fun {st j st' j' W} h =>
  ⟨World.putObj_heap_same (Array.getElem?_eq_some_iff.1 h.1).1, (World.putObj_heap_other (by omega)).trans h.2⟩
 have tn_put : ∀ {st j st' j'} {W : World}, Bk st j W → Turn D W (W.putObj (D + 1) (R st' j')) := fun {st j st' j' W} h => Turn.put h.1 (hRc _ _) (by omega) _
 have bk_keep : ∀ {st j} {W W' : World}, Bk st j W → KeepsFrom D W W' → Bk st j W' := fun {st j W W'} h k => ⟨k.same _ _ (by omega) h.1 (hRc _ _), k.same _ _ (Nat.le_refl _) h.2 rfl⟩
 have ends : ∀ {W : World} (j : Option Code), Bk .busy none W → (Instr.endRound (D + 1) j).run Tryz.prog W = .ok (.bool j.isNone) (W.putObj (D + 1) (R (if j.isNone then .ready else .done) j)) := by
  intro W j h
  have h2 := h.1
  rw [hR] at h2 ⊢
  exact run_endRound j h2
 have out : ∀ {W : World} {st j}, st ≠ .busy → Bk st j W → (Instr.endLoop (D + 1)).run Tryz.prog W = .ok j (W.putObj (D + 1) (R .exhausted j)) := by
  intro W st j hst h
  have h2 := h.1
  rw [hR] at h2 ⊢
  exact run_endLoop h2 hst
 rw [← hD] at hI hIx hbody hdone hstop
 obtain ⟨W1, hW1⟩ : ∃ W1, (w.alloc (.deferred (some []))).alloc (R .ready none) = W1 := ⟨_, rfl⟩
 have t1 : Turn D w W1 := by
  rw [← hW1]
  exact (Turn.alloc (by omega) _).trans (Turn.alloc (by simp; omega) _)
 have b1 : Bk .ready none W1 := by
  have e1 := World.alloc_heap_new (w.alloc (.deferred (some []))) (R .ready none)
  have e2 := (Below.heap_alloc (w.alloc (.deferred (some []))) (R .ready none) w.heap.size (by simp)).trans (World.alloc_heap_new w _)
  rw [World.size_alloc, hW1, ← hD] at e1
  rw [hW1, ← hD] at e2
  exact ⟨e1, e2⟩
 refine ⟨D + 1, [{ target := .collected D, args := #[] }], W1, { target := .fn (.func 154) #[.pointer (some ⟨Bn, 0, none⟩)], args := #[.func (.yield (D + 1)) #[] #[]] }, W1, 154,
  #[.func (.yield (D + 1)) #[] #[]] ++ #[.pointer (some ⟨Bn, 0, none⟩)], W1, ?_, ?_, fun _ _ => trivial, ?_, (fun h => by cases h), ?_⟩
 ·rw [← hW1, hR, hD]; exact run_enterLoop_outer _ _ _ _ _
 ·simp only [resolve, hg]; simp [go_sem]
 ·simp [invoke, go_sem]
 ·refine (down1_in (n - 1) (by omega) (D + 1) Bn m c A hm (fun k p W => I k p W ∧ Bk .ready none W ∧ D ≤ W.heap.size) (fun W => ∃ j, Ix j W ∧ Bk .done (some j) W ∧ D ≤ W.heap.size)
   (fun k p W h => hrd k p W h.1) ?_ W1 p0 ⟨hI _ _ _ _ h0 t1, b1, by have := t1.size; omega⟩).mono ?_
  ·
   rintro k p W hk ⟨hi, hb, hsz⟩
   have hy := run_yield (P := Tryz.prog) (args := #[.int .i64 k, .int .u8 (coef p k).n]) (l := D + 1) (by have h2 := hb.1; rw [hR] at h2; exact h2) rfl
   have hbr := run_beginRound (P := Tryz.prog) (l := D + 1) (by have h2 := hb.1; rw [hR] at h2; exact h2) rfl
   refine ⟨fn, _, assign, body, hy, roundIn_of_wpIn hfn ?_⟩
   clear hy
   dsimp only
   rw [zip2]
   refine hassign _ k (coef p k) W _ ?_
   refine ⟨_, hbr, ?_⟩
   clear hbr
   have hb2 : Bk .busy none (W.putObj (D + 1) (R .busy none)) := bk_put hb
   have hi2 := hI _ _ _ _ hi (tn_put (st' := .busy) (j' := none) hb)
   have hwp := hbody (D + 1) k p (W.putObj (D + 1) (R .busy none)) hk hi2 (by simp; omega)
   rw [hR] at hwp
   refine wpIn_mono hwp ?_
   rintro e a3 W3 hp
   have fin : ∀ (j : Option Code), KeepsFrom D (W.putObj (D + 1) (R .busy none)) W3 → (Instr.endRound (D + 1) j).run Tryz.prog W3 = .ok (.bool j.isNone) (W3.putObj (D + 1) (R (if j.isNone then .ready else .done) j)) ∧
     Bk (if j.isNone then .ready else .done) j (W3.putObj (D + 1) (R (if j.isNone then .ready else .done) j)) ∧ Turn D W3 (W3.putObj (D + 1) (R (if j.isNone then .ready else .done) j)) ∧ D ≤ (W3.putObj (D + 1) (R (if j.isNone then .ready else .done) j)).heap.size := fun j hkf => by
    have hb3 := bk_keep hb2 hkf
    refine ⟨ends j hb3, bk_put hb3, tn_put hb3, ?_⟩
    have := hkf.size
    simp at this ⊢
    omega
   have key : ∀ {W4 : World}, KeepsFrom D (W.putObj (D + 1) ((fun st j => Obj.loop { state := st, pending := j, fn, tmps := a.tmps, params := #[s1, s2], assign, body, defers := D }) .busy none)) W4 → KeepsFrom D (W.putObj (D + 1) (R .busy none)) W4 := by
    intro W4 h; rw [hR]; exact h
   cases e with
   | normal =>
    obtain ⟨hkf, q, hq⟩ := hp
    obtain ⟨f1, f2, f3, f4⟩ := fin none (key hkf)
    exact ⟨_, _, f1, .inl ⟨rfl, q, hI _ _ _ _ hq f3, f2, f4⟩⟩
   | ret =>
    obtain ⟨hkf, hq⟩ := hp
    obtain ⟨f1, f2, f3, f4⟩ := fin (some .ret) (key hkf)
    exact ⟨_, _, f1, .inr ⟨rfl, .ret, hIx _ _ _ hq f3, f2, f4⟩⟩
   | exit id =>
    obtain ⟨hkf, hq⟩ := hp
    obtain ⟨f1, f2, f3, f4⟩ := fin (some (.exit id)) (key hkf)
    exact ⟨_, _, f1, .inr ⟨rfl, .exit id, hIx _ _ _ hq f3, f2, f4⟩⟩
   | goto t => exact hp.elim
   | panic ch => exact hp.elim
   | outgrown => exact hp.elim
  ·rintro e W2 ⟨⟨v, rfl⟩, ⟨q, hi, hb, _⟩ | ⟨j, hi, hb, _⟩⟩
   ·exact ⟨none, _, out (by simp) hb, hdone q _ (hI _ _ _ _ hi (tn_put hb)) (bk_put (st' := .exhausted) (j' := none) hb).2⟩
   ·exact ⟨some j, _, out (by simp) hb, hstop j _ (hIx _ _ _ hi (tn_put hb)) (bk_put (st' := .exhausted) (j' := some j) hb).2⟩
end Go.Proofs.YtofihklinkpbiaaGreat.Poly

namespace Go.Proofs.YtofihklinkpbiaaGreat.Poly
open Go.RowKit F8
open GF (ret_bool ret_int ret_nat val_int refMul_calls)
theorem xor_u8 (a b : F8) : bits .xor .u8 (a.n : Int) (b.n : Int) = ((a + b).n : Int) := GF.u8_xor' a.n b.n a.h b.h
theorem bvs_snoc (p : List F8) (s : F8) : bv (bs (p ++ [s])) = bv (bs p) ++ bv [s.n] := by rw [bs_append, bv_append]; rfl
theorem refMul_f (a b : F8) (w : World) : Calls Tryz.prog 129 #[.int .u8 a.n, .int .u8 b.n] w fun e w' => e = .returned (.int .u8 (a * b).n) ∧ w' = w := refMul_calls a.n b.n a.h b.h w
end Go.Proofs.YtofihklinkpbiaaGreat.Poly

namespace Go.Proofs.YtofihklinkpbiaaGreat.Poly
open Go.RowKit F8
open GF (ret_bool ret_int ret_nat val_int refMul_calls)
set_option maxRecDepth 100000 in
set_option maxHeartbeats 1600000 in
theorem refAt_calls (A : Option Addr) (p : List F8) (m c : Nat) (x : F8) (w : World) (hm : p.length = m) (hb : Bytes w A (bs p)) (hl : m ≤ 1000000000) :
  Calls Tryz.prog 72 #[.slice A m c, .int .u8 x.n] w fun e w' => e = .returned (.int .u8 (eval p x).n) ∧ w = w' := by
 subst hm
 have HB := Lib.hid hb
 clear hb
 go_enter Tryz.func72, Tryz.ntmps72
 go_wp2
 go_loop [5, 6, 7] (fun y pw i => ∃ k : Nat, k ≤ p.length ∧ i = .int .i64 k ∧ y = .int .u8 (eval (p.take k) x).n ∧ pw = .int .u8 (xpow x k).n) (fun _ _ i => p.length - (intOf i).toNat)
 case atStart => exact ⟨0, by omega, rfl, rfl, rfl⟩
 case round =>
  obtain ⟨k, hk, rfl, rfl, rfl⟩ := hrel
  by_cases hlt : k < p.length
  ·obtain ⟨b, off, rfl⟩ := where_ HB.out (by omega)
   have hc := cellAt HB.out k hlt
   have HX := Lib.hid (xor_u8 (eval (p.take k) x) (coef p k * xpow x k))
   have HE : Hid (eval (p.take k) x + coef p k * xpow x k = eval (p.take (k + 1)) x) := Lib.hid (by
    rw [take_succ' p hlt, ← coef_of_lt hlt, eval_snoc, List.length_take, Nat.min_eq_left hk])
   have HP : Hid (xpow x k * x = xpow x (k + 1)) := Lib.hid (F8.mul_comm _ _)
   have m1 := refMul_f (coef p k) (xpow x k)
   have m2 := refMul_f (xpow x k) x
   go_wp2_with (go_at_call 129; (first | (with_reducible refine (m1 _).mono ?_) | (with_reducible refine (m2 _).mono ?_)); rintro e w' ⟨rfl, rfl⟩)
   go_round
   case rel => exact ⟨k + 1, by omega, by go_num, by rw [HX.out, HE.out], by rw [HP.out]⟩
   case measure => simp [intOf]; omega
  ·obtain rfl : k = p.length := by omega
   go_wp2
   go_ret
   exact ⟨rfl, rfl⟩
end Go.Proofs.YtofihklinkpbiaaGreat.Poly

namespace Go.Proofs.YtofihklinkpbiaaGreat.Poly
open Go.RowKit F8
open GF (ret_bool ret_int ret_nat val_int refMul_calls)
theorem refAt_f (A : Option Addr) (p : List F8) (m c : Nat) (x : F8) (w : World) (hm : p.length = m) (hb : Bytes w A (bs p)) (hl : m ≤ 1000000000) :
  Calls Tryz.prog 72 #[.slice A m c, .int .u8 x.n] w fun e w' => e = .returned (.int .u8 (eval p x).n) ∧ w' = w :=
 (refAt_calls A p m c x w hm hb hl).mono fun _ _ ⟨h1, h2⟩ => ⟨h1, h2.symm⟩
end Go.Proofs.YtofihklinkpbiaaGreat.Poly

namespace Go.Proofs.YtofihklinkpbiaaGreat.GF
open Go.RowKit
theorem add_calls (a b : Nat) (ha : a < 256) (hb : b < 256) (w : World) :
  Calls Tryz.prog 44 #[.int .u8 a, .int .u8 b] w fun e w' => e = .returned (.int .u8 (a ^^^ b : Nat)) ∧ w = w' := by
 have HX := Lib.hid (u8_xor' a b ha hb)
 go_enter Tryz.func44, Tryz.ntmps44
 go_wp2
 go_ret
 exact ⟨ret_int HX.out, rfl⟩
set_option maxHeartbeats 1600000 in
theorem mul_calls (p : Option Addr) (a b : Nat) (ha : a < 256) (hb : b < 256) (w : World) (hp : FldP w p) :
  Calls Tryz.prog 96 #[.pointer p, .int .u8 a, .int .u8 b] w fun e w' => e = .returned (.int .u8 (gm a b : Nat)) ∧ FldP w' p ∧ Past w.heap.size (rb w p) w w' := by
 by_cases a0 : a = 0
 ·subst a0
  rw [zero_gm]
  go_enter Tryz.func96, Tryz.ntmps96
  go_wp2
  go_ret
  exact ⟨rfl, hp, Past.refl _ _ _⟩
 by_cases b0 : b = 0
 ·subst b0
  rw [gm_zero]
  have h1 : ((a : Int) == 0) = false := by simp; omega
  go_enter Tryz.func96, Tryz.ntmps96
  go_wp2
  go_ret
  exact ⟨rfl, hp, Past.refl _ _ _⟩
 have h1 : ((a : Int) == 0) = false := by simp; omega
 have h2 : ((b : Int) == 0) = false := by simp; omega
 have hl1 := gl_lt ha
 have hl2 := gl_lt hb
 have HG : Hid (gm a b = gp ((gl a + gl b) % 255)) := Lib.hid (by unfold gm; rw [if_neg a0, if_neg b0])
 go_enter Tryz.func96, Tryz.ntmps96
 go_wp2_with (go_at_call 114; refine (ready_any p _ hp).mono ?_; rintro e w' ⟨g, rfl, hM, hp', hP, hg⟩)
 have c1 := hM.log a ha
 have c2 := hM.log b hb
 have c3 := hM.pow ((gl a + gl b) % 255) (by omega)
 go_region
 all_goals
  go_wp2
  go_ret
  exact ⟨ret_nat HG.out.symm, hp'.drewN 1, hP.drew⟩
set_option maxHeartbeats 1600000 in
theorem div_calls (p : Option Addr) (a b : Nat) (ha : a < 256) (hb : b < 256) (b0 : b ≠ 0) (w : World) (hp : FldP w p) :
  Calls Tryz.prog 59 #[.pointer p, .int .u8 a, .int .u8 b] w fun e w' => e = .returned (.tuple #[.int .u8 (gq a b : Nat), .bool true]) ∧ FldP w' p ∧ Past w.heap.size (rb w p) w w' := by
 have h2 : ((b : Int) == 0) = false := by simp; omega
 by_cases a0 : a = 0
 ·subst a0
  rw [show gq 0 b = 0 from rfl]
  go_enter Tryz.func59, Tryz.ntmps59
  go_wp2
  go_ret2
  exact ⟨rfl, hp, Past.refl _ _ _⟩
 have h1 : ((a : Int) == 0) = false := by simp; omega
 have hl1 := gl_lt ha
 have hl2 := gl_lt hb
 have HG : Hid (gq a b = gp ((gl a + (255 - gl b)) % 255)) := Lib.hid (by unfold gq; rw [if_neg a0])
 obtain ⟨k, hk⟩ : ∃ k : Nat, k = (gl a + (255 - gl b)) % 255 := ⟨_, rfl⟩
 have hki : ((gl a : Int) - gl b + 255) % 255 = (k : Int) := by omega
 have hk5 : k < 255 := by omega
 rw [← hk] at HG
 clear hk
 go_enter Tryz.func59, Tryz.ntmps59
 go_wp2_with (go_at_call 114; refine (ready_any p _ hp).mono ?_; rintro e w' ⟨g, rfl, hM, hp', hP, hg⟩)
 have c1 := hM.log a ha
 have c2 := hM.log b hb
 have c3 := hM.pow k hk5
 go_region
 all_goals
  go_wp2
  go_ret2
  exact ⟨ret_pair HG.out.symm, hp'.drewN 1, hP.drew⟩
set_option maxHeartbeats 1600000 in
theorem exp_calls (p : Option Addr) (n : Int) (hl : -9223372036854775808 ≤ n) (hh : n < 9223372036854775808) (w : World) (hp : FldP w p) :
  Calls Tryz.prog 89 #[.pointer p, .int .i64 n] w fun e w' => e = .returned (.int .u8 (ge n : Nat)) ∧ FldP w' p ∧ Past w.heap.size (rb w p) w w' := by
 have ht := tmod255 n
 have hm : IntKind.i64.wrap (n.tmod 255) = n.tmod 255 := IntWalk.i64_in _ (by omega)
 obtain ⟨k, hk⟩ : ∃ k : Nat, k = (n % 255).toNat := ⟨_, rfl⟩
 have hk5 : k < 255 := by omega
 have HG : Hid (ge n = gp k) := Lib.hid (by unfold ge; rw [hk])
 obtain ⟨m, hmm⟩ : ∃ m : Int, n.tmod 255 = m := ⟨_, rfl⟩
 rw [hmm] at hm ht
 by_cases hneg : m < 0
 ·have hm2 : m + 255 = (k : Int) := by omega
  clear hk ht
  go_enter Tryz.func89, Tryz.ntmps89
  go_wp2_with (go_at_call 114; refine (ready_any p _ hp).mono ?_; rintro e w' ⟨g, rfl, hM, hp', hP, hg⟩; have c3 := hM.pow k hk5)
  go_ret
  exact ⟨ret_nat HG.out.symm, hp', hP⟩
 ·obtain rfl : m = (k : Int) := by omega
  clear hk ht
  go_enter Tryz.func89, Tryz.ntmps89
  go_wp2_with (go_at_call 114; refine (ready_any p _ hp).mono ?_; rintro e w' ⟨g, rfl, hM, hp', hP, hg⟩; have c3 := hM.pow k hk5)
  go_ret
  exact ⟨ret_nat HG.out.symm, hp', hP⟩
end Go.Proofs.YtofihklinkpbiaaGreat.GF

namespace Go.Proofs.YtofihklinkpbiaaGreat
open Go.RowKit
def str (l : List Nat) : ByteArray := ⟨(l.map UInt8.ofNat).toArray⟩
theorem str_size (l : List Nat) : (str l).size = l.length := by simp [str, ByteArray.size]
theorem str_data (l : List Nat) : (str l).data.toList = l.map UInt8.ofNat := rfl
theorem str_inj {a b : List Nat} (ha : ∀ c ∈ a, c < 256) (hb : ∀ c ∈ b, c < 256) (h : str a = str b) : a = b := by
 have h1 : a.map UInt8.ofNat = b.map UInt8.ofNat := by rw [← str_data, ← str_data, h]
 have back : ∀ l : List Nat, (∀ c ∈ l, c < 256) → (l.map UInt8.ofNat).map UInt8.toNat = l := by
  intro l hl
  rw [List.map_map]
  conv => rhs; rw [← List.map_id l]
  apply List.map_congr_left
  intro c hc
  have := hl c hc
  simp [Nat.mod_eq_of_lt this]
 rw [← back a ha, ← back b hb, h1]
theorem str_nil : str [] = ByteArray.empty := rfl
section
variable {P : Program}
theorem conv_str {w : World} {A : Option Addr} {l : List Nat} (hb : Bytes w A l) (c : Nat) (src dst e : TypeId) (hs : P.underlying src = some (.slice e)) (he : P.underlying e = some (.int .u8)) (hd : P.underlying dst = some .string) :
  (convert src dst (.slice A l.length c)).run P w = .ok (.string (str l)) w := by
 cases A with
 | none =>
  have hl : l = [] := by
   cases l with
   | nil => rfl
   | cons x l => obtain ⟨b, off, h, _⟩ := hb.row 0 (.int .u8 x) rfl; cases h
  subst hl
  exact run_convert_bytes_nil w src e hs he _ _ dst hd
 | some a =>
  by_cases hl : l = []
  ·subst hl
   rw [run_convert_bytes_string w src dst e (some a) _ c hs he hd]
   have := run_bytesToString (P := P) w a 0 c [] (by simp [loadCells, loadCellsFrom])
   rw [str_nil]
   simpa using this
  ·have h0 : 0 < l.length := by cases l <;> simp_all
   obtain ⟨b, off, h, _⟩ := hb.at_ h0
   obtain rfl : a = ⟨b, off, none⟩ := by injection h
   have h1 := run_convert_bytes_arg (P := P) w src e hs he b off l.length c (l.map fun n : Nat => (n : Int)) (by simp) (fun i hi => by
    obtain ⟨b', off', h', hc, _⟩ := hb.at_ hi
    simp only [Option.some.injEq, Addr.mk.injEq] at h'
    obtain ⟨rfl, rfl, _⟩ := h'
    rw [hc]; simp [List.getD, List.getElem?_eq_getElem hi]) dst hd
   rw [h1]
   have : strOfNums (l.map fun n : Nat => (n : Int)) = str l := by
    unfold strOfNums str; simp
   rw [this]
theorem conv_bytes (w : World) (l : List Nat) (src dst e : TypeId) (hs : P.underlying src = some .string) (hd : P.underlying dst = some (.slice e)) (he : P.underlying e = some (.int .u8)) :
  (convert src dst (.string (str l))).run P w = .ok (.slice (some ⟨w.heap.size, 0, none⟩) l.length (grownCap w l.length 0 e)) (Lib.bytesWorld w e (str l)) := by
 have := Lib.run_convert_string_bytes (P := P) w src dst e (str l) hs hd he
 rw [str_size] at this
 exact this
theorem bytesWorld_bytes (w : World) (e : TypeId) (l : List Nat) (hl : ∀ c ∈ l, c < 256) : Bytes (Lib.bytesWorld w e (str l)) (some ⟨w.heap.size, 0, none⟩) l := by
 refine ⟨fun k u hu => ⟨w.heap.size, 0, rfl, ?_⟩, hl⟩
 have hk : k < l.length := by have := (List.getElem?_eq_some_iff.1 hu).1; rwa [bv_length] at this
 rw [Nat.zero_add, Lib.bytesWorld_cell w e (str l) k (by rw [str_size]; exact hk), str_data]
 simp only [bv, List.getElem?_map, List.getElem?_eq_getElem hk, Option.map_some, Option.some.injEq] at hu
 rw [← hu]
 simp [List.getD, List.getElem?_eq_getElem hk, Nat.mod_eq_of_lt (hl _ (List.getElem_mem hk))]
theorem bytesWorld_below (w : World) (e : TypeId) (s : ByteArray) : Below w.heap.size w (Lib.bytesWorld w e s) :=
 ⟨by simp [Lib.bytesWorld, World.freeze]; rfl, by simp [Lib.bytesWorld, World.freeze], by simp [Lib.bytesWorld, World.freeze]; rfl, by rw [Lib.bytesWorld_size]; omega, fun k hk => Lib.bytesWorld_at_old w e s k hk⟩
end
end Go.Proofs.YtofihklinkpbiaaGreat

namespace Go.Proofs.YtofihklinkpbiaaGreat.Poly
open Go.RowKit F8 GF
theorem conv_f {w : World} {A : Option Addr} {p : List F8} (hb : Bytes w A (bs p)) (m c : Nat) (hm : p.length = m) : (convert 22 9 (.slice A m c)).run Tryz.prog w = .ok (.string (str (bs p))) w := by
 have h := conv_str (P := Tryz.prog) hb c 22 9 5 Tryz.underlying22 Tryz.underlying5 Tryz.underlying9
 rw [bs_length, hm] at h; exact h
set_option maxHeartbeats 1000000 in
theorem same_calls (A B : Option Addr) (p q : List F8) (m n c d : Nat) (w : World) (hm : p.length = m) (hn : q.length = n) (hb : Bytes w A (bs p)) (hb2 : Bytes w B (bs q)) :
  Calls Tryz.prog 21 #[.slice A m c, .slice B n d] w fun e w' => e = .returned (.bool (decide (p = q))) ∧ w = w' := by
 have c1 := conv_f hb m c hm
 have c2 := conv_f hb2 n d hn
 have HE : Hid (((str (bs p)).toList == (str (bs q)).toList) = decide (p = q)) := Lib.hid (by
  rw [Bool.eq_iff_iff, beq_iff_eq, decide_eq_true_iff, ByteArray.toList_eq, ByteArray.toList_eq, str_data, str_data]
  constructor
  ·intro h
   refine bs_inj.1 (str_inj (bs_lt p) (bs_lt q) ?_)
   unfold str; rw [h]
  ·intro h; rw [h])
 clear hb hb2
 go_enter Tryz.func21, Tryz.ntmps21
 go_wp2
 go_ret
 exact ⟨GF.ret_bool HE.out, rfl⟩
end Go.Proofs.YtofihklinkpbiaaGreat.Poly

namespace Go.Proofs.YtofihklinkpbiaaGreat.Poly
open Go.RowKit F8 GF
def PolyRes (pf : Option Addr) (w w' : World) (e : Ending) (r : List F8) : Prop :=
 ∃ A c, e = .returned (.slice A r.length c) ∧ r.length ≤ c ∧ Own w' w.heap.size 5 (.slice A r.length c) (bv (bs r)) ∧ FldP w' pf ∧ Past w.heap.size (rb w pf) w w'
def PolyRes2 (pf : Option Addr) (w w' : World) (e : Ending) (q r : List F8) (n : Int) : Prop :=
 ∃ A c B d, e = .returned (.tuple #[.slice A q.length c, .slice B r.length d, .int .i64 n]) ∧ q.length ≤ c ∧ r.length ≤ d ∧ Own w' w.heap.size 5 (.slice A q.length c) (bv (bs q)) ∧ Own w' w.heap.size 5 (.slice B r.length d) (bv (bs r)) ∧ FldP w' pf ∧ Past w.heap.size (rb w pf) w w'
def PolyResE (pf : Option Addr) (w w' : World) (e : Ending) (r : List F8) (n : Int) : Prop :=
 ∃ A c, e = .returned (.tuple #[.slice A r.length c, .int .i64 n]) ∧ r.length ≤ c ∧ Own w' w.heap.size 5 (.slice A r.length c) (bv (bs r)) ∧ FldP w' pf ∧ Past w.heap.size (rb w pf) w w'
def Far (pf A : Option Addr) (p : List F8) : Prop := p ≠ [] → ∀ a g, A = some a → pf = some g → a.block ≠ g.block
structure Spec : Prop where
 trimP : ∀ (A : Option Addr) (p : List F8) (m c : Nat) (w : World) (_ : p.length = m) (_ : Bytes w A (bs p)) (_ : m ≤ c) (_ : m ≤ 1000),
  Calls Tryz.prog 168 #[.slice A m c] w fun e w' => Res w w' e (trim p)
 degreeP : ∀ (A : Option Addr) (p : List F8) (m c : Nat) (w : World) (_ : p.length = m) (_ : Bytes w A (bs p)) (_ : m ≤ c) (_ : m ≤ 1000),
  Calls Tryz.prog 163 #[.slice A m c] w fun e w' => e = .returned (.int .i64 ((len p : Int) - 1)) ∧ Below w.heap.size w w'
 mulP : ∀ (A B : Option Addr) (p q : List F8) (m n c d : Nat) (w : World) (_ : p.length = m) (_ : q.length = n) (_ : Bytes w A (bs p)) (_ : Bytes w B (bs q)) (_ : m ≤ c) (_ : n ≤ d) (_ : m ≤ 1000) (_ : n ≤ 1000) (pf : Option Addr) (_ : FldP w pf) (_ : Far pf A p) (_ : Far pf B q),
  Calls Tryz.prog 62 #[.pointer pf, .slice A m c, .slice B n d] w fun e w' => PolyRes pf w w' e (trim (pmul p q))
 divP_zero : ∀ (A B : Option Addr) (p q : List F8) (m n c d : Nat) (w : World) (_ : p.length = m) (_ : q.length = n) (_ : Bytes w A (bs p)) (_ : Bytes w B (bs q)) (_ : m ≤ c) (_ : n ≤ d) (_ : m ≤ 1000) (_ : n ≤ 1000) (pf : Option Addr) (_ : FldP w pf) (_ : Far pf A p) (_ : Far pf B q) (_ : trim q = []),
  Calls Tryz.prog 131 #[.pointer pf, .slice A m c, .slice B n d] w fun e w' => PolyRes2 pf w w' e [] [] 30
 divP : ∀ (A B : Option Addr) (p q : List F8) (m n c d : Nat) (w : World) (_ : p.length = m) (_ : q.length = n) (_ : Bytes w A (bs p)) (_ : Bytes w B (bs q)) (_ : m ≤ c) (_ : n ≤ d) (_ : m ≤ 1000) (_ : n ≤ 1000) (pf : Option Addr) (_ : FldP w pf) (_ : Far pf A p) (_ : Far pf B q) (_ : 0 < len q),
  Calls Tryz.prog 131 #[.pointer pf, .slice A m c, .slice B n d] w fun e w' => ∃ u v, DivBy p q u v ∧ PolyRes2 pf w w' e u v 0
 atP : ∀ (A : Option Addr) (p : List F8) (m c : Nat) (w : World) (_ : p.length = m) (_ : Bytes w A (bs p)) (_ : m ≤ c) (_ : m ≤ 1000) (pf : Option Addr) (_ : FldP w pf) (_ : Far pf A p) (x : F8),
  Calls Tryz.prog 58 #[.pointer pf, .slice A m c, .int .u8 x.n] w fun e w' => e = .returned (.int .u8 (eval p x).n) ∧ FldP w' pf ∧ Past w.heap.size (rb w pf) w w'
 rootsP : ∀ (A : Option Addr) (p : List F8) (m c : Nat) (w : World) (_ : p.length = m) (_ : Bytes w A (bs p)) (_ : m ≤ c) (_ : m ≤ 1000) (pf : Option Addr) (_ : FldP w pf) (_ : Far pf A p),
  Calls Tryz.prog 47 #[.pointer pf, .slice A m c] w fun e w' => PolyRes pf w w' e (trim (roots p))
 throughP_bad : ∀ (A B : Option Addr) (p q : List F8) (m n c d : Nat) (w : World) (_ : p.length = m) (_ : q.length = n) (_ : Bytes w A (bs p)) (_ : Bytes w B (bs q)) (_ : m ≤ c) (_ : n ≤ d) (_ : m ≤ 1000) (_ : n ≤ 1000) (pf : Option Addr) (_ : FldP w pf) (_ : Far pf A p) (_ : Far pf B q) (_ : m ≠ n ∨ ¬ p.Nodup),
  Calls Tryz.prog 78 #[.pointer pf, .slice A m c, .slice B n d] w fun e w' => PolyResE pf w w' e [] 2
 throughP : ∀ (A B : Option Addr) (p q : List F8) (m n c d : Nat) (w : World) (_ : p.length = m) (_ : q.length = n) (_ : Bytes w A (bs p)) (_ : Bytes w B (bs q)) (_ : m ≤ c) (_ : n ≤ d) (_ : m ≤ 1000) (_ : n ≤ 1000) (pf : Option Addr) (_ : FldP w pf) (_ : Far pf A p) (_ : Far pf B q) (_ : m = n) (_ : p.Nodup),
  Calls Tryz.prog 78 #[.pointer pf, .slice A m c, .slice B n d] w fun e w' => ∃ r, Thru p q r ∧ PolyResE pf w w' e r 0
end Go.Proofs.YtofihklinkpbiaaGreat.Poly
