/- What the writer does: an integer of each size is appended, the byte that counts most ahead. -/
import Derived.Test.YtggonoppdekilaaFldWalks
namespace Go.Proofs.Ytggonoppdekilaa.Fld
open Go.RowKit
set_option linter.unusedVariables false
set_option maxHeartbeats 800000 in
set_option maxRecDepth 100000 in
theorem write1 (w : World) (B g : Nat) (l : List Nat) (n : Int) (hW : Wr w B g l) (h0 : 0 ≤ n) (hn : n < 256) (hlen : l.length + 1 ≤ 140737488355328) :
    Calls Try.prog 39 #[.pointer (some ⟨g, 0, none⟩), .int .u8 n] w fun e w' => e = .returned (.tuple #[]) ∧ Wr w' B g (l ++ be 1 n.toNat) ∧ Past B g w w' := by
  obtain ⟨n, rfl⟩ := Int.eq_ofNat_of_zero_le h0
  rw [Int.toNat_natCast]
  have HW := Lib.hid hW; clear hW
  go_enter Try.func39, Try.ntmps39
  go_wp2_with (go_at_call 47; refine (size1 _ _).mono ?_; rintro e w' ⟨rfl, rfl⟩)
  go_loopw [4] (fun i wr => ∃ k : Nat, k ≤ 1 ∧ i = .int .i64 (0 - k : Int) ∧ Hid (Wr wr B g (l ++ (be 1 n).take k)) ∧ Hid (Past B g w wr)) (fun i _ => (intOf i + 1).toNat)
  case atStart => exact ⟨0, by omega, rfl, by simpa using HW, Past.refl _ _ _⟩
  case round =>
    clear HW
    obtain ⟨k, hk, rfl, HW, HP⟩ := hrel
    by_cases hlt : k < 1
    · obtain ⟨v, hb, ho, hl, hB⟩ := HW.out
      have hc : wr.cell? ⟨g, 0, none⟩ = some v := hb.cell 0
      have hf := hb.frozen 0
      have HO := Lib.hid ho
      have HB := Lib.hid hb
      have HL := Lib.hid hl
      clear ho hb HW hl
      obtain ⟨j, hj⟩ : ∃ j : Nat, j + k = 0 := ⟨0 - k, by omega⟩
      rw [show (0 - (k : Int)) = (j : Int) by omega]
      have hq : (j : Int) ≤ 0 := by omega
      have e1 : IntKind.i64.wrap (8 * (j : Int)) = 8 * (j : Int) := IntWalk.i64_in _ (by omega)
      have e2 : (0 : Int) ≤ 8 * (j : Int) := by omega
      have e3 : (8 * (j : Int)).toNat = 8 * j := by omega
      have e4 : IntKind.u64.wrap (n : Int) = (n : Int) := by rw [IntKind.wrap_u64]; omega
      go_wp2_with fail
      obtain ⟨x, hx, hx2⟩ : ∃ x : Nat, IntKind.u8.wrap ((n : Int) / 2 ^ (8 * j)) = (x : Int) ∧ x = n / 256 ^ j % 256 := ⟨_, by rw [IntKind.wrap_u8', byte_at], rfl⟩
      have hx3 : x < 256 := by rw [hx2]; exact Nat.mod_lt _ (by decide)
      replace hx2 := Lib.hid hx2
      have HN := Lib.hid (Row.new wr #[.int .u8 (x : Int)] 5 (0, 0))
      have hb2 : Below wr.heap.size wr (wr.alloc (.cells #[.int .u8 (x : Int)] 5)).drew := ((Below.refl _ wr).alloc (Nat.le_refl _) _).drew
      have HO2 := Lib.hid (HO.out.below hb2)
      have HB2 := Lib.hid (HB.out.below hb2 HB.out.lt)
      have hs2 : (wr.alloc (.cells #[.int .u8 (x : Int)] 5)).drew.heap.size = wr.heap.size + 1 := by simp
      have hc2 := HB2.out.cell 0
      go_region_law (first
        | (refine step_app _ (by rfl) (.tmp 18) (.tmp 25) _ (by rfl) B 5 _ 1 Try.underlying25 info_u8 rfl (by omega) v (bv (l ++ (be 1 n).take k)) (by rfl) HO2.out (some ⟨wr.heap.size, 0, none⟩) 1 1 _ (by rfl) rfl HN.out.drew (by simp [Value.oneCell']) (by simp [bv_length]; omega) (by omega) ?_
           intro v1 w1 hown1 hgrow hat
           have HW := Lib.hid (Wr.app HB.out HO.out HL.out hB hx3 hb2 hown1 hgrow)
           have hc1 : w1.cell? ⟨g, 0, none⟩ = some v := by
             rw [hgrow.cell_far ⟨g, 0, none⟩ (by rw [hs2]; exact Nat.lt_succ_of_lt HB.out.lt) (fun e => HO.out.block_ne HB.out (by decide) e.symm)]; exact HB2.out.cell 0
           have hf1 : w1.frozen? ⟨g, 0, none⟩ = false := by
             rw [hgrow.frozen_far ⟨g, 0, none⟩ (by rw [hs2]; exact Nat.lt_succ_of_lt HB.out.lt) (fun e => HO.out.block_ne HB.out (by decide) e.symm)]; exact HB2.out.frozen 0
           obtain ⟨A1, m1, c1, rfl⟩ : ∃ A m c, v1 = .slice A m c := by obtain ⟨A1, c1, h, -, -⟩ := hown1.form; exact ⟨_, _, _, h⟩
           clear hown1 hgrow hat))
      all_goals
        go_wp2
        go_roundw
        case rel =>
          refine ⟨k + 1, by omega, by go_num, ?_, HP.out.trans HW.out.2⟩
          rw [be_take 1 n k (by omega), show 1 - 1 - k = j by omega, ← hx2.out, ← List.append_assoc]
          exact HW.out.1
        case measure => first | (simp [intOf]; done) | (simp [intOf]; omega)
    · obtain rfl : k = 1 := by omega
      go_wp2
      go_end0
      rw [be_take_all] at HW
      exact ⟨rfl, HW.out, HP.out⟩

theorem put1 (w : World) (B g : Nat) (l : List Nat) (n : Int) (hW : Wr w B g l) (h0 : 0 ≤ n) (hn : n < 256) (hlen : l.length + 1 ≤ 140737488355328) :
    Calls Try.prog 28 #[.pointer (some ⟨g, 0, none⟩), .int .u8 n] w fun e w' => e = .returned (.tuple #[]) ∧ Wr w' B g (l ++ be 1 n.toNat) ∧ Past B g w w' := by
  go_enter Try.func28, Try.ntmps28
  go_wp2_with (go_at_call 39; refine (write1 w B g l n hW h0 hn hlen).mono ?_; rintro e w' ⟨rfl, h1, h2⟩)
  go_end0
  exact ⟨rfl, h1, h2⟩

set_option maxHeartbeats 800000 in
set_option maxRecDepth 100000 in
theorem write2 (w : World) (B g : Nat) (l : List Nat) (n : Int) (hW : Wr w B g l) (h0 : 0 ≤ n) (hn : n < 65536) (hlen : l.length + 2 ≤ 140737488355328) :
    Calls Try.prog 38 #[.pointer (some ⟨g, 0, none⟩), .int .u16 n] w fun e w' => e = .returned (.tuple #[]) ∧ Wr w' B g (l ++ be 2 n.toNat) ∧ Past B g w w' := by
  obtain ⟨n, rfl⟩ := Int.eq_ofNat_of_zero_le h0
  rw [Int.toNat_natCast]
  have HW := Lib.hid hW; clear hW
  go_enter Try.func38, Try.ntmps38
  go_wp2_with (go_at_call 46; refine (size2 _ _).mono ?_; rintro e w' ⟨rfl, rfl⟩)
  go_loopw [4] (fun i wr => ∃ k : Nat, k ≤ 2 ∧ i = .int .i64 (1 - k : Int) ∧ Hid (Wr wr B g (l ++ (be 2 n).take k)) ∧ Hid (Past B g w wr)) (fun i _ => (intOf i + 1).toNat)
  case atStart => exact ⟨0, by omega, rfl, by simpa using HW, Past.refl _ _ _⟩
  case round =>
    clear HW
    obtain ⟨k, hk, rfl, HW, HP⟩ := hrel
    by_cases hlt : k < 2
    · obtain ⟨v, hb, ho, hl, hB⟩ := HW.out
      have hc : wr.cell? ⟨g, 0, none⟩ = some v := hb.cell 0
      have hf := hb.frozen 0
      have HO := Lib.hid ho
      have HB := Lib.hid hb
      have HL := Lib.hid hl
      clear ho hb HW hl
      obtain ⟨j, hj⟩ : ∃ j : Nat, j + k = 1 := ⟨1 - k, by omega⟩
      rw [show (1 - (k : Int)) = (j : Int) by omega]
      have hq : (j : Int) ≤ 1 := by omega
      have e1 : IntKind.i64.wrap (8 * (j : Int)) = 8 * (j : Int) := IntWalk.i64_in _ (by omega)
      have e2 : (0 : Int) ≤ 8 * (j : Int) := by omega
      have e3 : (8 * (j : Int)).toNat = 8 * j := by omega
      have e4 : IntKind.u64.wrap (n : Int) = (n : Int) := by rw [IntKind.wrap_u64]; omega
      go_wp2_with fail
      obtain ⟨x, hx, hx2⟩ : ∃ x : Nat, IntKind.u8.wrap ((n : Int) / 2 ^ (8 * j)) = (x : Int) ∧ x = n / 256 ^ j % 256 := ⟨_, by rw [IntKind.wrap_u8', byte_at], rfl⟩
      have hx3 : x < 256 := by rw [hx2]; exact Nat.mod_lt _ (by decide)
      replace hx2 := Lib.hid hx2
      have HN := Lib.hid (Row.new wr #[.int .u8 (x : Int)] 5 (0, 0))
      have hb2 : Below wr.heap.size wr (wr.alloc (.cells #[.int .u8 (x : Int)] 5)).drew := ((Below.refl _ wr).alloc (Nat.le_refl _) _).drew
      have HO2 := Lib.hid (HO.out.below hb2)
      have HB2 := Lib.hid (HB.out.below hb2 HB.out.lt)
      have hs2 : (wr.alloc (.cells #[.int .u8 (x : Int)] 5)).drew.heap.size = wr.heap.size + 1 := by simp
      have hc2 := HB2.out.cell 0
      go_region_law (first
        | (refine step_app _ (by rfl) (.tmp 18) (.tmp 25) _ (by rfl) B 5 _ 1 Try.underlying25 info_u8 rfl (by omega) v (bv (l ++ (be 2 n).take k)) (by rfl) HO2.out (some ⟨wr.heap.size, 0, none⟩) 1 1 _ (by rfl) rfl HN.out.drew (by simp [Value.oneCell']) (by simp [bv_length]; omega) (by omega) ?_
           intro v1 w1 hown1 hgrow hat
           have HW := Lib.hid (Wr.app HB.out HO.out HL.out hB hx3 hb2 hown1 hgrow)
           have hc1 : w1.cell? ⟨g, 0, none⟩ = some v := by
             rw [hgrow.cell_far ⟨g, 0, none⟩ (by rw [hs2]; exact Nat.lt_succ_of_lt HB.out.lt) (fun e => HO.out.block_ne HB.out (by decide) e.symm)]; exact HB2.out.cell 0
           have hf1 : w1.frozen? ⟨g, 0, none⟩ = false := by
             rw [hgrow.frozen_far ⟨g, 0, none⟩ (by rw [hs2]; exact Nat.lt_succ_of_lt HB.out.lt) (fun e => HO.out.block_ne HB.out (by decide) e.symm)]; exact HB2.out.frozen 0
           obtain ⟨A1, m1, c1, rfl⟩ : ∃ A m c, v1 = .slice A m c := by obtain ⟨A1, c1, h, -, -⟩ := hown1.form; exact ⟨_, _, _, h⟩
           clear hown1 hgrow hat))
      all_goals
        go_wp2
        go_roundw
        case rel =>
          refine ⟨k + 1, by omega, by go_num, ?_, HP.out.trans HW.out.2⟩
          rw [be_take 2 n k (by omega), show 2 - 1 - k = j by omega, ← hx2.out, ← List.append_assoc]
          exact HW.out.1
        case measure => first | (simp [intOf]; done) | (simp [intOf]; omega)
    · obtain rfl : k = 2 := by omega
      go_wp2
      go_end0
      rw [be_take_all] at HW
      exact ⟨rfl, HW.out, HP.out⟩

theorem put2 (w : World) (B g : Nat) (l : List Nat) (n : Int) (hW : Wr w B g l) (h0 : 0 ≤ n) (hn : n < 65536) (hlen : l.length + 2 ≤ 140737488355328) :
    Calls Try.prog 27 #[.pointer (some ⟨g, 0, none⟩), .int .u16 n] w fun e w' => e = .returned (.tuple #[]) ∧ Wr w' B g (l ++ be 2 n.toNat) ∧ Past B g w w' := by
  go_enter Try.func27, Try.ntmps27
  go_wp2_with (go_at_call 38; refine (write2 w B g l n hW h0 hn hlen).mono ?_; rintro e w' ⟨rfl, h1, h2⟩)
  go_end0
  exact ⟨rfl, h1, h2⟩

set_option maxHeartbeats 800000 in
set_option maxRecDepth 100000 in
theorem write4 (w : World) (B g : Nat) (l : List Nat) (n : Int) (hW : Wr w B g l) (h0 : 0 ≤ n) (hn : n < 4294967296) (hlen : l.length + 4 ≤ 140737488355328) :
    Calls Try.prog 37 #[.pointer (some ⟨g, 0, none⟩), .int .u32 n] w fun e w' => e = .returned (.tuple #[]) ∧ Wr w' B g (l ++ be 4 n.toNat) ∧ Past B g w w' := by
  obtain ⟨n, rfl⟩ := Int.eq_ofNat_of_zero_le h0
  rw [Int.toNat_natCast]
  have HW := Lib.hid hW; clear hW
  go_enter Try.func37, Try.ntmps37
  go_wp2_with (go_at_call 45; refine (size4 _ _).mono ?_; rintro e w' ⟨rfl, rfl⟩)
  go_loopw [4] (fun i wr => ∃ k : Nat, k ≤ 4 ∧ i = .int .i64 (3 - k : Int) ∧ Hid (Wr wr B g (l ++ (be 4 n).take k)) ∧ Hid (Past B g w wr)) (fun i _ => (intOf i + 1).toNat)
  case atStart => exact ⟨0, by omega, rfl, by simpa using HW, Past.refl _ _ _⟩
  case round =>
    clear HW
    obtain ⟨k, hk, rfl, HW, HP⟩ := hrel
    by_cases hlt : k < 4
    · obtain ⟨v, hb, ho, hl, hB⟩ := HW.out
      have hc : wr.cell? ⟨g, 0, none⟩ = some v := hb.cell 0
      have hf := hb.frozen 0
      have HO := Lib.hid ho
      have HB := Lib.hid hb
      have HL := Lib.hid hl
      clear ho hb HW hl
      obtain ⟨j, hj⟩ : ∃ j : Nat, j + k = 3 := ⟨3 - k, by omega⟩
      rw [show (3 - (k : Int)) = (j : Int) by omega]
      have hq : (j : Int) ≤ 3 := by omega
      have e1 : IntKind.i64.wrap (8 * (j : Int)) = 8 * (j : Int) := IntWalk.i64_in _ (by omega)
      have e2 : (0 : Int) ≤ 8 * (j : Int) := by omega
      have e3 : (8 * (j : Int)).toNat = 8 * j := by omega
      have e4 : IntKind.u64.wrap (n : Int) = (n : Int) := by rw [IntKind.wrap_u64]; omega
      go_wp2_with fail
      obtain ⟨x, hx, hx2⟩ : ∃ x : Nat, IntKind.u8.wrap ((n : Int) / 2 ^ (8 * j)) = (x : Int) ∧ x = n / 256 ^ j % 256 := ⟨_, by rw [IntKind.wrap_u8', byte_at], rfl⟩
      have hx3 : x < 256 := by rw [hx2]; exact Nat.mod_lt _ (by decide)
      replace hx2 := Lib.hid hx2
      have HN := Lib.hid (Row.new wr #[.int .u8 (x : Int)] 5 (0, 0))
      have hb2 : Below wr.heap.size wr (wr.alloc (.cells #[.int .u8 (x : Int)] 5)).drew := ((Below.refl _ wr).alloc (Nat.le_refl _) _).drew
      have HO2 := Lib.hid (HO.out.below hb2)
      have HB2 := Lib.hid (HB.out.below hb2 HB.out.lt)
      have hs2 : (wr.alloc (.cells #[.int .u8 (x : Int)] 5)).drew.heap.size = wr.heap.size + 1 := by simp
      have hc2 := HB2.out.cell 0
      go_region_law (first
        | (refine step_app _ (by rfl) (.tmp 18) (.tmp 25) _ (by rfl) B 5 _ 1 Try.underlying25 info_u8 rfl (by omega) v (bv (l ++ (be 4 n).take k)) (by rfl) HO2.out (some ⟨wr.heap.size, 0, none⟩) 1 1 _ (by rfl) rfl HN.out.drew (by simp [Value.oneCell']) (by simp [bv_length]; omega) (by omega) ?_
           intro v1 w1 hown1 hgrow hat
           have HW := Lib.hid (Wr.app HB.out HO.out HL.out hB hx3 hb2 hown1 hgrow)
           have hc1 : w1.cell? ⟨g, 0, none⟩ = some v := by
             rw [hgrow.cell_far ⟨g, 0, none⟩ (by rw [hs2]; exact Nat.lt_succ_of_lt HB.out.lt) (fun e => HO.out.block_ne HB.out (by decide) e.symm)]; exact HB2.out.cell 0
           have hf1 : w1.frozen? ⟨g, 0, none⟩ = false := by
             rw [hgrow.frozen_far ⟨g, 0, none⟩ (by rw [hs2]; exact Nat.lt_succ_of_lt HB.out.lt) (fun e => HO.out.block_ne HB.out (by decide) e.symm)]; exact HB2.out.frozen 0
           obtain ⟨A1, m1, c1, rfl⟩ : ∃ A m c, v1 = .slice A m c := by obtain ⟨A1, c1, h, -, -⟩ := hown1.form; exact ⟨_, _, _, h⟩
           clear hown1 hgrow hat))
      all_goals
        go_wp2
        go_roundw
        case rel =>
          refine ⟨k + 1, by omega, by go_num, ?_, HP.out.trans HW.out.2⟩
          rw [be_take 4 n k (by omega), show 4 - 1 - k = j by omega, ← hx2.out, ← List.append_assoc]
          exact HW.out.1
        case measure => first | (simp [intOf]; done) | (simp [intOf]; omega)
    · obtain rfl : k = 4 := by omega
      go_wp2
      go_end0
      rw [be_take_all] at HW
      exact ⟨rfl, HW.out, HP.out⟩

theorem put4 (w : World) (B g : Nat) (l : List Nat) (n : Int) (hW : Wr w B g l) (h0 : 0 ≤ n) (hn : n < 4294967296) (hlen : l.length + 4 ≤ 140737488355328) :
    Calls Try.prog 26 #[.pointer (some ⟨g, 0, none⟩), .int .u32 n] w fun e w' => e = .returned (.tuple #[]) ∧ Wr w' B g (l ++ be 4 n.toNat) ∧ Past B g w w' := by
  go_enter Try.func26, Try.ntmps26
  go_wp2_with (go_at_call 37; refine (write4 w B g l n hW h0 hn hlen).mono ?_; rintro e w' ⟨rfl, h1, h2⟩)
  go_end0
  exact ⟨rfl, h1, h2⟩

set_option maxHeartbeats 800000 in
set_option maxRecDepth 100000 in
theorem write8 (w : World) (B g : Nat) (l : List Nat) (n : Int) (hW : Wr w B g l) (h0 : 0 ≤ n) (hn : n < 18446744073709551616) (hlen : l.length + 8 ≤ 140737488355328) :
    Calls Try.prog 36 #[.pointer (some ⟨g, 0, none⟩), .int .u64 n] w fun e w' => e = .returned (.tuple #[]) ∧ Wr w' B g (l ++ be 8 n.toNat) ∧ Past B g w w' := by
  obtain ⟨n, rfl⟩ := Int.eq_ofNat_of_zero_le h0
  rw [Int.toNat_natCast]
  have HW := Lib.hid hW; clear hW
  go_enter Try.func36, Try.ntmps36
  go_wp2_with (go_at_call 44; refine (size8 _ _).mono ?_; rintro e w' ⟨rfl, rfl⟩)
  go_loopw [4] (fun i wr => ∃ k : Nat, k ≤ 8 ∧ i = .int .i64 (7 - k : Int) ∧ Hid (Wr wr B g (l ++ (be 8 n).take k)) ∧ Hid (Past B g w wr)) (fun i _ => (intOf i + 1).toNat)
  case atStart => exact ⟨0, by omega, rfl, by simpa using HW, Past.refl _ _ _⟩
  case round =>
    clear HW
    obtain ⟨k, hk, rfl, HW, HP⟩ := hrel
    by_cases hlt : k < 8
    · obtain ⟨v, hb, ho, hl, hB⟩ := HW.out
      have hc : wr.cell? ⟨g, 0, none⟩ = some v := hb.cell 0
      have hf := hb.frozen 0
      have HO := Lib.hid ho
      have HB := Lib.hid hb
      have HL := Lib.hid hl
      clear ho hb HW hl
      obtain ⟨j, hj⟩ : ∃ j : Nat, j + k = 7 := ⟨7 - k, by omega⟩
      rw [show (7 - (k : Int)) = (j : Int) by omega]
      have hq : (j : Int) ≤ 7 := by omega
      have e1 : IntKind.i64.wrap (8 * (j : Int)) = 8 * (j : Int) := IntWalk.i64_in _ (by omega)
      have e2 : (0 : Int) ≤ 8 * (j : Int) := by omega
      have e3 : (8 * (j : Int)).toNat = 8 * j := by omega
      go_wp2_with fail
      obtain ⟨x, hx, hx2⟩ : ∃ x : Nat, IntKind.u8.wrap ((n : Int) / 2 ^ (8 * j)) = (x : Int) ∧ x = n / 256 ^ j % 256 := ⟨_, by rw [IntKind.wrap_u8', byte_at], rfl⟩
      have hx3 : x < 256 := by rw [hx2]; exact Nat.mod_lt _ (by decide)
      replace hx2 := Lib.hid hx2
      have HN := Lib.hid (Row.new wr #[.int .u8 (x : Int)] 5 (0, 0))
      have hb2 : Below wr.heap.size wr (wr.alloc (.cells #[.int .u8 (x : Int)] 5)).drew := ((Below.refl _ wr).alloc (Nat.le_refl _) _).drew
      have HO2 := Lib.hid (HO.out.below hb2)
      have HB2 := Lib.hid (HB.out.below hb2 HB.out.lt)
      have hs2 : (wr.alloc (.cells #[.int .u8 (x : Int)] 5)).drew.heap.size = wr.heap.size + 1 := by simp
      have hc2 := HB2.out.cell 0
      go_region_law (first
        | (refine step_app _ (by rfl) (.tmp 18) (.tmp 24) _ (by rfl) B 5 _ 1 Try.underlying25 info_u8 rfl (by omega) v (bv (l ++ (be 8 n).take k)) (by rfl) HO2.out (some ⟨wr.heap.size, 0, none⟩) 1 1 _ (by rfl) rfl HN.out.drew (by simp [Value.oneCell']) (by simp [bv_length]; omega) (by omega) ?_
           intro v1 w1 hown1 hgrow hat
           have HW := Lib.hid (Wr.app HB.out HO.out HL.out hB hx3 hb2 hown1 hgrow)
           have hc1 : w1.cell? ⟨g, 0, none⟩ = some v := by
             rw [hgrow.cell_far ⟨g, 0, none⟩ (by rw [hs2]; exact Nat.lt_succ_of_lt HB.out.lt) (fun e => HO.out.block_ne HB.out (by decide) e.symm)]; exact HB2.out.cell 0
           have hf1 : w1.frozen? ⟨g, 0, none⟩ = false := by
             rw [hgrow.frozen_far ⟨g, 0, none⟩ (by rw [hs2]; exact Nat.lt_succ_of_lt HB.out.lt) (fun e => HO.out.block_ne HB.out (by decide) e.symm)]; exact HB2.out.frozen 0
           obtain ⟨A1, m1, c1, rfl⟩ : ∃ A m c, v1 = .slice A m c := by obtain ⟨A1, c1, h, -, -⟩ := hown1.form; exact ⟨_, _, _, h⟩
           clear hown1 hgrow hat))
      all_goals
        go_wp2
        go_roundw
        case rel =>
          refine ⟨k + 1, by omega, by go_num, ?_, HP.out.trans HW.out.2⟩
          rw [be_take 8 n k (by omega), show 8 - 1 - k = j by omega, ← hx2.out, ← List.append_assoc]
          exact HW.out.1
        case measure => first | (simp [intOf]; done) | (simp [intOf]; omega)
    · obtain rfl : k = 8 := by omega
      go_wp2
      go_end0
      rw [be_take_all] at HW
      exact ⟨rfl, HW.out, HP.out⟩

theorem put8 (w : World) (B g : Nat) (l : List Nat) (n : Int) (hW : Wr w B g l) (h0 : 0 ≤ n) (hn : n < 18446744073709551616) (hlen : l.length + 8 ≤ 140737488355328) :
    Calls Try.prog 25 #[.pointer (some ⟨g, 0, none⟩), .int .u64 n] w fun e w' => e = .returned (.tuple #[]) ∧ Wr w' B g (l ++ be 8 n.toNat) ∧ Past B g w w' := by
  go_enter Try.func25, Try.ntmps25
  go_wp2_with (go_at_call 36; refine (write8 w B g l n hW h0 hn hlen).mono ?_; rintro e w' ⟨rfl, h1, h2⟩)
  go_end0
  exact ⟨rfl, h1, h2⟩

theorem own_empty (w : World) (B : Nat) (hB : B ≤ w.heap.size) : Own (w.alloc (.cells #[] 5)) B 5 (.slice (some ⟨w.heap.size, 0, none⟩) 0 0) (bv []) :=
  Own.lit w B 5 #[] 0 hB rfl (by omega)

/-- A copy. -/
theorem clone_calls (w : World) (A : Option Addr) (l : List Nat) (m c : Nat) (hm : l.length = m) (hb : Bytes w A l) (hlen : m ≤ 140737488355328) :
    Calls Try.prog 34 #[.slice A m c] w fun e w' => ∃ v, e = .returned v ∧ Own w' w.heap.size 5 v (bv l) ∧ Below w.heap.size w w' := by
  have HB := Lib.hid hb; clear hb
  cases A with
  | none =>
    have hl : l = [] := by
      cases l with
      | nil => rfl
      | cons x l => obtain ⟨b, off, h, _⟩ := HB.out.row 0 (.int .u8 x) rfl; cases h
    subst hl
    have hnil := eql_nil
    go_enter Try.func34, Try.ntmps34
    go_wp2
    go_ret
    exact ⟨_, rfl, Own.nil _ _ _, Below.refl _ _⟩
  | some a =>
    have hnil := eql_nil
    go_enter Try.func34, Try.ntmps34
    go_wp2_with (first
      | (at_builtin
         refine wpList_app _ rfl (.tmp 5) (.tmp 6) _ rfl w.heap.size 5 _ 1 Try.underlying25 info_u8 rfl (by omega) _ (bv []) rfl (own_empty w _ (Nat.le_refl _)) (some a) m c (bv l) rfl (by rw [bv_length]; exact hm) (HB.out.alloc _).row (bv_one l) (by simp [bv]; omega) (by simp) ?_
         intro v1 w1 ho hg hat
         have hb1 : Below w.heap.size w w1 := ((Below.refl _ _).alloc (Nat.le_refl _) _).trans ((own_empty w _ (Nat.le_refl _)).grew (by simp) hg)
         clear hg hat)
      | fail)
    go_ret
    exact ⟨_, rfl, ho, hb1⟩

theorem out_calls (w : World) (B g : Nat) (l : List Nat) (hW : Wr w B g l) (hlen : l.length ≤ 140737488355328) :
    Calls Try.prog 13 #[.pointer (some ⟨g, 0, none⟩)] w fun e w' => ∃ v, e = .returned v ∧ Own w' w.heap.size 5 v (bv l) ∧ Below w.heap.size w w' := by
  obtain ⟨v, hb, ho, hl, hB⟩ := hW
  obtain ⟨A, c, rfl, hr, -⟩ := ho.form
  have hc := hb.cell 0
  have HB := Lib.hid (⟨hr, hl⟩ : Bytes w A l)
  clear ho hr hl hb
  rw [bv_length] at hc
  go_enter Try.func13, Try.ntmps13
  go_wp2_with (go_at_call 34; refine (clone_calls _ _ l _ c rfl HB.out hlen).mono ?_; rintro e w' ⟨v, rfl, h1, h2⟩)
  go_ret
  exact ⟨_, rfl, h1, h2⟩

/-- A writer's bytes behind any append. -/
theorem Wr.apps {w w' : World} {B g : Nat} {l r : List Nat} {v v' : Value} (hb : Block w g 27 #[v]) (ho : Own w B 5 v (bv l)) (hl : ∀ c ∈ l, c < 256) (hB : B ≤ w.heap.size) (hr : ∀ c ∈ r, c < 256)
    (ho' : Own w' B 5 v' (bv l ++ bv r)) (hg : w.grownBy w' v.ownBlock) :
    Wr (w'.setCell ⟨g, 0, none⟩ v') B g (l ++ r) ∧ Past B g w (w'.setCell ⟨g, 0, none⟩ v') := by
  have hne := ho.block_ne hb (by decide)
  have hb' : Block w' g 27 #[v] := (hg.block g hb.lt (fun e => hne e.symm)).trans hb
  have hB' : B ≤ w'.heap.size := Nat.le_trans hB hg.size
  have hp : Past B g w w' := (Past.refl B g w).grown hg hB (fun k hk => (ho.lt k hk).1)
  refine ⟨⟨v', hb'.set_ 0 v', ?_, ?_, by simpa [World.setCell] using hB'⟩, hp.setCell (.inl rfl) _⟩
  · rw [bv_append]
    exact ho'.far (ho'.block_ne hb' (by decide)) _
  · intro c hc
    rcases List.mem_append.1 hc with h | h
    · exact hl c h
    · exact hr c h

theorem putRaw (w : World) (B g : Nat) (l : List Nat) (A : Option Addr) (r : List Nat) (m c : Nat) (hW : Wr w B g l) (hm : r.length = m) (hr : Bytes w A r) (hlen : l.length + m ≤ 140737488355328) :
    Calls Try.prog 22 #[.pointer (some ⟨g, 0, none⟩), .slice A m c] w fun e w' => e = .returned (.tuple #[]) ∧ Wr w' B g (l ++ r) ∧ Past B g w w' := by
  obtain ⟨v, hb, ho, hl, hB⟩ := hW
  have hc := hb.cell 0
  have HO := Lib.hid ho
  have HB := Lib.hid hb
  have HL := Lib.hid hl
  have HR := Lib.hid hr
  clear ho hb hl hr
  go_enter Try.func22, Try.ntmps22
  go_wp2_with (first
    | (at_builtin
       refine wpList_app _ rfl (.tmp 10) (.tmp 11) _ rfl B 5 _ 1 Try.underlying25 info_u8 rfl (by omega) v (bv l) rfl HO.out A m c (bv r) rfl (by rw [bv_length]; exact hm) HR.out.row (bv_one r) (by rw [bv_length]; omega) hB ?_
       intro v1 w1 ho1 hgrow hat
       have HW := Lib.hid (Wr.apps HB.out HO.out HL.out hB HR.out.lt ho1 hgrow)
       have hc1 : w1.cell? ⟨g, 0, none⟩ = some v := by
         rw [hgrow.cell_far ⟨g, 0, none⟩ HB.out.lt (fun e => HO.out.block_ne HB.out (by decide) e.symm)]; exact HB.out.cell 0
       have hf1 : w1.frozen? ⟨g, 0, none⟩ = false := by
         rw [hgrow.frozen_far ⟨g, 0, none⟩ HB.out.lt (fun e => HO.out.block_ne HB.out (by decide) e.symm)]; exact HB.out.frozen 0
       obtain ⟨A1, m1, c1, rfl⟩ : ∃ A m c, v1 = .slice A m c := by obtain ⟨A1, c1, h, -, -⟩ := ho1.form; exact ⟨_, _, _, h⟩
       clear ho1 hgrow hat)
    | fail)
  go_end0
  exact ⟨rfl, HW.out.1, HW.out.2⟩
end Go.Proofs.Ytggonoppdekilaa.Fld
