/- ConfigMakes, for every input: the frame round the walk; the argument lists are opened, the walk's contract is met, what was read reads as it did. -/
import Derived.Test.YtjoghbmedfmioabPc04
import Derived.Test.YtjoghbmedfmioabPc10
import Derived.Test.YtjoghbmedfmioabPc11
import Derived.Test.YtjoghbmedfmioabPc07
import Derived.BigQuiet
import Derived.Lib.QuietBelow
import Derived.Test.YtjoghbmedfmioabRows
import Derived.WalkKit
import Derived.ProofKit
import Derived.OpenShut
import Derived.ShutString
import Derived.ChangeOld
import Derived.Below
import Derived.Deep.DeepHandedRow
import Derived.SizedLaws
namespace Go.Proofs.Ytjoghbmedfmioab.configMakes
open Go.RowKit Go.Shelf Cf F8 Poly GF Rd Ms
attribute [local go_sem] Oper.semAt_some
set_option linter.unusedVariables false

theorem pairs_nat (k : Nat) : pairs (k : Int) = ((k * (k - 1) / 2 : Nat) : Int) := by
 unfold pairs
 rcases Nat.eq_zero_or_pos k with h | h
 ·subst h; rfl
 ·rw [Int.natCast_ediv, Int.natCast_mul, Int.natCast_sub (by omega)]; rfl
theorem two_tri (k : Nat) : 2 * (k * (k + 1) / 2) = k * (k + 1) := by
 have : k * (k + 1) % 2 = 0 := by
  rcases (show k % 2 = 0 ∨ k % 2 = 1 by omega) with h | h
  ·rw [Nat.mul_mod, h]; simp
  ·rw [Nat.mul_mod, show (k + 1) % 2 = 0 by omega]; simp
 omega
theorem mbr_b (k d : Nat) (h : k ≤ d) : ((Mb.bN k d : Nat) : Int) = (k : Int) * (d : Int) - pairs (k : Int) := by
 have h1 := pairs_two (k : Int)
 have h2 := two_tri k
 obtain ⟨e, rfl⟩ : ∃ e, d = k + e := ⟨d - k, by omega⟩
 unfold Mb.bN Mb.tri
 obtain ⟨t, ht⟩ : ∃ t, k * (k + 1) / 2 = t := ⟨_, rfl⟩
 rw [ht] at h2 ⊢
 have e1 : k + e - k = e := by omega
 rw [e1]
 have h3 : 2 * (t : Int) = (k : Int) * ((k : Int) + 1) := by have := congrArg (fun x : Nat => (x : Int)) h2; simpa using this
 have h4 : (k : Int) * ((k : Int) - 1) = (k : Int) * (k : Int) - (k : Int) := by rw [Int.mul_sub]; simp
 have h5 : (k : Int) * ((k : Int) + 1) = (k : Int) * (k : Int) + (k : Int) := by rw [Int.mul_add]; simp
 have h6 : (k : Int) * ((k + e : Nat) : Int) = (k : Int) * (k : Int) + (k : Int) * (e : Int) := by rw [Int.natCast_add, Int.mul_add]
 rw [h6, Int.natCast_add, Int.natCast_mul]
 omega
theorem tr_rs (n : Nat) : ∀ k, k ≤ n → ((Tr.rs n k : Nat) : Int) = (k : Int) * ((n : Int) - 1) - pairs (k : Int)
 | 0, _ => by simp [Tr.rs, pairs]
 | k + 1, h => by
  have ih := tr_rs n k (by omega)
  have h1 := pairs_two (k : Int)
  have h2 := pairs_two ((k : Int) + 1)
  rw [Tr.rs, Int.natCast_add, ih]
  have e1 : ((n - 1 - k : Nat) : Int) = (n : Int) - 1 - (k : Int) := by omega
  have e2 : (((k + 1 : Nat) : Int)) = (k : Int) + 1 := by omega
  rw [e1, e2, Int.add_mul, Int.one_mul]
  have e3 : ((k : Int) + 1) * ((k : Int) + 1 - 1) = (k : Int) * (k : Int) + (k : Int) := by rw [show (k : Int) + 1 - 1 = (k : Int) by omega, Int.add_mul, Int.one_mul]
  have e4 : (k : Int) * ((k : Int) - 1) = (k : Int) * (k : Int) - (k : Int) := by rw [Int.mul_sub]; simp
  omega
set_option maxRecDepth 100000 in
set_option maxHeartbeats 8000000 in
theorem walk (PS : Poly.Spec) (w : World) (c0 : Cf.C) (hc0 : c0.Ok) : Calls Try.prog 3 #[.agg (Cf.cV c0)] w fun e w' => e = .returned (.bool true) ∧ Below w.heap.size w w' := by
 have HW := Lib.hid works_calls
 cases hck : chk c0 with
 | none =>
  have HC := Lib.hid (check_calls c0 hc0)
  rw [hck] at HC
  obtain ⟨code, n, k, d, r, t, ww⟩ := c0
  unfold cV at HC ⊢
  dsimp only at HC ⊢
  have HQ : Hid (∀ X : World, Calls Try.prog 4 #[.agg #[.int .u8 (code : Nat), .int .i64 n, .int .i64 k, .int .i64 d, .int .i64 r, .int .i64 t, .int .i64 ww]] X fun e w' => e = .returned (.tuple #[.agg #[.int .i64 0, .int .i64 0, .int .i64 0, .int .i64 0, .int .i64 0], .int .i64 130]) ∧ Below X.heap.size X w') := HC
  have HB := Lib.hid ((Below.refl w.heap.size w).alloc (Nat.le_refl _) (.cells #[.int .u8 (code : Nat), .int .i64 n, .int .i64 k, .int .i64 d, .int .i64 r, .int .i64 t, .int .i64 ww] 23))
  clear hck HC hc0
  go_enter Try.func3, Try.ntmps3
  go_wp2_with (first | (go_at_call 4; (with_reducible refine (HQ.out _).mono ?_); rintro e w1 ⟨rfl, hb1⟩; have HB1 := Lib.hid (HB.out.trans (hb1.mono HB.out.size)); clear hb1) | (go_at_call 5; (with_reducible refine (HW.out _).mono ?_); rintro e w2 ⟨rfl, hb2⟩; have HB2 := Lib.hid ((HB1.out.alloc HB1.out.size (.cells #[.int .i64 0, .int .i64 0, .int .i64 0, .int .i64 0, .int .i64 0] 25)).trans (hb2.mono (HB1.out.alloc HB1.out.size _).size)); clear hb2))
  go_ret
  exact ⟨rfl, HB2.out⟩
 | some s =>
  have HC := Lib.hid (check_calls c0 hc0)
  rw [hck] at HC
  obtain ⟨⟨bn1, bn2⟩, ⟨bk1, bk2⟩, ⟨bd1, bd2⟩, ⟨br1, br2⟩, ⟨bt1, bt2⟩, ⟨bw1, bw2⟩⟩ := chk_bytes hck
  obtain ⟨q1, q2, q3⟩ := chk_some hck
  have HK := Lib.hid (kind_some q2)
  have hss : s.s ≤ c0.n := by have h1 := q3.1; have h2 := q3.2.1; omega
  clear q1 q2 q3 hck hc0
  obtain ⟨code, n, k, d, r, t, ww⟩ := c0
  obtain ⟨sa, sb, ss, so⟩ := s
  unfold cV at HC ⊢
  dsimp only at HC bn1 bn2 bk1 bk2 bd1 bd2 br1 br2 hss ⊢
  have HQ : Hid (∀ X : World, Calls Try.prog 4 #[.agg #[.int .u8 (code : Nat), .int .i64 n, .int .i64 k, .int .i64 d, .int .i64 r, .int .i64 t, .int .i64 ww]] X fun e w' => e = .returned (.tuple #[.agg #[.int .i64 sa, .int .i64 sb, .int .i64 ss, .int .i64 so, .int .i64 1], .int .i64 0]) ∧ Below X.heap.size X w') := HC
  have HB := Lib.hid ((Below.refl w.heap.size w).alloc (Nat.le_refl _) (.cells #[.int .u8 (code : Nat), .int .i64 n, .int .i64 k, .int .i64 d, .int .i64 r, .int .i64 t, .int .i64 ww] 23))
  have HKb := Lib.hid (Block.new w 23 #[.int .u8 (code : Nat), .int .i64 n, .int .i64 k, .int .i64 d, .int .i64 r, .int .i64 t, .int .i64 ww])
  obtain ⟨n', rfl⟩ : ∃ n' : Nat, n = (n' : Int) := ⟨n.toNat, by omega⟩
  obtain ⟨k', rfl⟩ : ∃ k' : Nat, k = (k' : Int) := ⟨k.toNat, by omega⟩
  obtain ⟨d', rfl⟩ : ∃ d' : Nat, d = (d' : Int) := ⟨d.toNat, by omega⟩
  obtain ⟨r', rfl⟩ : ∃ r' : Nat, r = (r' : Int) := ⟨r.toNat, by omega⟩
  clear HC bw1 bw2 bt1 bt2
  by_cases hn12 : 12 < n'
  ·have hn13 : (n' : Int) > 12 := by omega
   go_enter Try.func3, Try.ntmps3
   go_wp2_with (first
    | (go_at_call 4; (with_reducible refine (HQ.out _).mono ?_); rintro e w1 ⟨rfl, hb1⟩; have HB1 := Lib.hid (HB.out.trans (hb1.mono HB.out.size)); have HK1 := Lib.hid (HKb.out.below hb1 HKb.out.lt); have x1 : (w1.alloc (.cells #[.int .i64 sa, .int .i64 sb, .int .i64 ss, .int .i64 so, .int .i64 1] 25)).cell? ⟨w.heap.size, 1, none⟩ = some (.int .i64 (n' : Int)) := (HK1.out.alloc _).cell 1; clear hb1)
    | (go_at_call 5; (with_reducible refine (HW.out _).mono ?_); rintro e w2 ⟨rfl, hb2⟩; have HB2 := Lib.hid ((HB1.out.alloc HB1.out.size (.cells #[.int .i64 sa, .int .i64 sb, .int .i64 ss, .int .i64 so, .int .i64 1] 25)).trans (hb2.mono (HB1.out.alloc HB1.out.size _).size)); clear hb2))
   go_ret
   exact ⟨rfl, HB2.out⟩
  have hn13 : ¬ ((n' : Int) > 12) := by omega
  go_enter Try.func3, Try.ntmps3
  go_wp2_with (go_at_call 4; (with_reducible refine (HQ.out _).mono ?_); rintro e w1 ⟨rfl, hb1⟩; have HB1 := Lib.hid (HB.out.trans (hb1.mono HB.out.size)); have HK1 := Lib.hid (HKb.out.below hb1 HKb.out.lt); have x1 : (w1.alloc (.cells #[.int .i64 sa, .int .i64 sb, .int .i64 ss, .int .i64 so, .int .i64 1] 25)).cell? ⟨w.heap.size, 1, none⟩ = some (.int .i64 (n' : Int)) := (HK1.out.alloc _).cell 1; clear hb1)
  clear x1
  obtain ⟨w2, hw2⟩ : ∃ w2, w1.alloc (.cells #[.int .i64 sa, .int .i64 sb, .int .i64 ss, .int .i64 so, .int .i64 1] 25) = w2 := ⟨_, rfl⟩
  obtain ⟨B1, hB1⟩ : ∃ B1, w1.heap.size = B1 := ⟨_, rfl⟩
  have hK2 : Block w2 w.heap.size 23 #[.int .u8 (code : Nat), .int .i64 (n' : Int), .int .i64 (k' : Int), .int .i64 (d' : Int), .int .i64 (r' : Int), .int .i64 t, .int .i64 ww] := by rw [← hw2]; exact HK1.out.alloc _
  have hS2 : Block w2 B1 25 #[.int .i64 sa, .int .i64 sb, .int .i64 ss, .int .i64 so, .int .i64 1] := by rw [← hw2, ← hB1]; exact Block.new w1 _ _
  have HB2 : Hid (Below w.heap.size w w2) := Lib.hid (by rw [← hw2]; exact HB1.out.alloc HB1.out.size _)
  rw [hw2, hB1]
  obtain ⟨B0, hB0⟩ : ∃ B0, w.heap.size = B0 := ⟨_, rfl⟩
  have HB0 := Lib.hid hB0
  rw [hB0] at hK2 ⊢
  have HK2 := Lib.hid hK2
  have HS2 := Lib.hid hS2
  clear hw2 hB1 HB1 HK1 HB HKb HQ hK2 hS2 hB0
  refine (GF.new_calls w2).mono ?_
  rintro e w3 ⟨rfl, hw3⟩
  have hb3 : Below w2.heap.size w2 w3 := by rw [hw3]; exact (Below.refl _ _).alloc (Nat.le_refl _) _
  have hf3 : FldP w3 (some ⟨w2.heap.size, 0, none⟩) := FldP.of (by rw [hw3]; exact Fld.new w2)
  have HF3 := Lib.hid hf3
  have HK3 := Lib.hid (HK2.out.below hb3 HK2.out.lt)
  have HS3 := Lib.hid (HS2.out.below hb3 HS2.out.lt)
  have HB3 := Lib.hid (HB2.out.trans (hb3.mono HB2.out.size))
  have hB1g : B1 < w2.heap.size := HS2.out.lt
  have hB0g : B0 < w2.heap.size := HK2.out.lt
  have hsz3 := hb3.size
  have hB0s := HB2.out.size
  obtain ⟨g, hg⟩ : ∃ g, w2.heap.size = g := ⟨_, rfl⟩
  rw [hg] at HF3 hB1g hB0g hB0s ⊢
  have hgw : g < w3.heap.size := HF3.out.fld.lt
  have z0 : w3.cell? ⟨B0, 0, none⟩ = some (.int .u8 (code : Nat)) := HK3.out.cell 0
  have z1 : w3.cell? ⟨B0, 1, none⟩ = some (.int .i64 (n' : Int)) := HK3.out.cell 1
  have z2 : w3.cell? ⟨B0, 2, none⟩ = some (.int .i64 (k' : Int)) := HK3.out.cell 2
  have z3 : w3.cell? ⟨B0, 3, none⟩ = some (.int .i64 (d' : Int)) := HK3.out.cell 3
  have z4 : w3.cell? ⟨B0, 4, none⟩ = some (.int .i64 (r' : Int)) := HK3.out.cell 4
  have HPast : Hid (∀ V, Past w3.heap.size g w3 V → Below w.heap.size w V ∧ Block V B0 23 #[.int .u8 (code : Nat), .int .i64 (n' : Int), .int .i64 (k' : Int), .int .i64 (d' : Int), .int .i64 (r' : Int), .int .i64 t, .int .i64 ww] ∧ Block V B1 25 #[.int .i64 sa, .int .i64 sb, .int .i64 ss, .int .i64 so, .int .i64 1]) := Lib.hid fun V hV => ⟨HB3.out.trans ((hV.mono HB3.out.size).below (by have := HB0.out; omega)), HK3.out.past hV HK3.out.lt (by omega), HS3.out.past hV HS3.out.lt (by omega)⟩
  clear hw3 hb3 hf3 HK2 HS2 HB2 hg hsz3
  rcases HK.out with ⟨h1, h2, h3⟩ | ⟨h1, h2, h3⟩ | ⟨h1, h2, h3⟩ | ⟨h1, h2, h3⟩ | ⟨h1, h2, h3⟩
  ·try dsimp only at h1 h2 h3
   subst h1
   obtain ⟨rfl, rfl, rfl, rfl⟩ := Sh.mk.inj h3
   unfold GReed at h2
   try dsimp only at h2
   have z0' : w3.cell? ⟨B0, 0, none⟩ = some (.int .u8 1) := z0
   have HRd := Lib.hid (reed_calls n' k' (by omega) (by omega) w3)
   have hkk : ((k' : Int) == (k' : Int)) = true := by simp
   clear HK z0 h3
   go_wp2_with fail
   refine HRd.out.mono ?_
   rintro e w4 (⟨-, b, A, c, rfl, hb, -, -, hb4⟩ | ⟨hno, -, -⟩)
   rotate_left
   ·omega
   have HB4 := Lib.hid (HPast.out w4 (Past.of_below hb4 _)).1
   have hS4 := HS3.out.below hb4 HS3.out.lt
   have hK4 := HK3.out.below hb4 HK3.out.lt
   have y0 : w4.cell? ⟨B1, 0, none⟩ = some (.int .i64 1) := hS4.cell 0
   have y1 : w4.cell? ⟨B1, 1, none⟩ = some (.int .i64 (k' : Int)) := hS4.cell 1
   have y2 : w4.cell? ⟨B0, 2, none⟩ = some (.int .i64 (k' : Int)) := hK4.cell 2
   clear hb4 hS4 hK4 HS3 HK3 z0' z1 z2 z3 z4
   go_wp2_with (go_at_call 5; (with_reducible refine (HW.out _).mono ?_); rintro e w5 ⟨rfl, hb5⟩; have HB5 := Lib.hid (HB4.out.trans (hb5.mono HB4.out.size)); clear hb5)
   go_ret
   exact ⟨rfl, HB5.out⟩
  ·try dsimp only at h1 h2 h3
   subst h1
   obtain ⟨rfl, rfl, rfl, rfl⟩ := Sh.mk.inj h3
   unfold GMsr at h2
   try dsimp only at h2
   have z0' : w3.cell? ⟨B0, 0, none⟩ = some (.int .u8 2) := z0
   have HGd : Hid (Ms.Good (n' : Int) (k' : Int) (d' : Int)) := Lib.hid (⟨h2.1, h2.2.1⟩)
   have HNw := Lib.hid (Ms.new_calls PS g (n' : Int) (k' : Int) (d' : Int) w3 HF3.out (by omega) (by omega) (by omega) (by omega) (by omega) (by omega))
   clear HK z0 h3
   go_wp2_with fail
   refine HNw.out.mono ?_
   clear HNw
   rintro e w4 (⟨-, S, hok, -, hSn, hSk, hSd, -, rfl, hp4⟩ | ⟨hno, -, -, -⟩)
   rotate_left
   ·exact absurd HGd.out hno
   obtain ⟨a9, ha9⟩ : ∃ a9, S.a = a9 := ⟨_, rfl⟩
   obtain ⟨b9, hb9⟩ : ∃ b9, S.k * S.a = b9 := ⟨_, rfl⟩
   have hak := hok.par.ak
   have hsa : (d' : Int) - (k' : Int) + 1 = (a9 : Int) := by omega
   have hsb : (k' : Int) * ((d' : Int) - (k' : Int) + 1) = (b9 : Int) := by
    rw [hsa, ← hb9, ← ha9, ← hSk, Int.natCast_mul]
   obtain ⟨hB4, hK4, hS4⟩ := HPast.out w4 hp4
   have HB4 := Lib.hid hB4
   rw [hsb, hsa] at hS4
   have X0 := cell_regrown (show w4.cell? ⟨B1, 0, none⟩ = some (.int .i64 (a9 : Int)) from hS4.cell 0)
   have X1 := cell_regrown (show w4.cell? ⟨B1, 1, none⟩ = some (.int .i64 (b9 : Int)) from hS4.cell 1)
   have HA : Hid (∀ d os, Calls Try.prog 9 #[.pointer (some ⟨S.b, 0, none⟩)] (Sort.grow (redrawn w4 d) os) fun e w' => e = .returned (.int .i64 (a9 : Nat)) ∧ Below (Sort.grow (redrawn w4 d) os).heap.size (Sort.grow (redrawn w4 d) os) w') := Lib.hid fun d os => (Ms.alpha_calls (hok.below (below_regrown w4 d os))).mono fun _ _ ⟨he, hw⟩ => ⟨by rw [he, ha9], hw ▸ Below.refl _ _⟩
   have HBc : Hid (∀ d os, Calls Try.prog 10 #[.pointer (some ⟨S.b, 0, none⟩)] (Sort.grow (redrawn w4 d) os) fun e w' => e = .returned (.int .i64 (b9 : Nat)) ∧ Below (Sort.grow (redrawn w4 d) os).heap.size (Sort.grow (redrawn w4 d) os) w') := Lib.hid fun d os => (Ms.b_calls (hok.below (below_regrown w4 d os))).mono fun _ _ ⟨he, hw⟩ => ⟨by rw [he, hb9], hw⟩
   have haa : (((a9 : Nat) : Int) == ((a9 : Nat) : Int)) = true := by simp
   have hbb : (((b9 : Nat) : Int) == ((b9 : Nat) : Int)) = true := by simp
   have hHs := HB4.out.size
   clear hok hB4 hK4 hS4 hp4 hsa hsb ha9 hb9 HS3 HK3 z0' z1 z2 z3 z4 HPast HGd HF3 HB3
   go_wp2_with fail
   refine wp_region_quiet_below (by kernel_rfl) (by kernel_rfl) ?_
   repeat (go_big_quiet_step (first
    | (go_at_call 9; (with_reducible exact Calls.regrown_of (HA.out _ _)))
    | (go_at_call 10; (with_reducible exact Calls.regrown_of (HBc.out _ _)))
    | (go_at_call 5; (with_reducible exact Calls.regrown_of (HW.out _)))))
   refine wpQuiet_nil ?_
   intro _ hw'
   obtain ⟨⟨dq, osq⟩, hw''⟩ := hw'
   subst hw''
   have HQ := Lib.hid (HB4.out.trans ((below_regrown w4 dq osq).mono hHs))
   dsimp only
   generalize Sort.grow (redrawn w4 dq) osq = wq at *
   clear X0 X1 HA HBc
   go_wp2
   go_ret
   exact ⟨rfl, HQ.out⟩
  ·try dsimp only at h1 h2 h3
   subst h1
   obtain ⟨rfl, rfl, rfl, rfl⟩ := Sh.mk.inj h3
   unfold GMbr at h2
   try dsimp only at h2
   have z0' : w3.cell? ⟨B0, 0, none⟩ = some (.int .u8 3) := z0
   have HGd : Hid (Mb.Good (n' : Int) (k' : Int) (d' : Int)) := Lib.hid (⟨h2.1, h2.2.1, h2.2.2.1, bn2⟩)
   have HNw := Lib.hid (Mb.new_calls g (n' : Int) (k' : Int) (d' : Int) w3 HF3.out)
   clear HK z0 h3
   go_wp2_with fail
   refine HNw.out.mono ?_
   clear HNw
   rintro e w4 (⟨-, S, hok, -, hSn, hSk, hSd, -, rfl, hp4⟩ | ⟨hno, -, -⟩)
   rotate_left
   ·exact absurd HGd.out hno
   obtain ⟨a9, ha9⟩ : ∃ a9, S.d = a9 := ⟨_, rfl⟩
   obtain ⟨b9, hb9⟩ : ∃ b9, Mb.bN S.k S.d = b9 := ⟨_, rfl⟩
   have hkd := hok.par.kd
   have hsa : (d' : Int) = (a9 : Int) := by omega
   have hsb : (k' : Int) * (d' : Int) - pairs (k' : Int) = (b9 : Int) := by
    rw [← hSk, ← hSd, ← hb9]
    exact (mbr_b S.k S.d hkd).symm
   obtain ⟨hB4, hK4, hS4⟩ := HPast.out w4 hp4
   have HB4 := Lib.hid hB4
   rw [hsb, hsa] at hS4
   have X0 := cell_regrown (show w4.cell? ⟨B1, 0, none⟩ = some (.int .i64 (a9 : Int)) from hS4.cell 0)
   have X1 := cell_regrown (show w4.cell? ⟨B1, 1, none⟩ = some (.int .i64 (b9 : Int)) from hS4.cell 1)
   have HA : Hid (∀ d os, Calls Try.prog 12 #[.pointer (some ⟨S.b, 0, none⟩)] (Sort.grow (redrawn w4 d) os) fun e w' => e = .returned (.int .i64 (a9 : Nat)) ∧ Below (Sort.grow (redrawn w4 d) os).heap.size (Sort.grow (redrawn w4 d) os) w') := Lib.hid fun d os => (Mb.alpha_calls (hok.below (below_regrown w4 d os))).mono fun _ _ ⟨he, hw⟩ => ⟨by rw [he, ha9], hw ▸ Below.refl _ _⟩
   have HBc : Hid (∀ d os, Calls Try.prog 13 #[.pointer (some ⟨S.b, 0, none⟩)] (Sort.grow (redrawn w4 d) os) fun e w' => e = .returned (.int .i64 (b9 : Nat)) ∧ Below (Sort.grow (redrawn w4 d) os).heap.size (Sort.grow (redrawn w4 d) os) w') := Lib.hid fun d os => (Mb.b_calls (hok.below (below_regrown w4 d os))).mono fun _ _ ⟨he, hw⟩ => ⟨by rw [he, hb9], hw⟩
   have haa : (((a9 : Nat) : Int) == ((a9 : Nat) : Int)) = true := by simp
   have hbb : (((b9 : Nat) : Int) == ((b9 : Nat) : Int)) = true := by simp
   have hHs := HB4.out.size
   clear hok hB4 hK4 hS4 hp4 hsa hsb ha9 hb9 HS3 HK3 z0' z1 z2 z3 z4 HPast HGd HF3 HB3
   go_wp2_with fail
   refine wp_region_quiet_below (by kernel_rfl) (by kernel_rfl) ?_
   repeat (go_big_quiet_step (first
    | (go_at_call 12; (with_reducible exact Calls.regrown_of (HA.out _ _)))
    | (go_at_call 13; (with_reducible exact Calls.regrown_of (HBc.out _ _)))
    | (go_at_call 5; (with_reducible exact Calls.regrown_of (HW.out _)))))
   refine wpQuiet_nil ?_
   intro _ hw'
   obtain ⟨⟨dq, osq⟩, hw''⟩ := hw'
   subst hw''
   have HQ := Lib.hid (HB4.out.trans ((below_regrown w4 dq osq).mono hHs))
   dsimp only
   generalize Sort.grow (redrawn w4 dq) osq = wq at *
   clear X0 X1 HA HBc
   go_wp2
   go_ret
   exact ⟨rfl, HQ.out⟩
  ·try dsimp only at h1 h2 h3
   subst h1
   obtain ⟨rfl, rfl, rfl, rfl⟩ := Sh.mk.inj h3
   unfold GTr at h2
   try dsimp only at h2
   have z0' : w3.cell? ⟨B0, 0, none⟩ = some (.int .u8 4) := z0
   have HGd : Hid (1 ≤ k' ∧ k' < n' ∧ n' < 24) := Lib.hid (⟨by omega, by omega, by omega⟩)
   have HNw := Lib.hid (Tr.new_good g n' k' HGd.out.1 HGd.out.2.1 HGd.out.2.2 w3 HF3.out)
   clear HK z0 h3
   go_wp2_with fail
   refine HNw.out.mono ?_
   clear HNw
   rintro e w4 ⟨S, hok, -, hSn, hSk, -, rfl, hp4⟩
   obtain ⟨a9, ha9⟩ : ∃ a9, S.n - 1 = a9 := ⟨_, rfl⟩
   obtain ⟨b9, hb9⟩ : ∃ b9, S.B = b9 := ⟨_, rfl⟩
   have hn1 := HGd.out
   have hsa : (n' : Int) - 1 = (a9 : Int) := by omega
   have hsb : (k' : Int) * ((n' : Int) - 1) - pairs (k' : Int) = (b9 : Int) := by
    rw [← hb9]
    unfold Tr.Tc.B
    rw [hSn, hSk]
    exact (tr_rs n' k' (by omega)).symm
   obtain ⟨hB4, hK4, hS4⟩ := HPast.out w4 hp4
   have HB4 := Lib.hid hB4
   rw [hsb, hsa] at hS4
   have X0 := cell_regrown (show w4.cell? ⟨B1, 0, none⟩ = some (.int .i64 (a9 : Int)) from hS4.cell 0)
   have X1 := cell_regrown (show w4.cell? ⟨B1, 1, none⟩ = some (.int .i64 (b9 : Int)) from hS4.cell 1)
   have HA : Hid (∀ d os, Calls Try.prog 15 #[.pointer (some ⟨S.b, 0, none⟩)] (Sort.grow (redrawn w4 d) os) fun e w' => e = .returned (.int .i64 (a9 : Nat)) ∧ Below (Sort.grow (redrawn w4 d) os).heap.size (Sort.grow (redrawn w4 d) os) w') := Lib.hid fun d os => (Tr.alpha_calls (hok.below (below_regrown w4 d os))).mono fun _ _ ⟨he, hw⟩ => ⟨by rw [he, ha9], hw ▸ Below.refl _ _⟩
   have HBc : Hid (∀ d os, Calls Try.prog 16 #[.pointer (some ⟨S.b, 0, none⟩)] (Sort.grow (redrawn w4 d) os) fun e w' => e = .returned (.int .i64 (b9 : Nat)) ∧ Below (Sort.grow (redrawn w4 d) os).heap.size (Sort.grow (redrawn w4 d) os) w') := Lib.hid fun d os => (Tr.b_calls (hok.below (below_regrown w4 d os))).mono fun _ _ ⟨he, hw⟩ => ⟨by rw [he, hb9], hw⟩
   have haa : (((a9 : Nat) : Int) == ((a9 : Nat) : Int)) = true := by simp
   have hbb : (((b9 : Nat) : Int) == ((b9 : Nat) : Int)) = true := by simp
   have hHs := HB4.out.size
   clear hok hB4 hK4 hS4 hp4 hsa hsb ha9 hb9 HS3 HK3 z0' z1 z2 z3 z4 HPast HGd HF3 HB3
   go_wp2_with fail
   refine wp_region_quiet_below (by kernel_rfl) (by kernel_rfl) ?_
   repeat (go_big_quiet_step (first
    | (go_at_call 15; (with_reducible exact Calls.regrown_of (HA.out _ _)))
    | (go_at_call 16; (with_reducible exact Calls.regrown_of (HBc.out _ _)))
    | (go_at_call 5; (with_reducible exact Calls.regrown_of (HW.out _)))))
   refine wpQuiet_nil ?_
   intro _ hw'
   obtain ⟨⟨dq, osq⟩, hw''⟩ := hw'
   subst hw''
   have HQ := Lib.hid (HB4.out.trans ((below_regrown w4 dq osq).mono hHs))
   dsimp only
   generalize Sort.grow (redrawn w4 dq) osq = wq at *
   clear X0 X1 HA HBc
   go_wp2
   go_ret
   exact ⟨rfl, HQ.out⟩
  ·try dsimp only at h1 h2 h3
   subst h1
   obtain ⟨rfl, rfl, rfl, -⟩ := Sh.mk.inj h3
   unfold GLo at h2
   try dsimp only at h2
   have z0' : w3.cell? ⟨B0, 0, none⟩ = some (.int .u8 5) := z0
   have HNw := Lib.hid (Lo.new_calls g (n' : Int) (k' : Int) (r' : Int) w3 HF3.out (by omega) (by omega))
   have HG2 := Lib.hid h2
   have HSs := Lib.hid hss
   clear HK z0 h3 h2 hss
   go_wp2_with fail
   refine HNw.out.mono ?_
   clear HNw
   rintro e w4 (⟨-, S, hok, -, hSn, hSk, hSr, -, rfl, hp4⟩ | ⟨hno, -, -⟩)
   rotate_left
   ·have h2 := HG2.out
    refine absurd ⟨by omega, by omega, Int.dvd_of_emod_eq_zero h2.2.2.2.1, Int.dvd_of_emod_eq_zero h2.2.2.1, by omega, by omega, Int.dvd_of_emod_eq_zero h2.2.2.2.2.2.2.1, HSs.out⟩ hno
   obtain ⟨b9, hb9⟩ : ∃ b9, S.T = b9 := ⟨_, rfl⟩
   have hsb : (k' : Int) + (k' : Int) / (r' : Int) - 1 = (b9 : Int) := by
    have e1 := hok.par.ek
    have r1 := hok.par.r1
    have e2 : S.k / S.r = S.q := by rw [e1]; exact Nat.mul_div_cancel _ (by omega)
    have e3 : ((k' : Int) / (r' : Int)) = (S.q : Int) := by rw [← hSk, ← hSr, ← e2]; rfl
    have e4 : S.q * (S.r + 1) = S.k + S.q := by rw [e1, Nat.mul_succ]
    have e5 := hok.par.nums
    rw [e3, ← hb9, ← hSk]
    unfold Lo.Lc.T
    rw [e4]
    omega
   obtain ⟨hB4, hK4, hS4⟩ := HPast.out w4 hp4
   have HB4 := Lib.hid hB4
   rw [hsb] at hS4
   have X1 := cell_regrown (show w4.cell? ⟨B1, 2, none⟩ = some (.int .i64 (b9 : Int)) from hS4.cell 2)
   have HTe : Hid (∀ d os, Calls Try.prog 18 #[.pointer (some ⟨S.b, 0, none⟩)] (Sort.grow (redrawn w4 d) os) fun e w' => e = .returned (.int .i64 (b9 : Nat)) ∧ Below (Sort.grow (redrawn w4 d) os).heap.size (Sort.grow (redrawn w4 d) os) w') := Lib.hid fun d os => (Lo.tells_calls (hok.below (below_regrown w4 d os))).mono fun _ _ ⟨he, hw⟩ => ⟨by rw [he, hb9], hw ▸ Below.refl _ _⟩
   have HTs : Hid (Calls Try.prog 18 #[.pointer (some ⟨S.b, 0, none⟩)] w4 fun e w' => e = .returned (.int .i64 (b9 : Nat)) ∧ w4 = w') := Lib.hid ((Lo.tells_calls hok).mono fun _ _ ⟨he, hw⟩ => ⟨by rw [he, hb9], hw⟩)
   have y2 : w4.cell? ⟨B1, 2, none⟩ = some (.int .i64 (b9 : Int)) := hS4.cell 2
   have hbb : (((b9 : Nat) : Int) == ((b9 : Nat) : Int)) = true := by simp
   have hHs := HB4.out.size
   clear hok hB4 hK4 hS4 hp4 hsb hb9 HS3 HK3 z0' z1 z2 z3 z4 HPast HF3 HB3
   clear y2 HTs
   go_wp2_with fail
   refine wp_region_quiet_below (by kernel_rfl) (by kernel_rfl) ?_
   repeat (go_big_quiet_step (first
    | (go_at_call 18; (with_reducible exact Calls.regrown_of (HTe.out _ _)))
    | (go_at_call 5; (with_reducible exact Calls.regrown_of (HW.out _)))))
   refine wpQuiet_nil ?_
   intro _ hw'
   obtain ⟨⟨dq, osq⟩, hw''⟩ := hw'
   subst hw''
   have HQ := Lib.hid (HB4.out.trans ((below_regrown w4 dq osq).mono hHs))
   dsimp only
   generalize Sort.grow (redrawn w4 dq) osq = wq at *
   clear X1 HTe
   go_wp2
   go_ret
   exact ⟨rfl, HQ.out⟩
end Go.Proofs.Ytjoghbmedfmioab.configMakes

namespace Go.Proofs.Ytjoghbmedfmioab.configMakes
open Go.ChangeShapes Go.WideShapes Go.ChangeAt Go.RowKit
open Go.ChangeMaps (open_string shut_string)
set_option linter.unusedVariables false
theorem own : ownKnob Try.prog.godebug = none := by kernel_rfl
theorem laidOut : laidOutB Try.prog = true := by kernel_rfl

set_option maxRecDepth 100000 in
theorem contract (H : Type) (enc : TypeId × Value → H) (W : World) (base : Nat) (args : Array Value) (ds gs : List (DataW H)) (before : List MemPlace)
  (hval : ∀ (j : Nat) t v, Try.f3.params[j]? = some t → args[j]? = some v → Value.okWide Try.prog W .any base t v)
  (hW : DataW.Whole enc Try.prog Try.f3.params.toList Rows.configMakesSpec.vars false W args.toList ds gs before)
  (hsz : (DataW.weightsEach Try.prog (Try.f3.params.toList ++ Rows.configMakesSpec.plain.varTypes Try.prog) (ds ++ gs)).all (· ≤ reachBytes) = true) :
  Calls Try.prog 3 args W fun e W' => ∃ v, e = .returned v ∧ Rows.configMakesSpec.post enc Try.prog Try.f3 false true false false W args v W' := by
 have hW' := hW
 obtain ⟨p, q, hA0, hV, rfl, hfz, hnd⟩ := hW
 have hA : DataW.TrodAll enc Try.prog W 0 (fun _ => true) true Try.f3.params.toList args.toList ds p := hA0
 rw [Try.params3] at hA hval hsz
 obtain ⟨v0, vs0, d0, ds0, p0, q0, hargs, rfl, rfl, h0, r0⟩ := trodAll_cons hA
 obtain ⟨rfl, rfl, rfl⟩ := trodAll_nil r0
 obtain rfl : args = #[v0] := by cases args; simp_all
 obtain ⟨rfl, rfl⟩ := trodVars_none hV
 have k0 := h0
 have lt0 : ∀ x ∈ p0, x.block < W.heap.size := by obtain ⟨m, hm⟩ := k0; exact DataW.trod_lt m _ _ _ hm
 obtain ⟨c0, hc0, rfl⟩ := Cf.open_config (hval 0 23 v0 rfl rfl) h0
 clear hA0
 refine (walk Poly.spec W c0 hc0 ).mono fun e W' ⟨he, bel⟩ => ?_
 subst he
 exact ⟨_, rfl, _, _, _, [], _, [], hW', trodAll_mk1 (shut_bool Try.underlying4 _), (trodAll_cons_mk (Below.trod laidOut (by kernel_rfl) (of_decide_eq_true (by kernel_rfl)) k0 bel lt0) trodAll_mk0), rfl, bel.frame _, fun h => by cases h⟩

set_option maxRecDepth 100000 in
theorem lifted (os : Os) (started : os.Started) (H : Type) (enc : TypeId × Value → H) :
  ReturnsInHanded {} Try.checked os 3 .any (Rows.configMakesSpec.pre6 enc Try.prog Try.f3 Rows.configMakesRow.domain false) (Rows.configMakesSpec.post enc Try.prog Try.f3 false true false false) := by
 refine returnsInHanded_of_change_sized (C := Try.checked) own started (by kernel_rfl) Try.func3
  (ChangeSpec.witness6 (enc := enc) (C := Try.checked) false ⟨#[], #[.agg #[.int .u8 0, .int .i64 0, .int .i64 0, .int .i64 0, .int .i64 0, .int .i64 0, .int .i64 0]], []⟩ 8 (by kernel_rfl) (by kernel_rfl) (by kernel_rfl) (by kernel_rfl)) ?_
 intro W base args ds gs before hval hW _ hsz _
 exact contract H enc W base args ds gs before hval hW hsz


theorem proved : Rows.ConfigMakesSaid :=
 OpenClaim.holds_of_wide 3 Try.f3 rfl rfl rfl rfl rfl rfl rfl ⟨rfl, rfl, rfl, rfl, rfl⟩ rfl rfl rfl rfl rfl (by kernel_rfl) Try.func3 (by kernel_rfl)
  (of_decide_eq_true (by kernel_rfl)) (by unfold Func.isWrapper; first | (rw [if_pos (by decide +kernel)]; kernel_rfl) | (rw [if_neg (by decide +kernel)]; exact ⟨rfl, rfl⟩))
  (fun os started H enc _ => lifted os started H enc)
end Go.Proofs.Ytjoghbmedfmioab.configMakes
