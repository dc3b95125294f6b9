/- Of the program, joined: PtVisit, PtList, PtGroup, PtOps, PtRef, TrRefA, TrRefB, TrRefC, ElSame, TrEncU. -/
import Derived.Test.YtimcmdnlhallmabPb03
import Derived.Test.YtimcmdnlhallmabPb04
import Derived.Test.YtimcmdnlhallmabPb01
import Derived.Test.YtimcmdnlhallmabPb10
import Derived.Test.YtimcmdnlhallmabPb07
import Derived.Deep.RegionHeld
namespace Go.Proofs.Ytimcmdnlhallmab.Pt
open Go.RowKit Go.Shelf Poly GF
attribute [local go_sem] Oper.semAt_some
theorem info_b : (Try.prog.info? 5).map (fun i => (i.zero, i.size, i.bytes)) = some (some (.int .u8 0), 1, 1) := by kernel_rfl
theorem info_i : (Try.prog.info? 3).map (fun i => (i.zero, i.size, i.bytes)) = some (some (.int .i64 0), 1, 8) := by kernel_rfl
end Go.Proofs.Ytimcmdnlhallmab.Pt

namespace Go.Proofs.Ytimcmdnlhallmab.Pt
open Go.RowKit Go.Shelf Poly GF
attribute [local go_sem] Oper.semAt_some
def pts (n : Nat) : List Nat := (List.range n).map gp
theorem pts_length (n : Nat) : (pts n).length = n := by simp [pts]
def ofR (n : Int) : List Nat × Int := if 0 ≤ n ∧ n ≤ 255 then (pts n.toNat, 0) else ([], 2)
end Go.Proofs.Ytimcmdnlhallmab.Pt

namespace Go.Proofs.Ytimcmdnlhallmab.Pt
open Go.RowKit Go.Shelf Poly GF
attribute [local go_sem] Oper.semAt_some
def RPts (w : World) (r : List Nat × Int) (e : Ending) (w' : World) : Prop :=
 ∃ v, e = .returned (.tuple #[v, .int .i64 r.2]) ∧ Own w' w.heap.size 5 v (bv r.1) ∧ Below w.heap.size w w'
theorem pts_take {m k : Nat} (hk : k < m) : bv ((pts m).take (k + 1)) = bv ((pts m).take k) ++ [.int .u8 (gp k : Nat)] := by
 have hl : k < (pts m).length := by rw [pts_length]; exact hk
 rw [take_succ' _ hl, bv_append]
 congr 1
 simp [bv, pts]
set_option maxRecDepth 100000 in
set_option maxHeartbeats 2000000 in
theorem refOf_calls (n : Int) (w : World) : Calls Try.prog 47 #[.int .i64 n] w (RPts w (ofR n)) := by
 by_cases h0 : n < 0
 ·have e1 : ofR n = ([], 2) := if_neg (by omega)
  rw [e1]
  go_enter Try.func47, Try.ntmps47
  go_wp2
  go_ret2
  exact ⟨_, rfl, Own.nil _ _ _, Below.refl _ _⟩
 by_cases h1 : 255 < n
 ·have e1 : ofR n = ([], 2) := if_neg (by omega)
  rw [e1]
  go_enter Try.func47, Try.ntmps47
  go_wp2
  go_ret2
  exact ⟨_, rfl, Own.nil _ _ _, Below.refl _ _⟩
 obtain ⟨m, rfl⟩ : ∃ m : Nat, n = (m : Int) := ⟨n.toNat, by omega⟩
 have e1 : ofR (m : Int) = (pts m, 0) := by
  unfold ofR
  rw [if_pos (by omega), Int.toNat_natCast]
 rw [e1]
 clear e1
 go_enter Try.func47, Try.ntmps47
 go_wp2
 go_loopw [4, 5] (fun v i wr => ∃ k : Nat, k ≤ m ∧ i = .int .i64 k ∧ Own wr w.heap.size 5 v (bv ((pts m).take k)) ∧ Below w.heap.size w wr) (fun _ i _ => m - (intOf i).toNat)
 case atStart => exact ⟨0, Nat.zero_le _, rfl, Own.nil _ _ _, Below.refl _ _⟩
 case round =>
  obtain ⟨k, hk, rfl, hO, hB⟩ := hrel
  have hsz := hB.size
  obtain ⟨A, c, rfl, _⟩ := hO.form
  have hlen : (bv ((pts m).take k)).length = k := by rw [bv_length, List.length_take, pts_length]; omega
  rw [hlen] at hO ⊢
  by_cases hkm : k < m
  ·have HT := Lib.hid (pts_take hkm)
   have HL := Lib.hid hlen
   clear hlen
   have HG : Hid (gpow 2 (k : Int) = gp k) := Lib.hid (by rw [gpow_two, ge_nat])
   go_wp2_with fail
   refine (refPow_calls 2 (by decide) (k : Int) (by omega) (by omega) _).mono ?_
   rintro e w1 ⟨rfl, rfl⟩
   rw [HG.out]
   go_wp2_with (at_builtin; refine wpList_app _ rfl _ _ 34 rfl w.heap.size 5 (.int .u8 0) 1 Try.underlying34 info_b rfl (by decide) _ _ rfl (hO.alloc _) _ 1 1 [.int .u8 (gp k : Nat)] rfl rfl (Row.new _ _ _ _) (by intro u hu; obtain rfl := List.mem_singleton.1 hu; rfl) (by rw [HL.out]; omega) (by simp; omega) ?_; rintro v2 w2 hO2 hgr hb)
   have hB2 := (hB.alloc hsz _).trans ((hO.alloc _).grew (by simp; omega) hgr)
   go_roundw
   case rel => exact ⟨k + 1, by omega, by go_num, by rw [HT.out]; exact hO2, hB2⟩
   case measure => simp [intOf]; omega
  ·obtain rfl : k = m := by omega
   have ht : (pts k).take k = pts k := List.take_of_length_le (by rw [pts_length]; exact Nat.le_refl _)
   rw [ht] at hO
   go_wp2
   go_ret2
   exact ⟨_, rfl, hO, hB⟩
end Go.Proofs.Ytimcmdnlhallmab.Pt

namespace Go.Proofs.Ytimcmdnlhallmab.Tr
open Go.RowKit Go.Shelf F8 Poly GF Rd Ms
attribute [local go_sem] Oper.semAt_some
set_option maxRecDepth 100000 in
set_option maxHeartbeats 4000000 in
theorem refEdge_calls {n : Nat} (k : Int) (hn : n < 24) (i j : Nat) (hi : i < n) (hj : j < n) (hij : i ≠ j) (w : World) :
  Calls Try.prog 32 #[.agg #[.int .i64 (n : Nat), .int .i64 k], .int .i64 (i : Nat), .int .i64 (j : Nat)] w fun e w' => e = .returned (.int .i64 (plc n i j : Nat)) ∧ Below w.heap.size w w' := by
 obtain ⟨w1, hw1⟩ : ∃ w1, w.alloc (.cells #[.int .i64 (n : Int), .int .i64 k] 29) = w1 := ⟨_, rfl⟩
 have hba : Below w.heap.size w w1 := by rw [← hw1]; exact (Below.refl _ _).alloc (Nat.le_refl _) _
 obtain ⟨c0, c1⟩ : C2 w.heap.size (n : Int) k w1 := by rw [← hw1]; exact C2.new w (n : Int) k
 have HBa := Lib.hid hba
 obtain ⟨a, ha⟩ : ∃ a, min i j = a := ⟨_, rfl⟩
 obtain ⟨b, hb⟩ : ∃ b, max i j = b := ⟨_, rfl⟩
 have hab : a < b := by omega
 have hbn : b < n := by omega
 have HX : Hid (plc n i j = rs n a + (b - a - 1)) := Lib.hid (by unfold plc pl; rw [ha, hb])
 obtain ⟨p, hp⟩ : ∃ p, plc n i j = p := ⟨_, rfl⟩
 rw [hp] at HX ⊢
 have hE : rs n n ≤ 255 := (edges_n n hn).2
 have HM : Hid (∀ q, q ≤ n → rs n q ≤ 255) := Lib.hid fun q hq => Nat.le_trans (rs_mono n hq) hE
 have hm : (i < j ∧ a = i ∧ b = j) ∨ (j < i ∧ a = j ∧ b = i) := by omega
 clear hba ha hb hp hE c1 hij
 rcases hm with ⟨hlt, rfl, rfl⟩ | ⟨hlt, rfl, rfl⟩
 all_goals
  have hnl := Nat.not_lt.2 (Nat.le_of_lt hlt)
  go_enter Try.func32, Try.ntmps32
  go_wp2
  go_loopw [7, 8] (fun cv iv wr => ∃ q : Nat, q ≤ a ∧ iv = .int .i64 q ∧ cv = .int .i64 (rs n q : Nat) ∧ w1 = wr) (fun _ iv _ => n - (intOf iv).toNat)
  case atStart => exact ⟨0, by omega, rfl, rfl, rfl⟩
  case round =>
   obtain ⟨q, hq, rfl, rfl, rfl⟩ := hrel
   have hqn : q < n := by omega
   have hd : decide (q < n) = true := by simpa using hqn
   obtain ⟨rq, hrq⟩ : ∃ rq, rs n q = rq := ⟨_, rfl⟩
   have hr9 : rq ≤ 255 := by rw [← hrq]; exact HM.out q (by omega)
   have HRq : Hid (rs n (q + 1) = rq + (n - 1 - q)) := Lib.hid (by rw [rs_succ, hrq])
   have HRe : Hid (q = a → p = rq + (b - a - 1)) := Lib.hid (fun e => by rw [← hrq, e]; exact HX.out)
   rw [hrq]
   clear hrq
   go_wp2
   go_loopw [7, 9] (fun cv kv wr => ∃ x : Nat, q + 1 ≤ x ∧ x ≤ n ∧ (q = a → x ≤ b) ∧ kv = .int .i64 x ∧ cv = .int .i64 ((rq + (x - q - 1) : Nat) : Int) ∧ w1 = wr) (fun _ kv _ => n - (intOf kv).toNat)
   case atStart => exact ⟨q + 1, Nat.le_refl _, by omega, by omega, by simp, by congr 1; omega, rfl⟩
   case round =>
    obtain ⟨x, hx, hxn, hxb, rfl, rfl, rfl⟩ := hrel
    obtain ⟨cn, hcn⟩ : ∃ cn, rq + (x - q - 1) = cn := ⟨_, rfl⟩
    rw [hcn]
    have hc9 : cn ≤ 300 := by omega
    have HCn : Hid (cn + 1 = rq + (x + 1 - q - 1)) := Lib.hid (by omega)
    have HCx : Hid (x = n → cn = rq + (n - 1 - q)) := Lib.hid (by omega)
    have HCe : Hid (q = a → x = b → cn = p) := Lib.hid (fun e1 e2 => by rw [HRe.out e1, ← hcn, e1, e2])
    clear hcn
    by_cases hxl : x < n
    ·by_cases hqa : q = a
     ·have e1 : ((q : Int) == (a : Int)) = true := by simp [hqa]
      by_cases hxe : x = b
      ·have e2 : ((x : Int) == (b : Int)) = true := by simp [hxe]
       have HF := Lib.hid (HCe.out hqa hxe)
       clear hqa hxe hxb
       go_wp2
       go_ret
       exact ⟨by rw [HF.out]; rfl, HBa.out⟩
      ·have e2 : ((x : Int) == (b : Int)) = false := by simp; omega
       have hxb2 := hxb hqa
       have hx1 : q = a → x + 1 ≤ b := fun _ => by omega
       clear hqa hxe hxb
       go_wp2
       go_roundw
       case rel => exact ⟨x + 1, by omega, by omega, hx1, by go_num, by rw [← HCn.out]; go_num, by first | rfl | trivial⟩
       case measure => simp [intOf]; omega
     ·have e1 : ((q : Int) == (a : Int)) = false := by simp; omega
      have hx1 : q = a → x + 1 ≤ b := fun e => absurd e hqa
      clear hqa hxb
      go_wp2
      go_roundw
      case rel => exact ⟨x + 1, by omega, by omega, hx1, by go_num, by rw [← HCn.out]; go_num, by first | rfl | trivial⟩
      case measure => simp [intOf]; omega
    ·have hxe : x = n := by omega
     have hqa : q ≠ a := fun e => by have := hxb e; omega
     have HF := Lib.hid (HCx.out hxe)
     have hxl2 : ¬ ((x : Int) < (n : Int)) := by omega
     clear hxe hxb
     go_wp2
     go_roundw
     case rel => exact ⟨q + 1, by omega, by go_num, by rw [HRq.out, HF.out], by first | rfl | trivial⟩
     case measure => simp [intOf]; omega
theorem ref_pts (m : Nat) : bv (Pt.pts m) = bv (bs (Rd.pts m)) := by simp [bv, bs, Pt.pts, Rd.pts]
set_option maxRecDepth 100000 in
set_option maxHeartbeats 2000000 in
theorem refPoints_calls {n : Nat} (k : Int) (hn : n < 24) (w : World) :
  Calls Try.prog 31 #[.agg #[.int .i64 (n : Nat), .int .i64 k]] w (ROwn w (pts (rs n n)) (rs n n)) := by
 obtain ⟨w1, hw1⟩ : ∃ w1, w.alloc (.cells #[.int .i64 (n : Int), .int .i64 k] 29) = w1 := ⟨_, rfl⟩
 have hba : Below w.heap.size w w1 := by rw [← hw1]; exact (Below.refl _ _).alloc (Nat.le_refl _) _
 obtain ⟨c0, -⟩ : C2 w.heap.size (n : Int) k w1 := by rw [← hw1]; exact C2.new w (n : Int) k
 have hE := edges_n n hn
 obtain ⟨E, hEd⟩ : ∃ E, rs n n = E := ⟨_, rfl⟩
 rw [hEd] at hE ⊢
 obtain ⟨u, hu⟩ : ∃ u : Nat, (n : Int) * ((n : Int) - 1) = (u : Int) := by
  rcases Nat.eq_zero_or_pos n with h0 | h0
  ·exact ⟨0, by rw [h0]; rfl⟩
  ·exact ⟨n * (n - 1), by rw [Int.natCast_mul, Int.natCast_sub (by omega)]; rfl⟩
 have hu9 : u ≤ 23 * 23 := by
  have : (n : Int) * ((n : Int) - 1) ≤ 23 * 23 := by
   rcases Nat.eq_zero_or_pos n with h0 | h0
   ·rw [h0]; decide
   ·exact Int.mul_le_mul (by omega) (by omega) (by omega) (by omega)
  omega
 have hw2 : IntKind.i64.wrap ((n : Int) - 1) = (n : Int) - 1 := IntWalk.i64_in _ (by omega)
 have hw3 : IntKind.i64.wrap ((n : Int) * ((n : Int) - 1)) = (u : Int) := by rw [hu]; exact IntWalk.i64_in _ (by omega)
 have huE : u / 2 = E := by
  rcases Nat.eq_zero_or_pos n with h0 | h0
  ·subst h0
   have h3 : ((0 : Nat) : Int) * (((0 : Nat) : Int) - 1) = 0 := by decide
   have h4 : u = 0 := by omega
   rw [h4, hE.1]
  ·have : ((n * (n - 1) : Nat) : Int) = (u : Int) := by rw [← hu, Int.natCast_mul, Int.natCast_sub (by omega)]; rfl
   have h2 : n * (n - 1) = u := by omega
   rw [hE.1, h2]
 have hw4 : IntKind.i64.wrap ((u : Int) / 2) = (E : Int) := by rw [show (u : Int) / 2 = (E : Int) by omega]; exact IntWalk.i64_in _ (by omega)
 have hOf := Pt.refOf_calls (E : Int) w1
 have e1 : Pt.ofR (E : Int) = (Pt.pts E, 0) := by
  unfold Pt.ofR
  rw [if_pos (by omega)]
  simp
 rw [e1] at hOf
 have HOf := Lib.hid hOf
 have HBa := Lib.hid hba
 have HPn := Lib.hid (ref_pts E)
 clear hba hOf e1 hE hEd hu huE
 go_enter Try.func31, Try.ntmps31
 go_wp2_with fail
 refine HOf.out.mono ?_
 rintro e w2 ⟨v, rfl, hO, hb⟩
 rw [HPn.out] at hO
 obtain ⟨A, c, rfl, hc⟩ := Own.shape hO
 rw [pts_length] at hc hO ⊢
 have HX : Hid (ROwn w (Rd.pts E) E (.returned (.slice A E c)) w2) := Lib.hid ⟨A, c, rfl, hc, hO.more HBa.out.size, HBa.out.trans (hb.mono HBa.out.size)⟩
 clear hO hb hc
 go_wp2
 go_ret
 exact HX.out
set_option maxRecDepth 100000 in
theorem refAlpha_calls {n : Nat} (k : Int) (hn : n < 24) (h0 : 0 < n) (w : World) :
  Calls Try.prog 35 #[.agg #[.int .i64 (n : Nat), .int .i64 k]] w fun e w' => e = .returned (.int .i64 (n - 1 : Nat)) ∧ Below w.heap.size w w' := by
 have hba : Below w.heap.size w (w.alloc (.cells #[.int .i64 (n : Int), .int .i64 k] 29)) := (Below.refl _ _).alloc (Nat.le_refl _) _
 obtain ⟨c0, -⟩ := C2.new w (n : Int) k
 have HBa := Lib.hid hba
 obtain ⟨a, ha⟩ : ∃ a, n - 1 = a := ⟨_, rfl⟩
 rw [ha]
 have hw2 : IntKind.i64.wrap ((n : Int) - 1) = (a : Int) := by rw [show (n : Int) - 1 = (a : Int) by omega]; exact IntWalk.i64_in _ (by omega)
 clear hba ha
 go_enter Try.func35, Try.ntmps35
 go_wp2
 go_ret
 exact ⟨rfl, HBa.out⟩
theorem refPlace_calls (i j : Nat) (hi : i < 1000) (hj : j < 1000) (w : World) : Calls Try.prog 36 #[.int .i64 (i : Nat), .int .i64 (j : Nat)] w fun e w' => e = .returned (.int .i64 (idx i j : Nat)) ∧ w = w' := by
 by_cases hij : j > i
 ·have e1 : idx i j = j - 1 := if_pos hij
  have hw : IntKind.i64.wrap ((j : Int) - 1) = ((j - 1 : Nat) : Int) := by rw [show ((j - 1 : Nat) : Int) = (j : Int) - 1 by omega]; exact IntWalk.i64_in _ (by omega)
  rw [e1]
  obtain ⟨z, hz⟩ : ∃ z, j - 1 = z := ⟨_, rfl⟩
  rw [hz] at hw ⊢
  clear hz e1
  go_enter Try.func36, Try.ntmps36
  go_wp2
  go_ret
  exact ⟨rfl, rfl⟩
 ·have e1 : idx i j = j := if_neg hij
  rw [e1]
  clear e1
  go_enter Try.func36, Try.ntmps36
  go_wp2
  go_ret
  exact ⟨rfl, rfl⟩
end Go.Proofs.Ytimcmdnlhallmab.Tr

namespace Go.Proofs.Ytimcmdnlhallmab.Tr
open Go.RowKit Go.Shelf F8 Poly GF Rd Ms
attribute [local go_sem] Oper.semAt_some
set_option maxRecDepth 100000 in
set_option maxHeartbeats 4000000 in
theorem refHelp_bad {n : Nat} (k : Int) (hn : n < 24) (h0 : 0 < n) (x y : Int) (A : Option Addr) (m c : Nat) (hno : ¬ HelpOk n x y m) (w : World) :
  Calls Try.prog 18 #[.agg #[.int .i64 (n : Nat), .int .i64 k], .int .i64 x, .int .i64 y, .slice A m c] w fun e w' => e = .returned (.tuple #[.int .u8 0, .int .i64 2]) ∧ Below w.heap.size w w' := by
 obtain ⟨w1, hw1⟩ : ∃ w1, w.alloc (.cells #[.int .i64 (n : Int), .int .i64 k] 29) = w1 := ⟨_, rfl⟩
 have hba : Below w.heap.size w w1 := by rw [← hw1]; exact (Below.refl _ _).alloc (Nat.le_refl _) _
 obtain ⟨c0, c1⟩ : C2 w.heap.size (n : Int) k w1 := by rw [← hw1]; exact C2.new w (n : Int) k
 have HBa := Lib.hid hba
 have HAl := Lib.hid fun W => refAlpha_calls k hn h0 W
 have hcase : x < 0 ∨ (0 ≤ x ∧ (n : Int) ≤ x) ∨ (0 ≤ x ∧ x < (n : Int) ∧ y < 0) ∨ (0 ≤ x ∧ x < (n : Int) ∧ 0 ≤ y ∧ (n : Int) ≤ y) ∨ (0 ≤ x ∧ x < (n : Int) ∧ 0 ≤ y ∧ y < (n : Int) ∧ x = y) ∨ (0 ≤ x ∧ x < (n : Int) ∧ 0 ≤ y ∧ y < (n : Int) ∧ x ≠ y ∧ m ≠ n - 1) := by
  have h1 : ¬ ((0 ≤ x ∧ x < (n : Int)) ∧ (0 ≤ y ∧ y < (n : Int)) ∧ x ≠ y ∧ m = n - 1) := hno
  omega
 clear hba hno
 rcases hcase with h1 | ⟨h1, h2⟩ | ⟨h1, h2, h3⟩ | ⟨h1, h2, h3, h4⟩ | ⟨h1, h2, h3, h4, h5⟩ | ⟨h1, h2, h3, h4, h5, h6⟩
 ·have f1 : decide (x < 0) = true := by simpa using h1
  go_enter Try.func18, Try.ntmps18
  go_wp2_with (go_at_call 35; (with_reducible refine (HAl.out _).mono ?_); rintro e w2 ⟨rfl, hb2⟩; have HB2 := Lib.hid (HBa.out.trans (hb2.mono HBa.out.size)); clear hb2)
  go_ret2
  exact ⟨rfl, HBa.out⟩
 ·have f1 : decide (x < 0) = false := by simp; omega
  have f2 : decide (x ≥ (n : Int)) = true := by simp; omega
  go_enter Try.func18, Try.ntmps18
  go_wp2_with (go_at_call 35; (with_reducible refine (HAl.out _).mono ?_); rintro e w2 ⟨rfl, hb2⟩; have HB2 := Lib.hid (HBa.out.trans (hb2.mono HBa.out.size)); clear hb2)
  go_ret2
  exact ⟨rfl, HBa.out⟩
 ·have f1 : decide (x < 0) = false := by simp; omega
  have f2 : decide (x ≥ (n : Int)) = false := by simp; omega
  have f3 : decide (y < 0) = true := by simp; omega
  go_enter Try.func18, Try.ntmps18
  go_wp2_with (go_at_call 35; (with_reducible refine (HAl.out _).mono ?_); rintro e w2 ⟨rfl, hb2⟩; have HB2 := Lib.hid (HBa.out.trans (hb2.mono HBa.out.size)); clear hb2)
  go_ret2
  exact ⟨rfl, HBa.out⟩
 ·have f1 : decide (x < 0) = false := by simp; omega
  have f2 : decide (x ≥ (n : Int)) = false := by simp; omega
  have f3 : decide (y < 0) = false := by simp; omega
  have f4 : decide (y ≥ (n : Int)) = true := by simp; omega
  go_enter Try.func18, Try.ntmps18
  go_wp2_with (go_at_call 35; (with_reducible refine (HAl.out _).mono ?_); rintro e w2 ⟨rfl, hb2⟩; have HB2 := Lib.hid (HBa.out.trans (hb2.mono HBa.out.size)); clear hb2)
  go_ret2
  exact ⟨rfl, HBa.out⟩
 ·have f1 : decide (x < 0) = false := by simp; omega
  have f2 : decide (x ≥ (n : Int)) = false := by simp; omega
  have f3 : decide (y < 0) = false := by simp; omega
  have f4 : decide (y ≥ (n : Int)) = false := by simp; omega
  have f5 : (x == y) = true := by simpa using h5
  clear h5
  go_enter Try.func18, Try.ntmps18
  go_wp2_with (go_at_call 35; (with_reducible refine (HAl.out _).mono ?_); rintro e w2 ⟨rfl, hb2⟩; have HB2 := Lib.hid (HBa.out.trans (hb2.mono HBa.out.size)); clear hb2)
  go_ret2
  exact ⟨rfl, HBa.out⟩
 ·have f1 : decide (x < 0) = false := by simp; omega
  have f2 : decide (x ≥ (n : Int)) = false := by simp; omega
  have f3 : decide (y < 0) = false := by simp; omega
  have f4 : decide (y ≥ (n : Int)) = false := by simp; omega
  have f5 : (x == y) = false := by simpa using h5
  have f6 : ((m : Int) != ((n - 1 : Nat) : Int)) = true := by simp; omega
  obtain ⟨a, ha⟩ : ∃ a, n - 1 = a := ⟨_, rfl⟩
  rw [ha] at f6 HAl
  clear h5 h6 ha
  go_enter Try.func18, Try.ntmps18
  go_wp2_with (go_at_call 35; (with_reducible refine (HAl.out _).mono ?_); rintro e w2 ⟨rfl, hb2⟩; have HB2 := Lib.hid (HBa.out.trans (hb2.mono HBa.out.size)); clear hb2)
  go_ret2
  exact ⟨rfl, HB2.out⟩
set_option maxRecDepth 100000 in
set_option maxHeartbeats 4000000 in
theorem refHelp_good {n : Nat} (k : Int) (hn : n < 24) (i j : Nat) (hi : i < n) (hj : j < n) (hij : j ≠ i) (A : Option Addr) (s : List F8) (m c : Nat) (hl : s.length = m) (hm : m = n - 1) (w : World) (hb : Bytes w A (bs s)) :
  Calls Try.prog 18 #[.agg #[.int .i64 (n : Nat), .int .i64 k], .int .i64 (i : Nat), .int .i64 (j : Nat), .slice A m c] w fun e w' => e = .returned (.tuple #[.int .u8 (coef s (idx i j)).n, .int .i64 0]) ∧ Below w.heap.size w w' := by
 obtain ⟨w1, hw1⟩ : ∃ w1, w.alloc (.cells #[.int .i64 (n : Int), .int .i64 k] 29) = w1 := ⟨_, rfl⟩
 have hba : Below w.heap.size w w1 := by rw [← hw1]; exact (Below.refl _ _).alloc (Nat.le_refl _) _
 obtain ⟨c0, c1⟩ : C2 w.heap.size (n : Int) k w1 := by rw [← hw1]; exact C2.new w (n : Int) k
 have HBa := Lib.hid hba
 have hAl := fun W => refAlpha_calls k hn (by omega : 0 < n) W
 rw [← hm] at hAl
 have HAl := Lib.hid hAl
 have hix := idx_lt hi hj hij
 rw [← hm, ← hl] at hix
 obtain ⟨b, off, rfl⟩ := where_ hb (by omega)
 obtain ⟨q, hq⟩ : ∃ q, idx i j = q := ⟨_, rfl⟩
 rw [hq] at hix ⊢
 obtain ⟨y, hy⟩ : ∃ y, coef s q = y := ⟨_, rfl⟩
 rw [hy]
 have HCell : Hid (∀ V, Below w.heap.size w V → V.cell? ⟨b, off + q, none⟩ = some (.int .u8 (y.n : Nat))) := Lib.hid fun V hV => by rw [← hy]; exact cellAt (hb.below hV) q hix
 have HI : Hid (∀ V, Calls Try.prog 36 #[.int .i64 (i : Nat), .int .i64 (j : Nat)] V fun e w' => e = .returned (.int .i64 (q : Nat)) ∧ V = w') := Lib.hid fun V => by
  have := refPlace_calls i j (by omega) (by omega) V
  rw [hq] at this
  exact this
 rw [hl] at hix
 have f1 : decide ((i : Int) < 0) = false := decide_eq_false (by omega)
 have f2 : decide ((i : Int) ≥ (n : Int)) = false := by simp; omega
 have f3 : decide ((j : Int) < 0) = false := decide_eq_false (by omega)
 have f4 : decide ((j : Int) ≥ (n : Int)) = false := by simp; omega
 have f5 : ((i : Int) == (j : Int)) = false := by simp; omega
 have f6 : ((m : Int) != (m : Int)) = false := by simp
 clear hba hAl hb hq hy hl hij
 go_enter Try.func18, Try.ntmps18
 go_wp2_with (first
  | (go_at_call 35; (with_reducible refine (HAl.out _).mono ?_); rintro e w2 ⟨rfl, hb2⟩; have HB2 := Lib.hid (HBa.out.trans (hb2.mono HBa.out.size)); clear hb2; have hcc := HCell.out _ HB2.out)
  | (go_at_call 36; (with_reducible refine (HI.out _).mono ?_); rintro e w9 ⟨rfl, rfl⟩))
 go_ret2
 exact ⟨rfl, HB2.out⟩
end Go.Proofs.Ytimcmdnlhallmab.Tr

namespace Go.Proofs.Ytimcmdnlhallmab.Tr
open Go.RowKit Go.Shelf F8 Poly GF Rd Ms
attribute [local go_sem] Oper.semAt_some
def rT (n : Nat) (wd : List F8) (j t : Nat) : List F8 := (plT n j t).map fun z => coef wd z.toNat
theorem rT_full (n : Nat) (wd : List F8) (j : Nat) : rT n wd j n = shr n wd j := by
 unfold rT shr
 rw [plT_full, List.map_map]
 rfl
theorem rT_skip (n : Nat) (wd : List F8) (j : Nat) : rT n wd j (j + 1) = rT n wd j j := by unfold rT; rw [plT_skip]
theorem rT_succ {n : Nat} (wd : List F8) {j t : Nat} (h : t ≠ j) : rT n wd j (t + 1) = rT n wd j t ++ [coef wd (plc n j t)] := by
 unfold rT; rw [plT_succ h, List.map_append]; rfl
theorem rT_length (n : Nat) (wd : List F8) (j t : Nat) : (rT n wd j t).length ≤ t := by unfold rT; rw [List.length_map]; exact plT_length _ _ _
def REncG (n : Nat) (q : List F8) (w : World) (e : Ending) (w' : World) : Prop :=
 ∃ A c l, e = .returned (.tuple #[.slice A n c, .int .i64 0]) ∧ n ≤ c ∧ OwnK 1 w' w.heap.size 34 (.slice A n c) n (cells1 l) ∧ LstO w' w.heap.size l ∧ l.map El.s = (List.range n).map (shr n (word q (pts (rs n n)))) ∧ Below w.heap.size w w'
set_option maxRecDepth 100000 in
set_option maxHeartbeats 2000000 in
theorem refEnc_bad {n k : Nat} (hn : n < 24) (hk : k < n) (B : Option Addr) (mn mc : Nat) (hne : mn ≠ rs n k) (w : World) :
  Calls Try.prog 16 #[.agg #[.int .i64 (n : Nat), .int .i64 (k : Nat)], .slice B mn mc] w fun e w' => e = .returned (.tuple #[.slice none 0 0, .int .i64 2]) ∧ Below w.heap.size w w' := by
 obtain ⟨w1, hw1⟩ : ∃ w1, w.alloc (.cells #[.int .i64 (n : Int), .int .i64 (k : Int)] 29) = w1 := ⟨_, rfl⟩
 have hba : Below w.heap.size w w1 := by rw [← hw1]; exact (Below.refl _ _).alloc (Nat.le_refl _) _
 obtain ⟨c0, c1⟩ : C2 w.heap.size (n : Int) (k : Int) w1 := by rw [← hw1]; exact C2.new w (n : Int) (k : Int)
 have HBa := Lib.hid hba
 have hB := fun W => refB_calls hn hk W
 obtain ⟨b, hb⟩ : ∃ b, rs n k = b := ⟨_, rfl⟩
 rw [hb] at hne hB
 have HB := Lib.hid hB
 have f1 : ((mn : Int) != (b : Int)) = true := by simp; omega
 clear hba hB hb hne
 go_enter Try.func16, Try.ntmps16
 go_wp2_with (go_at_call 13; (with_reducible refine (HB.out _).mono ?_); rintro e w2 ⟨rfl, hb2⟩; have HB2 := Lib.hid (HBa.out.trans (hb2.mono HBa.out.size)); clear hb2)
 go_ret2
 exact ⟨rfl, HB2.out⟩
set_option maxRecDepth 100000 in
set_option maxHeartbeats 8000000 in
theorem refEnc_good {n k : Nat} (hn : n < 24) (hk : k < n) (B : Option Addr) (q : List F8) (mn mc : Nat) (hl : q.length = mn) (he : mn = rs n k) (w : World) (hb : Bytes w B (bs q)) :
  Calls Try.prog 16 #[.agg #[.int .i64 (n : Nat), .int .i64 (k : Nat)], .slice B mn mc] w (REncG n q w) := by
 obtain ⟨w1, hw1⟩ : ∃ w1, w.alloc (.cells #[.int .i64 (n : Int), .int .i64 (k : Int)] 29) = w1 := ⟨_, rfl⟩
 have hba : Below w.heap.size w w1 := by rw [← hw1]; exact (Below.refl _ _).alloc (Nat.le_refl _) _
 have hc : C2 w.heap.size (n : Int) (k : Int) w1 := by rw [← hw1]; exact C2.new w (n : Int) (k : Int)
 have HBa := Lib.hid hba
 have HCa := Lib.hid hc
 obtain ⟨c0, c1⟩ := hc
 have hB := fun W => refB_calls hn hk W
 rw [← he] at hB
 have HB := Lib.hid hB
 obtain ⟨E, hE⟩ : ∃ E, rs n n = E := ⟨_, rfl⟩
 have hE9 : E ≤ 255 := by rw [← hE]; exact (edges_n n hn).2
 have hm9 : mn ≤ 255 := by rw [he]; have := rs_mono n (Nat.le_of_lt hk); omega
 have hPt := fun W => refPoints_calls (k : Int) hn W
 rw [hE] at hPt
 have HPt := Lib.hid hPt
 obtain ⟨wd, hwd⟩ : ∃ wd, word q (pts E) = wd := ⟨_, rfl⟩
 have HEn : Hid (∀ W A c, Bytes W A (bs (pts E)) → Below w.heap.size w W → Calls Try.prog 30 #[.slice A E c, .int .i64 mn, .slice B mn mc] W fun e w' => ∃ A' c', e = .returned (.tuple #[.slice A' E c', .int .i64 0]) ∧ E ≤ c' ∧ Own w' W.heap.size 5 (.slice A' E c') (bv (bs wd)) ∧ Below W.heap.size W w') := Lib.hid fun W A c hA hW => by
  refine (refEncode_calls A (pts E) E c mn B q mn mc W (pts_length E) hA (by omega) hl (hb.below hW) (by omega)).mono ?_
  rintro e w' ⟨A', c', rfl, h1, h2, h3⟩
  rw [show encR (pts E) mn q = (word q (pts E), 0) from if_pos hl, hwd] at h1 h2 ⊢
  have e1 : wd.length = E := by rw [← hwd, word_length, pts_length]
  rw [e1] at h1 h2 ⊢
  exact ⟨A', c', rfl, h1, h2, h3⟩
 have HWl : Hid (wd.length = E) := Lib.hid (by rw [← hwd, word_length, pts_length])
 have HWd : Hid (word q (pts (rs n n)) = wd) := Lib.hid (by rw [hE]; exact hwd)
 have HEd : Hid (∀ i j, i < n → j < n → i ≠ j → plc n i j < E) := Lib.hid fun i j h1 h2 h3 => by rw [← hE]; exact plc_lt h1 h2 h3
 have f1 : ((mn : Int) != (mn : Int)) = false := by simp
 clear hba hB hPt hwd hl hb hE he
 go_enter Try.func16, Try.ntmps16
 go_wp2_with (go_at_call 13; (with_reducible refine (HB.out _).mono ?_); rintro e w2 ⟨rfl, hb2⟩; have HB2 := Lib.hid (HBa.out.trans (hb2.mono HBa.out.size)); have HC2 := Lib.hid (C2.below HCa.out hb2); clear hb2)
 have HC := Lib.hid (C2.below HC2.out (Below.refl _ _).drew)
 have HW := Lib.hid (HB2.out.drew)
 have HP : Hid True := Lib.hid trivial
 clear HB2 HC2 HCa HBa c0 c1
 go_region_held (fun V => V.cell? ⟨w.heap.size, 0, none⟩ = some (.int .i64 (n : Int)) ∧ V.cell? ⟨w.heap.size, 1, none⟩ = some (.int .i64 (k : Int))) (with_reducible exact HC.out)
  ((first
   | (go_at_call 31; (with_reducible refine (HPt.out _).mono ?_); rintro e9 w9 ⟨A9, c9, rfl, hc9, hO9, hb9⟩; replace HP := Lib.hid (Own.bytes hO9); replace HC := Lib.hid (C2.below HC.out hb9); replace HW := Lib.hid (HW.out.trans (hb9.mono HW.out.size)); clear hO9 hb9 hc9)
   | (go_at_call 13; (with_reducible refine (HB.out _).mono ?_); rintro e9 w9 ⟨rfl, hb9⟩; (first | (replace HP := Lib.hid (HP.out.below hb9)) | skip); replace HC := Lib.hid (C2.below HC.out hb9); replace HW := Lib.hid (HW.out.trans (hb9.mono HW.out.size)); clear hb9)
   | (go_at_call 30; (with_reducible refine (HEn.out _ _ _ HP.out HW.out).mono ?_); rintro e9 w9 ⟨A9, c9, rfl, hc9, hO9, hb9⟩; have HO := Lib.hid (hO9.more HW.out.size); replace HC := Lib.hid (C2.below HC.out hb9); replace HW := Lib.hid (HW.out.trans (hb9.mono HW.out.size)); clear hO9 hb9)))
 all_goals
  obtain ⟨w2, hw2⟩ : ∃ w2, w9 = w2 := ⟨_, rfl⟩
  rw [hw2] at HO HC HW ⊢
  have HBy := Lib.hid (Own.bytes HO.out)
  have hs2 : w.heap.size ≤ w2.heap.size := HW.out.size
  obtain ⟨c0, c1⟩ := HC.out
  clear HP HPt HEn HB hw2 HO
  go_wp2_with fail
  go_loopw [8, 9] (fun ov jv wr => ∃ (j : Nat) (l : List El), j ≤ n ∧ jv = .int .i64 j ∧ Hid (OwnK 1 wr w2.heap.size 34 ov j (cells1 l)) ∧ Hid (LstO wr w2.heap.size l) ∧ Hid (l.map El.s = (List.range j).map (shr n wd)) ∧ Hid (Below w2.heap.size w2 wr)) (fun _ jv _ => n - (intOf jv).toNat)
  case atStart => exact ⟨0, [], by omega, rfl, Lib.hid (OwnK.nil _ _ _ _), Lib.hid (LstO.nil _ _), Lib.hid rfl, Lib.hid (Below.refl _ _)⟩
  case round =>
   clear c0 c1
   obtain ⟨j, l, hj, rfl, HO, HL, HS, HV⟩ := hrel
   obtain ⟨c0, c1⟩ := C2.below HC.out HV.out
   by_cases hjn : j < n
   ·have hd : decide (j < n) = true := by simpa using hjn
    obtain ⟨w3, hw3⟩ : ∃ w3, wr = w3 := ⟨_, rfl⟩
    rw [hw3] at HO HL HV c0 c1 ⊢
    have hs3 : w2.heap.size ≤ w3.heap.size := HV.out.size
    clear hw3
    go_wp2_with fail
    go_loopw [10, 11] (fun sv iv wr => ∃ t : Nat, t ≤ n ∧ iv = .int .i64 t ∧ Hid (Own wr w3.heap.size 5 sv (bv (bs (rT n wd j t)))) ∧ Hid (Below w3.heap.size w3 wr)) (fun _ iv _ => n - (intOf iv).toNat)
    case atStart => exact ⟨0, by omega, rfl, Lib.hid (Own.nil _ _ _), Lib.hid (Below.refl _ _)⟩
    case round =>
     clear c0 c1
     obtain ⟨t, ht, rfl, HOs, HVs⟩ := hrel
     have HV2 := Lib.hid (HV.out.trans (HVs.out.mono hs3))
     have hc2 := C2.below HC.out HV2.out
     have HC3 := Lib.hid hc2
     obtain ⟨c0, c1⟩ := hc2
     by_cases htn : t < n
     ·by_cases htj : t = j
      ·have f2 : ((t : Int) == (j : Int)) = true := by simp [htj]
       have hO2 := HOs.out
       rw [htj, ← rT_skip, ← htj] at hO2
       have e2 : rT n wd j (t + 1) = rT n wd j t := by rw [htj]; exact rT_skip _ _ _
       have hO3 := HOs.out
       rw [← e2] at hO3
       have HO3 := Lib.hid hO3
       clear hO2 hO3 e2 htj
       go_wp2
       go_roundw
       case rel => exact ⟨t + 1, by omega, by go_num, HO3, HVs⟩
       case measure => first | (simp [intOf]; done) | (simp [intOf]; omega)
      ·have f2 : ((t : Int) == (j : Int)) = false := by simp; omega
       have hEdge := refEdge_calls (n := n) (k : Int) hn t j htn hjn htj wr
       rw [plc_comm] at hEdge
       have hpE := HEd.out j t hjn htn (fun e => htj e.symm)
       have HE := Lib.hid (rT_succ (n := n) wd htj)
       have HN : Hid ((bv (bs (rT n wd j t))).length ≤ t) := Lib.hid (by rw [bvs_length]; exact rT_length _ _ _ _)
       obtain ⟨p, hp⟩ : ∃ p, plc n j t = p := ⟨_, rfl⟩
       rw [hp] at hEdge hpE HE
       have HEdge := Lib.hid hEdge
       obtain ⟨b2, o2, hA9⟩ := where_ HBy.out (by rw [HWl.out]; omega)
       subst hA9
       obtain ⟨y, hy⟩ : ∃ y, coef wd p = y := ⟨_, rfl⟩
       rw [hy] at HE
       have HCw : Hid (∀ V, Below w2.heap.size w2 V → V.cell? ⟨b2, o2 + p, none⟩ = some (.int .u8 (y.n : Nat))) := Lib.hid fun V hV => by rw [← hy]; exact cellAt (HBy.out.below hV) p (by rw [HWl.out]; exact hpE)
       have HX := Lib.hid (bvs_snoc (rT n wd j t) y)
       have hsz : w3.heap.size ≤ wr.heap.size := HVs.out.size
       clear hEdge hp hy htj
       go_wp2_with fail
       refine HEdge.out.mono ?_
       rintro e w5 ⟨rfl, hb5⟩
       have hcw := HCw.out w5 (HV2.out.trans (hb5.mono (Nat.le_trans hs3 hsz)))
       have HO5 := Lib.hid (HOs.out.below hb5)
       have HV5 := Lib.hid (HVs.out.trans (hb5.mono hsz))
       have hs5 : w3.heap.size ≤ w5.heap.size := HV5.out.size
       clear hb5 HEdge c0 c1
       go_wp2_with (at_builtin; refine wpList_app _ rfl _ _ _ rfl w3.heap.size 5 _ 1 Try.underlying34 info_u8 rfl (by omega) _ _ rfl (HO5.out.alloc _) (some ⟨w5.heap.size, 0, none⟩) 1 1 (bv [y.n]) rfl rfl (Row.new _ _ _ _) (bv_one _) (by have := HN.out; omega) (by simp; omega) ?_; rintro v2 w6 hown hg3 -)
       have hB6 := (HV5.out.alloc hs5 (.cells #[.int .u8 (y.n : Int)] 5)).trans ((HO5.out.alloc _).grew (by simp; omega) hg3)
       rw [← HX.out, ← HE.out] at hown
       have HO6 := Lib.hid hown
       have HV6 := Lib.hid hB6
       clear hown hg3 hB6
       go_wp2
       go_roundw
       case rel => exact ⟨t + 1, by omega, by go_num, HO6, HV6⟩
       case measure => first | (simp [intOf]; done) | (simp [intOf]; omega)
     ·have hown := HOs.out
      rw [show t = n by omega, rT_full] at hown
      obtain ⟨A4, c4, rfl, hc4⟩ := Own.shape hown
      have hsl : (shr n wd j).length = n - 1 := shr_length wd hjn
      rw [hsl] at hown hc4 ⊢
      obtain ⟨u, hu⟩ : ∃ u, n - 1 = u := ⟨_, rfl⟩
      rw [hu] at hown hc4 hsl ⊢
      obtain ⟨sv, hsv⟩ : ∃ sv, shr n wd j = sv := ⟨_, rfl⟩
      rw [hsv] at hown hsl
      have HOa := Lib.hid ((HO.out.below HVs.out).alloc (.cells #[.slice A4 u c4] 34))
      have HOb := Lib.hid hown
      have HLa := Lib.hid (HL.out.below HVs.out)
      have hszz : w3.heap.size ≤ wr.heap.size := HVs.out.size
      have htn' : ¬ ((t : Int) < (n : Int)) := by omega
      have HSl := Lib.hid hsl
      have HSv := Lib.hid hsv
      have HRw : Hid (Row (wr.alloc (.cells #[.slice A4 u c4] 34)) (some ⟨wr.heap.size, 0, none⟩) (cells1 [⟨0, A4, sv, c4⟩])) := Lib.hid (by
       have := Row.new wr #[.slice A4 u c4] 34 (0, 0)
       simp only [cells1, El.v, List.map_cons, List.map_nil, HSl.out]
       exact this)
      clear hown hsl hsv hu
      go_wp2_with (at_builtin; refine wpList_appK _ rfl 1 _ _ _ rfl w2.heap.size 34 _ 24 Try.underlying35 info_bs rfl (by omega) (by omega) _ _ _ rfl HOa.out ⟨wr.heap.size, 0, none⟩ 1 1 (cells1 [⟨0, A4, sv, c4⟩]) rfl rfl HRw.out (cells1_one _) (by omega) (by simp; omega) ?_; rintro v2 w5 hown hg3 -)
      have hs9 : w2.heap.size ≤ wr.heap.size := HV2.out.size
      have hba : Below wr.heap.size wr (wr.alloc (.cells #[.slice A4 u c4] 34)) := (Below.refl _ _).alloc (Nat.le_refl _) _
      have hl1 : LstO wr w2.heap.size (l ++ [⟨0, A4, sv, c4⟩]) := HLa.out.append (LstO.one (by
       show Own wr w2.heap.size 5 (.slice A4 sv.length c4) (bv (bs sv))
       rw [HSl.out]
       exact HOb.out.more (by omega)))
      have HL5 := Lib.hid ((hl1.below hba).grown HOa.out (by decide) hg3)
      have HV5 := Lib.hid ((HV2.out.alloc hs9 (.cells #[.slice A4 u c4] 34)).trans (HOa.out.grew (by simp; omega) hg3))
      rw [← cells1_append] at hown
      have HO5 := Lib.hid hown
      have HS5 : Hid ((l ++ [(⟨0, A4, sv, c4⟩ : El)]).map El.s = (List.range (j + 1)).map (shr n wd)) := Lib.hid (by rw [List.map_append, HS.out, List.range_succ, List.map_append, List.map_cons, List.map_nil, List.map_cons, List.map_nil, HSv.out])
      clear hown hg3 hba hl1
      go_wp2
      go_roundw
      case rel => exact ⟨j + 1, _, by omega, by go_num, HO5, HL5, HS5, HV5⟩
      case measure => first | (simp [intOf]; done) | (simp [intOf]; omega)
   ·have hO := HO.out
    have hS := HS.out
    rw [show j = n by omega] at hO hS
    obtain ⟨A5, c5, rfl, hc5, -, -⟩ := hO.shape
    have hjn' : ¬ ((j : Int) < (n : Int)) := by omega
    have hX : REncG n q w (.returned (.tuple #[.slice A5 n c5, .int .i64 0])) wr := ⟨A5, c5, l, rfl, hc5, hO.more hs2, HL.out.more hs2, by rw [HWd.out]; exact hS, HW.out.trans (HV.out.mono hs2)⟩
    have HX := Lib.hid hX
    clear hX hO hS HO HL HS
    go_wp2
    go_ret2
    exact HX.out
end Go.Proofs.Ytimcmdnlhallmab.Tr

namespace Go.Proofs.Ytimcmdnlhallmab.Ms
open Go.RowKit Go.Shelf F8 Poly GF Rd
attribute [local go_sem] Oper.semAt_some
set_option maxRecDepth 100000 in
set_option maxHeartbeats 4000000 in
theorem sameS_calls (g h : Nat) (A B : Option Addr) (l r : List El) (m c d : Nat) (w : World) (hl : l.length = m) (hm : m ≤ 1000) (hr : r.length = m) (he : l.map El.s = r.map El.s) (hA : Shs g w A l) (hB : Shs h w B r) :
  Calls Try.prog 19 #[.slice A m c, .slice B m d] w fun e w' => e = .returned (.bool true) ∧ Below w.heap.size w w' := by
 have HA := Lib.hid hA
 have HB := Lib.hid hB
 have HL := Lib.hid hl
 have HR := Lib.hid hr
 have HE := Lib.hid he
 have f1 : ((m : Int) != (m : Int)) = false := by simp
 clear hA hB hl hr he
 go_enter Try.func19, Try.ntmps19
 go_wp2
 go_loopw [5] (fun iv wr => ∃ i : Nat, i ≤ m ∧ iv = .int .i64 i ∧ Hid (Below w.heap.size w wr)) (fun iv _ => m - (intOf iv).toNat)
 case atStart => exact ⟨0, by omega, rfl, Lib.hid (Below.refl _ _)⟩
 case round =>
  obtain ⟨i, hi, rfl, HW⟩ := hrel
  by_cases him : i < m
  ·have hil : i < l.length := by rw [HL.out]; exact him
   have hir : i < r.length := by rw [HR.out]; exact him
   obtain ⟨b1, o1, hA1, hc1⟩ := cells1_at (HA.out.below HW.out).row hil
   obtain ⟨b2, o2, hA2, hc2⟩ := cells1_at (HB.out.below HW.out).row hir
   subst hA1 hA2
   have hy1 := ((HA.out.below HW.out).lst _ (List.getElem_mem hil)).1.by_
   have hy2 := ((HB.out.below HW.out).lst _ (List.getElem_mem hir)).1.by_
   have hs : (l[i]).s = (r[i]).s := by
    have := congrArg (fun L => L[i]?) HE.out
    simpa [hil, hir] using this
   obtain ⟨e1, he1⟩ : ∃ e, l[i] = e := ⟨_, rfl⟩
   obtain ⟨e2, he2⟩ : ∃ e, r[i] = e := ⟨_, rfl⟩
   rw [he1] at hc1 hy1 hs
   rw [he2] at hc2 hy2 hs
   obtain ⟨p1, A1, s1, d1⟩ := e1
   obtain ⟨p2, A2, s2, d2⟩ := e2
   obtain rfl : s1 = s2 := hs
   obtain ⟨n, hn⟩ : ∃ n, s1.length = n := ⟨_, rfl⟩
   replace hc1 : wr.cell? ⟨b1, o1 + i, none⟩ = some (.slice A1 n d1) := by rw [← hn]; exact hc1
   replace hc2 : wr.cell? ⟨b2, o2 + i, none⟩ = some (.slice A2 n d2) := by rw [← hn]; exact hc2
   replace hy1 : Bytes wr A1 (bs s1) := hy1
   replace hy2 : Bytes wr A2 (bs s1) := hy2
   have HV : Hid (wr.drew.cell? ⟨b1, o1 + i, none⟩ = some (.slice A1 n d1) ∧ wr.drew.cell? ⟨b2, o2 + i, none⟩ = some (.slice A2 n d2) ∧ (convert 34 9 (.slice A1 n d1)).run Try.prog wr.drew = .ok (.string (str (bs s1))) wr.drew ∧ (convert 34 9 (.slice A2 n d2)).run Try.prog wr.drew = .ok (.string (str (bs s1))) wr.drew) := Lib.hid ⟨hc1, hc2, conv_f hy1.drew n d1 hn, conv_f hy2.drew n d2 hn⟩
   have HW9 := Lib.hid HW.out.drew
   have hE : ((str (bs s1)).toList != (str (bs s1)).toList) = false := by simp
   clear hc1 hc2 hy1 hy2 hn he1 he2 HW
   go_wp2
   go_region_held (fun V => V.cell? ⟨b1, o1 + i, none⟩ = some (.slice A1 n d1) ∧ V.cell? ⟨b2, o2 + i, none⟩ = some (.slice A2 n d2) ∧ (convert 34 9 (.slice A1 n d1)).run Try.prog V = .ok (.string (str (bs s1))) V ∧ (convert 34 9 (.slice A2 n d2)).run Try.prog V = .ok (.string (str (bs s1))) V) (with_reducible exact HV.out) (fail)
   all_goals
    go_wp2
    go_roundw
    case rel => exact ⟨i + 1, by omega, by go_num, HW9⟩
    case measure => first | (simp [intOf]; done) | (simp [intOf]; omega)
  ·have him' : ¬ ((i : Int) < (m : Int)) := by omega
   go_wp2
   go_ret
   exact ⟨rfl, HW.out⟩
end Go.Proofs.Ytimcmdnlhallmab.Ms

namespace Go.Proofs.Ytimcmdnlhallmab.Tr
open Go.RowKit Go.Shelf F8 Poly GF Rd Ms
def encL (n k : Nat) (q : List F8) : List (List F8) := if q.length = rs n k then (List.range n).map (shr n (word q (pts (rs n n)))) else []
def encZ (n k : Nat) (q : List F8) : Int := if q.length = rs n k then 0 else 2
def EncU (g n k : Nat) (q : List F8) (L : Nat) (z : Int) (e : Ending) (w' : World) : Prop :=
 ∃ A c l, e = .returned (.tuple #[.slice A L c, .int .i64 z]) ∧ l.length = L ∧ Shs g w' A l ∧ l.map El.s = encL n k q
theorem encU (PS : Poly.Spec) {S : Tc} {w : World} (h : S.Ok w) (B : Option Addr) (q : List F8) (mn mc : Nat) (hl : q.length = mn) (hB : BF S.g w B q) (hc : mn ≤ mc) (hm9 : mn ≤ 1000) :
  Calls Try.prog 15 #[.pointer (some ⟨S.b, 0, none⟩), .slice B mn mc] w fun e w' => EncU S.g S.n S.k q (encL S.n S.k q).length (encZ S.n S.k q) e w' ∧ FldP w' (some ⟨S.g, 0, none⟩) ∧ Past w.heap.size S.g w w' := by
 by_cases hk : q.length = rs S.n S.k
 ·have e1 : encL S.n S.k q = (List.range S.n).map (shr S.n (word q (pts (rs S.n S.n)))) := if_pos hk
  have e2 : encZ S.n S.k q = 0 := if_pos hk
  refine (encode_good PS h B q mn mc hl (by rw [← hl]; exact hk) hB hc).mono ?_
  rintro e w' ⟨A, c, l, rfl, -, hO, hL, hs, hf, hp⟩
  have hll : l.length = S.n := by have := congrArg List.length hs; simpa using this
  refine ⟨⟨A, c, l, ?_, ?_, ⟨own_row (own1_of hO).1, hL.lst hf⟩, by rw [e1]; exact hs⟩, hf, hp⟩
  ·rw [e1, e2, List.length_map, List.length_range]
  ·rw [e1, List.length_map, List.length_range]; exact hll
 ·have e1 : encL S.n S.k q = [] := if_neg hk
  have e2 : encZ S.n S.k q = 2 := if_neg hk
  refine (encode_bad PS h B q mn mc hl (by rw [← hl]; exact hk) hB hc hm9).mono ?_
  rintro e w' ⟨rfl, hf, hp⟩
  exact ⟨⟨none, 0, [], by rw [e1, e2]; rfl, by rw [e1]; rfl, ⟨Row.nil _ _, Lst.nil _ _⟩, by rw [e1]; rfl⟩, hf, hp⟩
theorem refEncU {n k : Nat} (hn : n < 24) (hk : k < n) (g : Nat) (B : Option Addr) (q : List F8) (mn mc : Nat) (hl : q.length = mn) (w : World) (hb : Bytes w B (bs q)) (hf : FldP w (some ⟨g, 0, none⟩)) :
  Calls Try.prog 16 #[.agg #[.int .i64 (n : Nat), .int .i64 (k : Nat)], .slice B mn mc] w fun e w' => EncU g n k q (encL n k q).length (encZ n k q) e w' ∧ Below w.heap.size w w' := by
 by_cases he : q.length = rs n k
 ·have e1 : encL n k q = (List.range n).map (shr n (word q (pts (rs n n)))) := if_pos he
  have e2 : encZ n k q = 0 := if_pos he
  refine (refEnc_good hn hk B q mn mc hl (by rw [← hl]; exact he) w hb).mono ?_
  rintro e w' ⟨A, c, l, rfl, -, hO, hL, hs, hp⟩
  have hll : l.length = n := by have := congrArg List.length hs; simpa using this
  refine ⟨⟨A, c, l, ?_, ?_, ⟨own_row (own1_of hO).1, hL.lst (hf.below hp)⟩, by rw [e1]; exact hs⟩, hp⟩
  ·rw [e1, e2, List.length_map, List.length_range]
  ·rw [e1, List.length_map, List.length_range]; exact hll
 ·have e1 : encL n k q = [] := if_neg he
  have e2 : encZ n k q = 2 := if_neg he
  refine (refEnc_bad hn hk B mn mc (by rw [← hl]; exact he) w).mono ?_
  rintro e w' ⟨rfl, hp⟩
  exact ⟨⟨none, 0, [], by rw [e1, e2]; rfl, by rw [e1]; rfl, ⟨Row.nil _ _, Lst.nil _ _⟩, by rw [e1]; rfl⟩, hp⟩
def helpV (n : Nat) (x y : Int) (s : List F8) : Nat := if HelpOk n x y s.length then (coef s (idx x.toNat y.toNat)).n else 0
def helpZ (n : Nat) (x y : Int) (s : List F8) : Int := if HelpOk n x y s.length then 0 else 2
theorem helpU {S : Tc} {w : World} (h : S.Ok w) (x y : Int) (A : Option Addr) (s : List F8) (m c : Nat) (hl : s.length = m) (hb : Bytes w A (bs s)) :
  Calls Try.prog 17 #[.pointer (some ⟨S.b, 0, none⟩), .int .i64 x, .int .i64 y, .slice A m c] w fun e w' => e = .returned (.tuple #[.int .u8 (helpV S.n x y s : Nat), .int .i64 (helpZ S.n x y s)]) ∧ w = w' := by
 subst hl
 by_cases hk : HelpOk S.n x y s.length
 ·have e1 : helpV S.n x y s = (coef s (idx x.toNat y.toNat)).n := if_pos hk
  have e2 : helpZ S.n x y s = 0 := if_pos hk
  obtain ⟨⟨h1, h2⟩, ⟨h3, h4⟩, h5, h6⟩ := hk
  obtain ⟨i, rfl⟩ : ∃ i : Nat, x = (i : Int) := ⟨x.toNat, by omega⟩
  obtain ⟨j, rfl⟩ : ∃ j : Nat, y = (j : Int) := ⟨y.toNat, by omega⟩
  rw [e1, e2]
  exact help_good h i j (by omega) (by omega) (by omega) A s _ c rfl h6 hb
 ·have e1 : helpV S.n x y s = 0 := if_neg hk
  have e2 : helpZ S.n x y s = 2 := if_neg hk
  rw [e1, e2]
  exact help_bad h x y A _ c hk
theorem refHelpU {n : Nat} (k : Int) (hn : n < 24) (h0 : 0 < n) (x y : Int) (A : Option Addr) (s : List F8) (m c : Nat) (hl : s.length = m) (w : World) (hb : Bytes w A (bs s)) :
  Calls Try.prog 18 #[.agg #[.int .i64 (n : Nat), .int .i64 k], .int .i64 x, .int .i64 y, .slice A m c] w fun e w' => e = .returned (.tuple #[.int .u8 (helpV n x y s : Nat), .int .i64 (helpZ n x y s)]) ∧ Below w.heap.size w w' := by
 subst hl
 by_cases hk : HelpOk n x y s.length
 ·have e1 : helpV n x y s = (coef s (idx x.toNat y.toNat)).n := if_pos hk
  have e2 : helpZ n x y s = 0 := if_pos hk
  obtain ⟨⟨h1, h2⟩, ⟨h3, h4⟩, h5, h6⟩ := hk
  obtain ⟨i, rfl⟩ : ∃ i : Nat, x = (i : Int) := ⟨x.toNat, by omega⟩
  obtain ⟨j, rfl⟩ : ∃ j : Nat, y = (j : Int) := ⟨y.toNat, by omega⟩
  rw [e1, e2]
  exact refHelp_good k hn i j (by omega) (by omega) (by omega) A s _ c rfl h6 w hb
 ·have e1 : helpV n x y s = 0 := if_neg hk
  have e2 : helpZ n x y s = 2 := if_neg hk
  rw [e1, e2]
  exact refHelp_bad k hn h0 x y A _ c hk w
end Go.Proofs.Ytimcmdnlhallmab.Tr
