/- Of the program, joined: PtVisit, PtList, PtGroup, PtOps, PtRef, TrRefA, TrRefB, TrRefC, ElSame, TrEncU, TrFew, WlMath, WlMath2, MatMath, WlLoc, TrRep, LoRows. -/
import Derived.Test.YtjoghbmedfmioabGreatPt03
import Derived.Test.YtjoghbmedfmioabGreatPt05
import Derived.Test.YtjoghbmedfmioabGreatPt04
import Derived.Test.YtjoghbmedfmioabGreatPt01
import Derived.Test.YtjoghbmedfmioabGreatPt11
import Derived.Test.YtjoghbmedfmioabGreatPt08
import Derived.Deep.RegionHeld
import Derived.Test.YtjoghbmedfmioabGreatPt09
import Derived.BigQuiet
import Derived.Lib.QuietBelow
namespace Go.Proofs.YtjoghbmedfmioabGreat.Pt
open Go.RowKit Go.Shelf Poly GF
attribute [local go_sem] Oper.semAt_some
theorem info_b : (Tryz.prog.info? 5).map (fun i => (i.zero, i.size, i.bytes)) = some (some (.int .u8 0), 1, 1) := by kernel_rfl
end Go.Proofs.YtjoghbmedfmioabGreat.Pt

namespace Go.Proofs.YtjoghbmedfmioabGreat.Pt
open Go.RowKit Go.Shelf Poly GF
attribute [local go_sem] Oper.semAt_some
def pts (n : Nat) : List Nat := (List.range n).map gp
theorem pts_length (n : Nat) : (pts n).length = n := by simp [pts]
def ofR (n : Int) : List Nat × Int := if 0 ≤ n ∧ n ≤ 255 then (pts n.toNat, 0) else ([], 2)
end Go.Proofs.YtjoghbmedfmioabGreat.Pt

namespace Go.Proofs.YtjoghbmedfmioabGreat.Pt
open Go.RowKit Go.Shelf Poly GF
attribute [local go_sem] Oper.semAt_some
def RPts (w : World) (r : List Nat × Int) (e : Ending) (w' : World) : Prop :=
 ∃ v, e = .returned (.tuple #[v, .int .i64 r.2]) ∧ Own w' w.heap.size 5 v (bv r.1) ∧ Below w.heap.size w w'
theorem pts_take {m k : Nat} (hk : k < m) : bv ((pts m).take (k + 1)) = bv ((pts m).take k) ++ [.int .u8 (gp k : Nat)] := by
 have hl : k < (pts m).length := by rw [pts_length]; exact hk
 rw [take_succ' _ hl, bv_append]
 congr 1
 simp [bv, pts]
set_option maxRecDepth 100000 in
set_option maxHeartbeats 2000000 in
theorem refOf_calls (n : Int) (w : World) : Calls Tryz.prog 65 #[.int .i64 n] w (RPts w (ofR n)) := by
 by_cases h0 : n < 0
 ·have e1 : ofR n = ([], 2) := if_neg (by omega)
  rw [e1]
  go_enter Tryz.func65, Tryz.ntmps65
  go_wp2
  go_ret2
  exact ⟨_, rfl, Own.nil _ _ _, Below.refl _ _⟩
 by_cases h1 : 255 < n
 ·have e1 : ofR n = ([], 2) := if_neg (by omega)
  rw [e1]
  go_enter Tryz.func65, Tryz.ntmps65
  go_wp2
  go_ret2
  exact ⟨_, rfl, Own.nil _ _ _, Below.refl _ _⟩
 obtain ⟨m, rfl⟩ : ∃ m : Nat, n = (m : Int) := ⟨n.toNat, by omega⟩
 have e1 : ofR (m : Int) = (pts m, 0) := by
  unfold ofR
  rw [if_pos (by omega), Int.toNat_natCast]
 rw [e1]
 clear e1
 go_enter Tryz.func65, Tryz.ntmps65
 go_wp2
 go_loopw [4, 5] (fun v i wr => ∃ k : Nat, k ≤ m ∧ i = .int .i64 k ∧ Own wr w.heap.size 5 v (bv ((pts m).take k)) ∧ Below w.heap.size w wr) (fun _ i _ => m - (intOf i).toNat)
 case atStart => exact ⟨0, Nat.zero_le _, rfl, Own.nil _ _ _, Below.refl _ _⟩
 case round =>
  obtain ⟨k, hk, rfl, hO, hB⟩ := hrel
  have hsz := hB.size
  obtain ⟨A, c, rfl, _⟩ := hO.form
  have hlen : (bv ((pts m).take k)).length = k := by rw [bv_length, List.length_take, pts_length]; omega
  rw [hlen] at hO ⊢
  by_cases hkm : k < m
  ·have HT := Lib.hid (pts_take hkm)
   have HL := Lib.hid hlen
   clear hlen
   have HG : Hid (gpow 2 (k : Int) = gp k) := Lib.hid (by rw [gpow_two, ge_nat])
   go_wp2_with fail
   refine (refPow_calls 2 (by decide) (k : Int) (by omega) (by omega) _).mono ?_
   rintro e w1 ⟨rfl, rfl⟩
   rw [HG.out]
   go_wp2_with (at_builtin; refine wpList_app _ rfl _ _ 35 rfl w.heap.size 5 (.int .u8 0) 1 Tryz.underlying35 info_b rfl (by decide) _ _ rfl (hO.alloc _) _ 1 1 [.int .u8 (gp k : Nat)] rfl rfl (Row.new _ _ _ _) (by intro u hu; obtain rfl := List.mem_singleton.1 hu; rfl) (by rw [HL.out]; omega) (by simp; omega) ?_; rintro v2 w2 hO2 hgr hb)
   have hB2 := (hB.alloc hsz _).trans ((hO.alloc _).grew (by simp; omega) hgr)
   go_roundw
   case rel => exact ⟨k + 1, by omega, by go_num, by rw [HT.out]; exact hO2, hB2⟩
   case measure => simp [intOf]; omega
  ·obtain rfl : k = m := by omega
   have ht : (pts k).take k = pts k := List.take_of_length_le (by rw [pts_length]; exact Nat.le_refl _)
   rw [ht] at hO
   go_wp2
   go_ret2
   exact ⟨_, rfl, hO, hB⟩
end Go.Proofs.YtjoghbmedfmioabGreat.Pt

namespace Go.Proofs.YtjoghbmedfmioabGreat.Tr
open Go.RowKit Go.Shelf F8 Poly GF Rd Ms
attribute [local go_sem] Oper.semAt_some
set_option maxRecDepth 100000 in
set_option maxHeartbeats 4000000 in
theorem refEdge_calls {n : Nat} (k : Int) (hn : n < 24) (i j : Nat) (hi : i < n) (hj : j < n) (hij : i ≠ j) (w : World) :
  Calls Tryz.prog 37 #[.agg #[.int .i64 (n : Nat), .int .i64 k], .int .i64 (i : Nat), .int .i64 (j : Nat)] w fun e w' => e = .returned (.int .i64 (plc n i j : Nat)) ∧ Below w.heap.size w w' := by
 obtain ⟨w1, hw1⟩ : ∃ w1, w.alloc (.cells #[.int .i64 (n : Int), .int .i64 k] 33) = w1 := ⟨_, rfl⟩
 have hba : Below w.heap.size w w1 := by rw [← hw1]; exact (Below.refl _ _).alloc (Nat.le_refl _) _
 obtain ⟨c0, c1⟩ : C2 w.heap.size (n : Int) k w1 := by rw [← hw1]; exact C2.new w (n : Int) k
 have HBa := Lib.hid hba
 obtain ⟨a, ha⟩ : ∃ a, min i j = a := ⟨_, rfl⟩
 obtain ⟨b, hb⟩ : ∃ b, max i j = b := ⟨_, rfl⟩
 have hab : a < b := by omega
 have hbn : b < n := by omega
 have HX : Hid (plc n i j = rs n a + (b - a - 1)) := Lib.hid (by unfold plc pl; rw [ha, hb])
 obtain ⟨p, hp⟩ : ∃ p, plc n i j = p := ⟨_, rfl⟩
 rw [hp] at HX ⊢
 have hE : rs n n ≤ 255 := (edges_n n hn).2
 have HM : Hid (∀ q, q ≤ n → rs n q ≤ 255) := Lib.hid fun q hq => Nat.le_trans (rs_mono n hq) hE
 have hm : (i < j ∧ a = i ∧ b = j) ∨ (j < i ∧ a = j ∧ b = i) := by omega
 clear hba ha hb hp hE c1 hij
 rcases hm with ⟨hlt, rfl, rfl⟩ | ⟨hlt, rfl, rfl⟩
 all_goals
  have hnl := Nat.not_lt.2 (Nat.le_of_lt hlt)
  go_enter Tryz.func37, Tryz.ntmps37
  go_wp2
  go_loopw [7, 8] (fun cv iv wr => ∃ q : Nat, q ≤ a ∧ iv = .int .i64 q ∧ cv = .int .i64 (rs n q : Nat) ∧ w1 = wr) (fun _ iv _ => n - (intOf iv).toNat)
  case atStart => exact ⟨0, by omega, rfl, rfl, rfl⟩
  case round =>
   obtain ⟨q, hq, rfl, rfl, rfl⟩ := hrel
   have hqn : q < n := by omega
   have hd : decide (q < n) = true := by simpa using hqn
   obtain ⟨rq, hrq⟩ : ∃ rq, rs n q = rq := ⟨_, rfl⟩
   have hr9 : rq ≤ 255 := by rw [← hrq]; exact HM.out q (by omega)
   have HRq : Hid (rs n (q + 1) = rq + (n - 1 - q)) := Lib.hid (by rw [rs_succ, hrq])
   have HRe : Hid (q = a → p = rq + (b - a - 1)) := Lib.hid (fun e => by rw [← hrq, e]; exact HX.out)
   rw [hrq]
   clear hrq
   go_wp2
   go_loopw [7, 9] (fun cv kv wr => ∃ x : Nat, q + 1 ≤ x ∧ x ≤ n ∧ (q = a → x ≤ b) ∧ kv = .int .i64 x ∧ cv = .int .i64 ((rq + (x - q - 1) : Nat) : Int) ∧ w1 = wr) (fun _ kv _ => n - (intOf kv).toNat)
   case atStart => exact ⟨q + 1, Nat.le_refl _, by omega, by omega, by simp, by congr 1; omega, rfl⟩
   case round =>
    obtain ⟨x, hx, hxn, hxb, rfl, rfl, rfl⟩ := hrel
    obtain ⟨cn, hcn⟩ : ∃ cn, rq + (x - q - 1) = cn := ⟨_, rfl⟩
    rw [hcn]
    have hc9 : cn ≤ 300 := by omega
    have HCn : Hid (cn + 1 = rq + (x + 1 - q - 1)) := Lib.hid (by omega)
    have HCx : Hid (x = n → cn = rq + (n - 1 - q)) := Lib.hid (by omega)
    have HCe : Hid (q = a → x = b → cn = p) := Lib.hid (fun e1 e2 => by rw [HRe.out e1, ← hcn, e1, e2])
    clear hcn
    by_cases hxl : x < n
    ·by_cases hqa : q = a
     ·have e1 : ((q : Int) == (a : Int)) = true := by simp [hqa]
      by_cases hxe : x = b
      ·have e2 : ((x : Int) == (b : Int)) = true := by simp [hxe]
       have HF := Lib.hid (HCe.out hqa hxe)
       clear hqa hxe hxb
       go_wp2
       go_ret
       exact ⟨by rw [HF.out]; rfl, HBa.out⟩
      ·have e2 : ((x : Int) == (b : Int)) = false := by simp; omega
       have hxb2 := hxb hqa
       have hx1 : q = a → x + 1 ≤ b := fun _ => by omega
       clear hqa hxe hxb
       go_wp2
       go_roundw
       case rel => exact ⟨x + 1, by omega, by omega, hx1, by go_num, by rw [← HCn.out]; go_num, by first | rfl | trivial⟩
       case measure => simp [intOf]; omega
     ·have e1 : ((q : Int) == (a : Int)) = false := by simp; omega
      have hx1 : q = a → x + 1 ≤ b := fun e => absurd e hqa
      clear hqa hxb
      go_wp2
      go_roundw
      case rel => exact ⟨x + 1, by omega, by omega, hx1, by go_num, by rw [← HCn.out]; go_num, by first | rfl | trivial⟩
      case measure => simp [intOf]; omega
    ·have hxe : x = n := by omega
     have hqa : q ≠ a := fun e => by have := hxb e; omega
     have HF := Lib.hid (HCx.out hxe)
     have hxl2 : ¬ ((x : Int) < (n : Int)) := by omega
     clear hxe hxb
     go_wp2
     go_roundw
     case rel => exact ⟨q + 1, by omega, by go_num, by rw [HRq.out, HF.out], by first | rfl | trivial⟩
     case measure => simp [intOf]; omega
theorem ref_pts (m : Nat) : bv (Pt.pts m) = bv (bs (Rd.pts m)) := by simp [bv, bs, Pt.pts, Rd.pts]
set_option maxRecDepth 100000 in
set_option maxHeartbeats 2000000 in
theorem refPoints_calls {n : Nat} (k : Int) (hn : n < 24) (w : World) :
  Calls Tryz.prog 40 #[.agg #[.int .i64 (n : Nat), .int .i64 k]] w (ROwn w (pts (rs n n)) (rs n n)) := by
 obtain ⟨w1, hw1⟩ : ∃ w1, w.alloc (.cells #[.int .i64 (n : Int), .int .i64 k] 33) = w1 := ⟨_, rfl⟩
 have hba : Below w.heap.size w w1 := by rw [← hw1]; exact (Below.refl _ _).alloc (Nat.le_refl _) _
 obtain ⟨c0, -⟩ : C2 w.heap.size (n : Int) k w1 := by rw [← hw1]; exact C2.new w (n : Int) k
 have hE := edges_n n hn
 obtain ⟨E, hEd⟩ : ∃ E, rs n n = E := ⟨_, rfl⟩
 rw [hEd] at hE ⊢
 obtain ⟨u, hu⟩ : ∃ u : Nat, (n : Int) * ((n : Int) - 1) = (u : Int) := by
  rcases Nat.eq_zero_or_pos n with h0 | h0
  ·exact ⟨0, by rw [h0]; rfl⟩
  ·exact ⟨n * (n - 1), by rw [Int.natCast_mul, Int.natCast_sub (by omega)]; rfl⟩
 have hu9 : u ≤ 23 * 23 := by
  have : (n : Int) * ((n : Int) - 1) ≤ 23 * 23 := by
   rcases Nat.eq_zero_or_pos n with h0 | h0
   ·rw [h0]; decide
   ·exact Int.mul_le_mul (by omega) (by omega) (by omega) (by omega)
  omega
 have hw2 : IntKind.i64.wrap ((n : Int) - 1) = (n : Int) - 1 := IntWalk.i64_in _ (by omega)
 have hw3 : IntKind.i64.wrap ((n : Int) * ((n : Int) - 1)) = (u : Int) := by rw [hu]; exact IntWalk.i64_in _ (by omega)
 have huE : u / 2 = E := by
  rcases Nat.eq_zero_or_pos n with h0 | h0
  ·subst h0
   have h3 : ((0 : Nat) : Int) * (((0 : Nat) : Int) - 1) = 0 := by decide
   have h4 : u = 0 := by omega
   rw [h4, hE.1]
  ·have : ((n * (n - 1) : Nat) : Int) = (u : Int) := by rw [← hu, Int.natCast_mul, Int.natCast_sub (by omega)]; rfl
   have h2 : n * (n - 1) = u := by omega
   rw [hE.1, h2]
 have hw4 : IntKind.i64.wrap ((u : Int) / 2) = (E : Int) := by rw [show (u : Int) / 2 = (E : Int) by omega]; exact IntWalk.i64_in _ (by omega)
 have hOf := Pt.refOf_calls (E : Int) w1
 have e1 : Pt.ofR (E : Int) = (Pt.pts E, 0) := by
  unfold Pt.ofR
  rw [if_pos (by omega)]
  simp
 rw [e1] at hOf
 have HOf := Lib.hid hOf
 have HBa := Lib.hid hba
 have HPn := Lib.hid (ref_pts E)
 clear hba hOf e1 hE hEd hu huE
 go_enter Tryz.func40, Tryz.ntmps40
 go_wp2_with fail
 refine HOf.out.mono ?_
 rintro e w2 ⟨v, rfl, hO, hb⟩
 rw [HPn.out] at hO
 obtain ⟨A, c, rfl, hc⟩ := Own.shape hO
 rw [pts_length] at hc hO ⊢
 have HX : Hid (ROwn w (Rd.pts E) E (.returned (.slice A E c)) w2) := Lib.hid ⟨A, c, rfl, hc, hO.more HBa.out.size, HBa.out.trans (hb.mono HBa.out.size)⟩
 clear hO hb hc
 go_wp2
 go_ret
 exact HX.out
set_option maxRecDepth 100000 in
theorem refAlpha_calls {n : Nat} (k : Int) (hn : n < 24) (h0 : 0 < n) (w : World) :
  Calls Tryz.prog 36 #[.agg #[.int .i64 (n : Nat), .int .i64 k]] w fun e w' => e = .returned (.int .i64 (n - 1 : Nat)) ∧ Below w.heap.size w w' := by
 have hba : Below w.heap.size w (w.alloc (.cells #[.int .i64 (n : Int), .int .i64 k] 33)) := (Below.refl _ _).alloc (Nat.le_refl _) _
 obtain ⟨c0, -⟩ := C2.new w (n : Int) k
 have HBa := Lib.hid hba
 obtain ⟨a, ha⟩ : ∃ a, n - 1 = a := ⟨_, rfl⟩
 rw [ha]
 have hw2 : IntKind.i64.wrap ((n : Int) - 1) = (a : Int) := by rw [show (n : Int) - 1 = (a : Int) by omega]; exact IntWalk.i64_in _ (by omega)
 clear hba ha
 go_enter Tryz.func36, Tryz.ntmps36
 go_wp2
 go_ret
 exact ⟨rfl, HBa.out⟩
theorem refPlace_calls (i j : Nat) (hi : i < 1000) (hj : j < 1000) (w : World) : Calls Tryz.prog 38 #[.int .i64 (i : Nat), .int .i64 (j : Nat)] w fun e w' => e = .returned (.int .i64 (idx i j : Nat)) ∧ w = w' := by
 by_cases hij : j > i
 ·have e1 : idx i j = j - 1 := if_pos hij
  have hw : IntKind.i64.wrap ((j : Int) - 1) = ((j - 1 : Nat) : Int) := by rw [show ((j - 1 : Nat) : Int) = (j : Int) - 1 by omega]; exact IntWalk.i64_in _ (by omega)
  rw [e1]
  obtain ⟨z, hz⟩ : ∃ z, j - 1 = z := ⟨_, rfl⟩
  rw [hz] at hw ⊢
  clear hz e1
  go_enter Tryz.func38, Tryz.ntmps38
  go_wp2
  go_ret
  exact ⟨rfl, rfl⟩
 ·have e1 : idx i j = j := if_neg hij
  rw [e1]
  clear e1
  go_enter Tryz.func38, Tryz.ntmps38
  go_wp2
  go_ret
  exact ⟨rfl, rfl⟩
end Go.Proofs.YtjoghbmedfmioabGreat.Tr

namespace Go.Proofs.YtjoghbmedfmioabGreat.Tr
open Go.RowKit Go.Shelf F8 Poly GF Rd Ms
attribute [local go_sem] Oper.semAt_some
def rT (n : Nat) (wd : List F8) (j t : Nat) : List F8 := (plT n j t).map fun z => coef wd z.toNat
theorem rT_full (n : Nat) (wd : List F8) (j : Nat) : rT n wd j n = shr n wd j := by
 unfold rT shr
 rw [plT_full, List.map_map]
 rfl
theorem rT_skip (n : Nat) (wd : List F8) (j : Nat) : rT n wd j (j + 1) = rT n wd j j := by unfold rT; rw [plT_skip]
theorem rT_succ {n : Nat} (wd : List F8) {j t : Nat} (h : t ≠ j) : rT n wd j (t + 1) = rT n wd j t ++ [coef wd (plc n j t)] := by
 unfold rT; rw [plT_succ h, List.map_append]; rfl
theorem rT_length (n : Nat) (wd : List F8) (j t : Nat) : (rT n wd j t).length ≤ t := by unfold rT; rw [List.length_map]; exact plT_length _ _ _
def REncG (n : Nat) (q : List F8) (w : World) (e : Ending) (w' : World) : Prop :=
 ∃ A c l, e = .returned (.tuple #[.slice A n c, .int .i64 0]) ∧ n ≤ c ∧ OwnK 1 w' w.heap.size 35 (.slice A n c) n (cells1 l) ∧ LstO w' w.heap.size l ∧ l.map El.s = (List.range n).map (shr n (word q (pts (rs n n)))) ∧ Below w.heap.size w w'
set_option maxRecDepth 100000 in
set_option maxHeartbeats 8000000 in
theorem refEnc_good {n k : Nat} (hn : n < 24) (hk : k < n) (B : Option Addr) (q : List F8) (mn mc : Nat) (hl : q.length = mn) (he : mn = rs n k) (w : World) (hb : Bytes w B (bs q)) :
  Calls Tryz.prog 24 #[.agg #[.int .i64 (n : Nat), .int .i64 (k : Nat)], .slice B mn mc] w (REncG n q w) := by
 obtain ⟨w1, hw1⟩ : ∃ w1, w.alloc (.cells #[.int .i64 (n : Int), .int .i64 (k : Int)] 33) = w1 := ⟨_, rfl⟩
 have hba : Below w.heap.size w w1 := by rw [← hw1]; exact (Below.refl _ _).alloc (Nat.le_refl _) _
 have hc : C2 w.heap.size (n : Int) (k : Int) w1 := by rw [← hw1]; exact C2.new w (n : Int) (k : Int)
 have HBa := Lib.hid hba
 have HCa := Lib.hid hc
 obtain ⟨c0, c1⟩ := hc
 have hB := fun W => refB_calls hn hk W
 rw [← he] at hB
 have HB := Lib.hid hB
 obtain ⟨E, hE⟩ : ∃ E, rs n n = E := ⟨_, rfl⟩
 have hE9 : E ≤ 255 := by rw [← hE]; exact (edges_n n hn).2
 have hm9 : mn ≤ 255 := by rw [he]; have := rs_mono n (Nat.le_of_lt hk); omega
 have hPt := fun W => refPoints_calls (k : Int) hn W
 rw [hE] at hPt
 have HPt := Lib.hid hPt
 obtain ⟨wd, hwd⟩ : ∃ wd, word q (pts E) = wd := ⟨_, rfl⟩
 have HEn : Hid (∀ W A c, Bytes W A (bs (pts E)) → Below w.heap.size w W → Calls Tryz.prog 47 #[.slice A E c, .int .i64 mn, .slice B mn mc] W fun e w' => ∃ A' c', e = .returned (.tuple #[.slice A' E c', .int .i64 0]) ∧ E ≤ c' ∧ Own w' W.heap.size 5 (.slice A' E c') (bv (bs wd)) ∧ Below W.heap.size W w') := Lib.hid fun W A c hA hW => by
  refine (refEncode_calls A (pts E) E c mn B q mn mc W (pts_length E) hA (by omega) hl (hb.below hW) (by omega)).mono ?_
  rintro e w' ⟨A', c', rfl, h1, h2, h3⟩
  rw [show encR (pts E) mn q = (word q (pts E), 0) from if_pos hl, hwd] at h1 h2 ⊢
  have e1 : wd.length = E := by rw [← hwd, word_length, pts_length]
  rw [e1] at h1 h2 ⊢
  exact ⟨A', c', rfl, h1, h2, h3⟩
 have HWl : Hid (wd.length = E) := Lib.hid (by rw [← hwd, word_length, pts_length])
 have HWd : Hid (word q (pts (rs n n)) = wd) := Lib.hid (by rw [hE]; exact hwd)
 have HEd : Hid (∀ i j, i < n → j < n → i ≠ j → plc n i j < E) := Lib.hid fun i j h1 h2 h3 => by rw [← hE]; exact plc_lt h1 h2 h3
 have f1 : ((mn : Int) != (mn : Int)) = false := by simp
 clear hba hB hPt hwd hl hb hE he
 go_enter Tryz.func24, Tryz.ntmps24
 go_wp2_with (go_at_call 41; (with_reducible refine (HB.out _).mono ?_); rintro e w2 ⟨rfl, hb2⟩; have HB2 := Lib.hid (HBa.out.trans (hb2.mono HBa.out.size)); have HC2 := Lib.hid (C2.below HCa.out hb2); clear hb2)
 have HC := Lib.hid (C2.below HC2.out (Below.refl _ _).drew)
 have HW := Lib.hid (HB2.out.drew)
 have HP : Hid True := Lib.hid trivial
 clear HB2 HC2 HCa HBa c0 c1
 go_region_held (fun V => V.cell? ⟨w.heap.size, 0, none⟩ = some (.int .i64 (n : Int)) ∧ V.cell? ⟨w.heap.size, 1, none⟩ = some (.int .i64 (k : Int))) (with_reducible exact HC.out)
  ((first
   | (go_at_call 40; (with_reducible refine (HPt.out _).mono ?_); rintro e9 w9 ⟨A9, c9, rfl, hc9, hO9, hb9⟩; replace HP := Lib.hid (Own.bytes hO9); replace HC := Lib.hid (C2.below HC.out hb9); replace HW := Lib.hid (HW.out.trans (hb9.mono HW.out.size)); clear hO9 hb9 hc9)
   | (go_at_call 41; (with_reducible refine (HB.out _).mono ?_); rintro e9 w9 ⟨rfl, hb9⟩; (first | (replace HP := Lib.hid (HP.out.below hb9)) | skip); replace HC := Lib.hid (C2.below HC.out hb9); replace HW := Lib.hid (HW.out.trans (hb9.mono HW.out.size)); clear hb9)
   | (go_at_call 47; (with_reducible refine (HEn.out _ _ _ HP.out HW.out).mono ?_); rintro e9 w9 ⟨A9, c9, rfl, hc9, hO9, hb9⟩; have HO := Lib.hid (hO9.more HW.out.size); replace HC := Lib.hid (C2.below HC.out hb9); replace HW := Lib.hid (HW.out.trans (hb9.mono HW.out.size)); clear hO9 hb9)))
 all_goals
  obtain ⟨w2, hw2⟩ : ∃ w2, w9 = w2 := ⟨_, rfl⟩
  rw [hw2] at HO HC HW ⊢
  have HBy := Lib.hid (Own.bytes HO.out)
  have hs2 : w.heap.size ≤ w2.heap.size := HW.out.size
  obtain ⟨c0, c1⟩ := HC.out
  clear HP HPt HEn HB hw2 HO
  go_wp2_with fail
  go_loopw [8, 9] (fun ov jv wr => ∃ (j : Nat) (l : List El), j ≤ n ∧ jv = .int .i64 j ∧ Hid (OwnK 1 wr w2.heap.size 35 ov j (cells1 l)) ∧ Hid (LstO wr w2.heap.size l) ∧ Hid (l.map El.s = (List.range j).map (shr n wd)) ∧ Hid (Below w2.heap.size w2 wr)) (fun _ jv _ => n - (intOf jv).toNat)
  case atStart => exact ⟨0, [], by omega, rfl, Lib.hid (OwnK.nil _ _ _ _), Lib.hid (LstO.nil _ _), Lib.hid rfl, Lib.hid (Below.refl _ _)⟩
  case round =>
   clear c0 c1
   obtain ⟨j, l, hj, rfl, HO, HL, HS, HV⟩ := hrel
   obtain ⟨c0, c1⟩ := C2.below HC.out HV.out
   by_cases hjn : j < n
   ·have hd : decide (j < n) = true := by simpa using hjn
    obtain ⟨w3, hw3⟩ : ∃ w3, wr = w3 := ⟨_, rfl⟩
    rw [hw3] at HO HL HV c0 c1 ⊢
    have hs3 : w2.heap.size ≤ w3.heap.size := HV.out.size
    clear hw3
    go_wp2_with fail
    go_loopw [10, 11] (fun sv iv wr => ∃ t : Nat, t ≤ n ∧ iv = .int .i64 t ∧ Hid (Own wr w3.heap.size 5 sv (bv (bs (rT n wd j t)))) ∧ Hid (Below w3.heap.size w3 wr)) (fun _ iv _ => n - (intOf iv).toNat)
    case atStart => exact ⟨0, by omega, rfl, Lib.hid (Own.nil _ _ _), Lib.hid (Below.refl _ _)⟩
    case round =>
     clear c0 c1
     obtain ⟨t, ht, rfl, HOs, HVs⟩ := hrel
     have HV2 := Lib.hid (HV.out.trans (HVs.out.mono hs3))
     have hc2 := C2.below HC.out HV2.out
     have HC3 := Lib.hid hc2
     obtain ⟨c0, c1⟩ := hc2
     by_cases htn : t < n
     ·by_cases htj : t = j
      ·have f2 : ((t : Int) == (j : Int)) = true := by simp [htj]
       have hO2 := HOs.out
       rw [htj, ← rT_skip, ← htj] at hO2
       have e2 : rT n wd j (t + 1) = rT n wd j t := by rw [htj]; exact rT_skip _ _ _
       have hO3 := HOs.out
       rw [← e2] at hO3
       have HO3 := Lib.hid hO3
       clear hO2 hO3 e2 htj
       go_wp2
       go_roundw
       case rel => exact ⟨t + 1, by omega, by go_num, HO3, HVs⟩
       case measure => first | (simp [intOf]; done) | (simp [intOf]; omega)
      ·have f2 : ((t : Int) == (j : Int)) = false := by simp; omega
       have hEdge := refEdge_calls (n := n) (k : Int) hn t j htn hjn htj wr
       rw [plc_comm] at hEdge
       have hpE := HEd.out j t hjn htn (fun e => htj e.symm)
       have HE := Lib.hid (rT_succ (n := n) wd htj)
       have HN : Hid ((bv (bs (rT n wd j t))).length ≤ t) := Lib.hid (by rw [bvs_length]; exact rT_length _ _ _ _)
       obtain ⟨p, hp⟩ : ∃ p, plc n j t = p := ⟨_, rfl⟩
       rw [hp] at hEdge hpE HE
       have HEdge := Lib.hid hEdge
       obtain ⟨b2, o2, hA9⟩ := where_ HBy.out (by rw [HWl.out]; omega)
       subst hA9
       obtain ⟨y, hy⟩ : ∃ y, coef wd p = y := ⟨_, rfl⟩
       rw [hy] at HE
       have HCw : Hid (∀ V, Below w2.heap.size w2 V → V.cell? ⟨b2, o2 + p, none⟩ = some (.int .u8 (y.n : Nat))) := Lib.hid fun V hV => by rw [← hy]; exact cellAt (HBy.out.below hV) p (by rw [HWl.out]; exact hpE)
       have HX := Lib.hid (bvs_snoc (rT n wd j t) y)
       have hsz : w3.heap.size ≤ wr.heap.size := HVs.out.size
       clear hEdge hp hy htj
       go_wp2_with fail
       refine HEdge.out.mono ?_
       rintro e w5 ⟨rfl, hb5⟩
       have hcw := HCw.out w5 (HV2.out.trans (hb5.mono (Nat.le_trans hs3 hsz)))
       have HO5 := Lib.hid (HOs.out.below hb5)
       have HV5 := Lib.hid (HVs.out.trans (hb5.mono hsz))
       have hs5 : w3.heap.size ≤ w5.heap.size := HV5.out.size
       clear hb5 HEdge c0 c1
       go_wp2_with (at_builtin; refine wpList_app _ rfl _ _ _ rfl w3.heap.size 5 _ 1 Tryz.underlying35 info_u8 rfl (by omega) _ _ rfl (HO5.out.alloc _) (some ⟨w5.heap.size, 0, none⟩) 1 1 (bv [y.n]) rfl rfl (Row.new _ _ _ _) (bv_one _) (by have := HN.out; omega) (by simp; omega) ?_; rintro v2 w6 hown hg3 -)
       have hB6 := (HV5.out.alloc hs5 (.cells #[.int .u8 (y.n : Int)] 5)).trans ((HO5.out.alloc _).grew (by simp; omega) hg3)
       rw [← HX.out, ← HE.out] at hown
       have HO6 := Lib.hid hown
       have HV6 := Lib.hid hB6
       clear hown hg3 hB6
       go_wp2
       go_roundw
       case rel => exact ⟨t + 1, by omega, by go_num, HO6, HV6⟩
       case measure => first | (simp [intOf]; done) | (simp [intOf]; omega)
     ·have hown := HOs.out
      rw [show t = n by omega, rT_full] at hown
      obtain ⟨A4, c4, rfl, hc4⟩ := Own.shape hown
      have hsl : (shr n wd j).length = n - 1 := shr_length wd hjn
      rw [hsl] at hown hc4 ⊢
      obtain ⟨u, hu⟩ : ∃ u, n - 1 = u := ⟨_, rfl⟩
      rw [hu] at hown hc4 hsl ⊢
      obtain ⟨sv, hsv⟩ : ∃ sv, shr n wd j = sv := ⟨_, rfl⟩
      rw [hsv] at hown hsl
      have HOa := Lib.hid ((HO.out.below HVs.out).alloc (.cells #[.slice A4 u c4] 35))
      have HOb := Lib.hid hown
      have HLa := Lib.hid (HL.out.below HVs.out)
      have hszz : w3.heap.size ≤ wr.heap.size := HVs.out.size
      have htn' : ¬ ((t : Int) < (n : Int)) := by omega
      have HSl := Lib.hid hsl
      have HSv := Lib.hid hsv
      have HRw : Hid (Row (wr.alloc (.cells #[.slice A4 u c4] 35)) (some ⟨wr.heap.size, 0, none⟩) (cells1 [⟨0, A4, sv, c4⟩])) := Lib.hid (by
       have := Row.new wr #[.slice A4 u c4] 35 (0, 0)
       simp only [cells1, El.v, List.map_cons, List.map_nil, HSl.out]
       exact this)
      clear hown hsl hsv hu
      go_wp2_with (at_builtin; refine wpList_appK _ rfl 1 _ _ _ rfl w2.heap.size 35 _ 24 Tryz.underlying42 info_bs rfl (by omega) (by omega) _ _ _ rfl HOa.out ⟨wr.heap.size, 0, none⟩ 1 1 (cells1 [⟨0, A4, sv, c4⟩]) rfl rfl HRw.out (cells1_one _) (by omega) (by simp; omega) ?_; rintro v2 w5 hown hg3 -)
      have hs9 : w2.heap.size ≤ wr.heap.size := HV2.out.size
      have hba : Below wr.heap.size wr (wr.alloc (.cells #[.slice A4 u c4] 35)) := (Below.refl _ _).alloc (Nat.le_refl _) _
      have hl1 : LstO wr w2.heap.size (l ++ [⟨0, A4, sv, c4⟩]) := HLa.out.append (LstO.one (by
       show Own wr w2.heap.size 5 (.slice A4 sv.length c4) (bv (bs sv))
       rw [HSl.out]
       exact HOb.out.more (by omega)))
      have HL5 := Lib.hid ((hl1.below hba).grown HOa.out (by decide) hg3)
      have HV5 := Lib.hid ((HV2.out.alloc hs9 (.cells #[.slice A4 u c4] 35)).trans (HOa.out.grew (by simp; omega) hg3))
      rw [← cells1_append] at hown
      have HO5 := Lib.hid hown
      have HS5 : Hid ((l ++ [(⟨0, A4, sv, c4⟩ : El)]).map El.s = (List.range (j + 1)).map (shr n wd)) := Lib.hid (by rw [List.map_append, HS.out, List.range_succ, List.map_append, List.map_cons, List.map_nil, List.map_cons, List.map_nil, HSv.out])
      clear hown hg3 hba hl1
      go_wp2
      go_roundw
      case rel => exact ⟨j + 1, _, by omega, by go_num, HO5, HL5, HS5, HV5⟩
      case measure => first | (simp [intOf]; done) | (simp [intOf]; omega)
   ·have hO := HO.out
    have hS := HS.out
    rw [show j = n by omega] at hO hS
    obtain ⟨A5, c5, rfl, hc5, -, -⟩ := hO.shape
    have hjn' : ¬ ((j : Int) < (n : Int)) := by omega
    have hX : REncG n q w (.returned (.tuple #[.slice A5 n c5, .int .i64 0])) wr := ⟨A5, c5, l, rfl, hc5, hO.more hs2, HL.out.more hs2, by rw [HWd.out]; exact hS, HW.out.trans (HV.out.mono hs2)⟩
    have HX := Lib.hid hX
    clear hX hO hS HO HL HS
    go_wp2
    go_ret2
    exact HX.out
end Go.Proofs.YtjoghbmedfmioabGreat.Tr

namespace Go.Proofs.YtjoghbmedfmioabGreat.Tr
open Go.RowKit Go.Shelf F8 Poly GF Rd Ms
attribute [local go_sem] Oper.semAt_some
set_option maxRecDepth 100000 in
set_option maxHeartbeats 4000000 in
theorem repair_few {S : Tc} {w : World} (h : S.Ok w) (i : Nat) (hi : i < S.n) (A : Option Addr) (l : List El) (m c : Nat) (hl : l.length = m) (hm9 : m ≤ 1000) (hE : Els S.g w A l) (hv : Sy.VOk S.n 1 [(i : Int)] (Sy.elsN l)) (hm : m < S.n - 1) :
  Calls Tryz.prog 11 #[.pointer (some ⟨S.b, 0, none⟩), .int .i64 (i : Nat), .slice A m c] w fun e w' => e = .returned (.tuple #[.slice none 0 0, .int .i64 70]) ∧ Below w.heap.size w w' := by
 obtain ⟨c0, -⟩ := h.cells
 have HNone := Lib.hid (isNone_calls h)
 have hn := h.n24
 have HAl : Hid (∀ V, Below w.heap.size w V → Calls Tryz.prog 19 #[.pointer (some ⟨S.b, 0, none⟩)] V fun e w' => e = .returned (.int .i64 (S.n - 1 : Nat)) ∧ V = w') := Lib.hid fun V hV => alpha_calls (h.below hV)
 have h1 := Sy.isNode_calls (i : Int) S.n w
 rw [decide_eq_true (by omega)] at h1
 have H1 := Lib.hid h1
 have hb0 : Below w.heap.size w (w.alloc (.cells #[.int .i64 (i : Int)] 3)) := (Below.refl _ _).alloc (Nat.le_refl _) _
 have hV := Sy.valid_calls A l m c S.n 1 (some ⟨w.heap.size, 0, none⟩) [(i : Int)] 1 1 (w.alloc (.cells #[.int .i64 (i : Int)] 3)) hl hm9 (hE.below hb0).row (by omega) rfl (by omega) (Row.new w #[.int .i64 (i : Int)] 3 (0, 0))
 rw [decide_eq_true hv, show ((1 : Nat) : Int) = 1 from rfl] at hV
 have HV := Lib.hid hV
 have HB0 := Lib.hid hb0
 obtain ⟨u, hu⟩ : ∃ u, S.n - 1 = u := ⟨_, rfl⟩
 rw [hu] at hm HAl
 clear h1 hV hE hl hv hb0 h hu
 go_enter Tryz.func11, Tryz.ntmps11
 go_wp2_with (first
  | (go_at_call 29; refine HNone.out.mono ?_; rintro e w1 ⟨rfl, rfl⟩)
  | (go_at_call 30; (with_reducible refine H1.out.mono ?_); rintro e w1 ⟨rfl, rfl⟩)
  | (go_at_call 31; (with_reducible refine HV.out.mono ?_); rintro e w1 ⟨rfl, hb1⟩; have HB1 := Lib.hid (HB0.out.trans (hb1.mono HB0.out.size)); clear hb1; have hle : ((m : Int) < (u : Int)) := (by omega))
  | (go_at_call 19; refine (HAl.out _ HB1.out).mono ?_; rintro e w9 ⟨rfl, rfl⟩))
 go_ret2
 exact ⟨rfl, HB1.out⟩
end Go.Proofs.YtjoghbmedfmioabGreat.Tr

namespace Go.Proofs.YtjoghbmedfmioabGreat.Wl
open F8 Poly Rd
theorem sub_le {α : Type} [DecidableEq α] : ∀ {l r : List α}, l.Nodup → (∀ x ∈ l, x ∈ r) → l.length ≤ r.length
 | [], _, _, _ => Nat.zero_le _
 | x :: l, r, hn, h => by
  have hx := h x (by simp)
  have h1 := sub_le (l := l) (r := r.erase x) (List.nodup_cons.1 hn).2 fun y hy => (List.mem_erase_of_ne (by rintro rfl; exact (List.nodup_cons.1 hn).1 hy)).2 (h y (by simp [hy]))
  rw [List.length_erase_of_mem hx] at h1
  have := List.length_pos_of_mem hx
  simp
  omega
end Go.Proofs.YtjoghbmedfmioabGreat.Wl

namespace Go.Proofs.YtjoghbmedfmioabGreat.Tr
open Go.RowKit Go.Shelf F8 Poly GF Rd Ms
attribute [local go_sem] Oper.semAt_some
def RepOk (n : Nat) (to : Int) (l : List El) : Prop := (0 ≤ to ∧ to < (n : Int)) ∧ Sy.VOk n 1 [to] (Sy.elsN l)
instance (n : Nat) (to : Int) (l : List El) : Decidable (RepOk n to l) := inferInstanceAs (Decidable (_ ∧ _))
def oneR (l : List El) (j : Nat) : List F8 := (l.filter fun e => decide (e.p = (j : Int))).map fun e => coef e.s 0
def repL (n : Nat) (l : List El) : List F8 := (List.range n).flatMap (oneR l)
def repV (n : Nat) (to : Int) (l : List El) : List F8 := if RepOk n to l ∧ n - 1 ≤ l.length then repL n l else []
def repZ (n : Nat) (to : Int) (l : List El) : Int := if RepOk n to l then (if n - 1 ≤ l.length then 0 else 70) else 2
theorem oneR_snoc (l : List El) (e : El) (j : Nat) : oneR (l ++ [e]) j = oneR l j ++ (if e.p = (j : Int) then [coef e.s 0] else []) := by
 unfold oneR
 rw [List.filter_append, List.map_append]
 congr 1
 by_cases h : e.p = (j : Int)
 ·rw [if_pos h, List.filter_cons_of_pos (by simpa using h)]; rfl
 ·rw [if_neg h, List.filter_cons_of_neg (by simpa using h)]; rfl
theorem oneR_none {l : List El} {j : Nat} (h : ∀ e ∈ l, e.p ≠ (j : Int)) : oneR l j = [] := by
 unfold oneR
 rw [List.filter_eq_nil_iff.2 (fun e he => by simpa using h e he)]; rfl
theorem oneR_of : ∀ {l : List El} {e : El} {j : Nat}, (l.map El.p).Nodup → e ∈ l → e.p = (j : Int) → oneR l j = [coef e.s 0]
 | [], e, j, _, h, _ => by simp at h
 | x :: l, e, j, hn, h, hp => by
  have hn' := List.nodup_cons.1 hn
  rcases List.mem_cons.1 h with rfl | h
  ·have h0 : oneR l j = [] := oneR_none fun y hy e1 => hn'.1 (by rw [hp, ← e1]; exact List.mem_map_of_mem hy)
   have : oneR (e :: l) j = coef e.s 0 :: oneR l j := by unfold oneR; rw [List.filter_cons_of_pos (by simpa using hp)]; rfl
   rw [this, h0]
  ·have h1 : x.p ≠ (j : Int) := fun e1 => hn'.1 (by rw [e1, ← hp]; exact List.mem_map_of_mem h)
   have : oneR (x :: l) j = oneR l j := by unfold oneR; rw [List.filter_cons_of_neg (by simpa using h1)]
   rw [this]
   exact oneR_of hn'.2 h hp
theorem vok_nodup {n s : Nat} {ps : List Int} {l : List El} (h : Sy.VOk n s ps (Sy.elsN l)) : (l.map El.p).Nodup := by
 have := h.1
 unfold Sy.elsN at this
 rw [List.map_map] at this
 exact this
theorem rep_full {n i : Nat} {l : List El} (hi : i < n) (hv : Sy.VOk n 1 [(i : Int)] (Sy.elsN l)) (hm : n - 1 ≤ l.length) {j : Nat} (hj : j < n) (hji : j ≠ i) : ∃ e ∈ l, e.p = (j : Int) := by
 refine Classical.byContradiction fun hno => ?_
 have hno' : (j : Int) ∉ l.map El.p := fun h => by
  obtain ⟨e, he, hp⟩ := List.mem_map.1 h
  exact hno ⟨e, he, hp⟩
 have h1 := Wl.sub_le (l := (j : Int) :: l.map El.p) (r := (oth n i).map fun j : Nat => (j : Int)) (List.nodup_cons.2 ⟨hno', vok_nodup hv⟩) (fun x hx => by
  rcases List.mem_cons.1 hx with rfl | hx
  ·exact List.mem_map.2 ⟨j, mem_oth.2 ⟨hj, hji⟩, rfl⟩
  ·obtain ⟨e, he, rfl⟩ := List.mem_map.1 hx
   have h2 := hv.2 (e.p, e.s.length) (List.mem_map.2 ⟨e, he, rfl⟩)
   have h3 : e.p ≠ (i : Int) := by simpa using h2.2.1
   have h4 := h2.1
   exact List.mem_map.2 ⟨e.p.toNat, mem_oth.2 ⟨by omega, by omega⟩, by omega⟩)
 rw [List.length_cons, List.length_map, List.length_map, oth_length hi] at h1
 omega
theorem flatMap_one {α β : Type} (f : α → List β) (g : α → β) (p : α → Bool) : ∀ L : List α, (∀ x ∈ L, f x = if p x then [g x] else []) → L.flatMap f = (L.filter p).map g
 | [], _ => rfl
 | x :: L, h => by
  rw [List.flatMap_cons, h x (List.mem_cons_self ..), flatMap_one f g p L (fun y hy => h y (List.mem_cons_of_mem _ hy)), List.filter_cons]
  cases p x <;> rfl
theorem rep_is {n i : Nat} {l : List El} {s : List F8} (hi : i < n) (hv : Sy.VOk n 1 [(i : Int)] (Sy.elsN l)) (hm : n - 1 ≤ l.length) (hs : s.length = n - 1) (hF : ∀ o ∈ l, coef s (idx i o.p.toNat) = coef o.s 0) : s = repL n l := by
 have e1 : repL n l = (oth n i).map fun j => coef s (idx i j) := by
  unfold repL oth
  refine flatMap_one _ _ _ _ fun j hj => ?_
  have hj := List.mem_range.1 hj
  by_cases hji : j = i
  ·subst hji
   rw [if_neg (by simp)]
   exact oneR_none fun e he => by
    have h2 := hv.2 (e.p, e.s.length) (List.mem_map.2 ⟨e, he, rfl⟩)
    simpa using h2.2.1
  ·rw [if_pos (by simpa using hji)]
   obtain ⟨e, he, hp⟩ := rep_full hi hv hm hj hji
   have h3 := hF e he
   rw [hp] at h3
   rw [oneR_of (vok_nodup hv) he hp, ← h3]; rfl
 rw [e1]
 refine List.ext_getElem (by rw [hs, List.length_map, oth_length hi]) fun q h1 h2 => ?_
 have hq : ∃ j, j < n ∧ j ≠ i ∧ idx i j = q := by
  by_cases e : q < i
  ·exact ⟨q, by omega, by omega, by unfold idx; rw [if_neg (by omega)]⟩
  ·exact ⟨q + 1, by omega, by omega, by unfold idx; rw [if_pos (by omega)]; omega⟩
 obtain ⟨j, hj, hji, rfl⟩ := hq
 have h3 := oth_idx hi hj hji
 obtain ⟨h4, h5⟩ := List.getElem?_eq_some_iff.1 h3
 rw [List.getElem_map, h5, coef_of_lt h1]
def RepR (w : World) (s : List F8) (z : Int) (e : Ending) (w' : World) : Prop := ∃ A c, e = .returned (.tuple #[.slice A s.length c, .int .i64 z]) ∧ s.length ≤ c ∧ Own w' w.heap.size 5 (.slice A s.length c) (bv (bs s)) ∧ Below w.heap.size w w'
set_option maxRecDepth 100000 in
set_option maxHeartbeats 4000000 in
theorem repair_bad {S : Tc} {w : World} (h : S.Ok w) (to : Int) (A : Option Addr) (l : List El) (m c : Nat) (hl : l.length = m) (hm9 : m ≤ 1000) (hE : Els S.g w A l) (hno : ¬ RepOk S.n to l) :
  Calls Tryz.prog 11 #[.pointer (some ⟨S.b, 0, none⟩), .int .i64 to, .slice A m c] w fun e w' => e = .returned (.tuple #[.slice none 0 0, .int .i64 2]) ∧ Below w.heap.size w w' := by
 obtain ⟨c0, -⟩ := h.cells
 have HNone := Lib.hid (isNone_calls h)
 have h1 := Sy.isNode_calls to S.n w
 by_cases hto : 0 ≤ to ∧ to < (S.n : Int)
 ·rw [decide_eq_true hto] at h1
  have H1 := Lib.hid h1
  have hb0 : Below w.heap.size w (w.alloc (.cells #[.int .i64 to] 3)) := (Below.refl _ _).alloc (Nat.le_refl _) _
  have hV := Sy.valid_calls A l m c S.n 1 (some ⟨w.heap.size, 0, none⟩) [to] 1 1 (w.alloc (.cells #[.int .i64 to] 3)) hl hm9 (hE.below hb0).row (by have := h.n24; omega) rfl (by omega) (Row.new w #[.int .i64 to] 3 (0, 0))
  rw [decide_eq_false (fun hv => hno ⟨hto, hv⟩), show ((1 : Nat) : Int) = 1 from rfl] at hV
  have HV := Lib.hid hV
  have HB0 := Lib.hid hb0
  clear h1 hV hE hl hb0 h hno hto
  go_enter Tryz.func11, Tryz.ntmps11
  go_wp2_with (first
   | (go_at_call 29; refine HNone.out.mono ?_; rintro e w1 ⟨rfl, rfl⟩)
   | (go_at_call 30; (with_reducible refine H1.out.mono ?_); rintro e w1 ⟨rfl, rfl⟩)
   | (go_at_call 31; (with_reducible refine HV.out.mono ?_); rintro e w1 ⟨rfl, hb1⟩; have HB1 := Lib.hid (HB0.out.trans (hb1.mono HB0.out.size)); clear hb1))
  go_ret2
  exact ⟨rfl, HB1.out⟩
 ·rw [decide_eq_false hto] at h1
  have H1 := Lib.hid h1
  clear h1 hE hl h hno hto
  go_enter Tryz.func11, Tryz.ntmps11
  go_wp2_with (first
   | (go_at_call 29; refine HNone.out.mono ?_; rintro e w1 ⟨rfl, rfl⟩)
   | (go_at_call 30; (with_reducible refine H1.out.mono ?_); rintro e w1 ⟨rfl, rfl⟩))
  go_ret2
  exact ⟨rfl, Below.refl _ _⟩
theorem repU {S : Tc} {w : World} (h : S.Ok w) (to : Int) (A : Option Addr) (l : List El) (m c : Nat) (hl : l.length = m) (hm9 : m ≤ 1000) (hE : Els S.g w A l) :
  Calls Tryz.prog 11 #[.pointer (some ⟨S.b, 0, none⟩), .int .i64 to, .slice A m c] w (RepR w (repV S.n to l) (repZ S.n to l)) := by
 by_cases hok : RepOk S.n to l
 ·have hok' := hok
  obtain ⟨⟨h1, h2⟩, hv⟩ := hok
  obtain ⟨i, rfl⟩ : ∃ i : Nat, to = (i : Int) := ⟨to.toNat, by omega⟩
  have hi : i < S.n := by omega
  by_cases hm : S.n - 1 ≤ l.length
  ·have e1 : repV S.n i l = repL S.n l := if_pos ⟨hok', hm⟩
   have e2 : repZ S.n i l = 0 := by unfold repZ; rw [if_pos hok', if_pos hm]
   rw [e1, e2]
   refine (repair_good h i hi A l m c hl hm9 hE hv (by omega)).mono ?_
   rintro e w' ⟨A', c', s, rfl, hc, hs, hF, hO, hb⟩
   obtain rfl := rep_is hi hv hm hs hF
   rw [← hs] at hc hO ⊢
   exact ⟨A', c', rfl, hc, hO, hb⟩
  ·have e1 : repV S.n i l = [] := if_neg fun h => hm h.2
   have e2 : repZ S.n i l = 70 := by unfold repZ; rw [if_pos hok', if_neg hm]
   rw [e1, e2]
   refine (repair_few h i hi A l m c hl hm9 hE hv (by omega)).mono ?_
   rintro e w' ⟨rfl, hb⟩
   exact ⟨none, 0, rfl, Nat.le_refl _, Own.nil _ _ _, hb⟩
 ·have e1 : repV S.n to l = [] := if_neg fun h => hok h.1
  have e2 : repZ S.n to l = 2 := if_neg hok
  rw [e1, e2]
  refine (repair_bad h to A l m c hl hm9 hE hok).mono ?_
  rintro e w' ⟨rfl, hb⟩
  exact ⟨none, 0, rfl, Nat.le_refl _, Own.nil _ _ _, hb⟩
end Go.Proofs.YtjoghbmedfmioabGreat.Tr

namespace Go.Proofs.YtjoghbmedfmioabGreat.Lo
open Go.RowKit Go.Shelf F8 Poly GF Rd Ms
attribute [local go_sem] Oper.semAt_some
def EOk (n no size : Int) (p : Int) (s : Nat) : Prop := 0 ≤ p ∧ p < n ∧ p ≠ no ∧ (s : Int) = size
def RowsOk (n no size : Int) (l : List El) : Prop := (∀ e ∈ l, EOk n no size e.p e.s.length) ∧ (l.map El.p).Nodup
instance (n no size p : Int) (s : Nat) : Decidable (EOk n no size p s) := inferInstanceAs (Decidable (_ ∧ _ ∧ _ ∧ _))
instance (n no size : Int) (l : List El) : Decidable (RowsOk n no size l) := inferInstanceAs (Decidable (_ ∧ _))
theorem RowsOk.snoc {n no size : Int} {l : List El} {e : El} (h : RowsOk n no size l) (he : EOk n no size e.p e.s.length) (hn : ∀ x ∈ l, x.p ≠ e.p) : RowsOk n no size (l ++ [e]) := by
 refine ⟨fun x hx => ?_, ?_⟩
 ·rcases List.mem_append.1 hx with h1 | h1
  ·exact h.1 x h1
  ·obtain rfl := List.mem_singleton.1 h1
   exact he
 ·rw [List.map_append, List.nodup_append]
  refine ⟨h.2, by simp, fun a ha b hb => ?_⟩
  obtain ⟨x, hx, rfl⟩ := List.mem_map.1 ha
  simp at hb
  rw [hb]
  exact hn x hx
theorem rows_twice {n no size : Int} {l : List El} {i k : Nat} (hi : i < l.length) (hk : k < i) (h : (l[i]).p = (l[k]'(by omega)).p) : ¬ RowsOk n no size l := fun hh => by
 have h1 := List.pairwise_iff_getElem.1 hh.2 k i (by simp; omega) (by simpa using hi) hk
 simp at h1
 exact h1 h.symm
set_option maxRecDepth 100000 in
set_option maxHeartbeats 4000000 in
theorem refRows_calls (n no size : Int) (A : Option Addr) (l : List El) (m c : Nat) (w : World) (hl : l.length = m) (hm : m ≤ 1000000) (hr : Row w A (cells2 l)) :
  Calls Tryz.prog 33 #[.int .i64 n, .slice A m c, .int .i64 no, .int .i64 size] w fun e w' => e = .returned (.bool (decide (RowsOk n no size l))) ∧ Below w.heap.size w w' := by
 have HR := Lib.hid hr
 have HM := Lib.hid hl
 clear hr hl
 go_enter Tryz.func33, Tryz.ntmps33
 go_wp2_with fail
 go_loopw [9] (fun iv wr => ∃ i : Nat, i ≤ m ∧ iv = .int .i64 i ∧ Hid (RowsOk n no size (l.take i)) ∧ Hid (Below w.heap.size w wr)) (fun iv _ => m - (intOf iv).toNat)
 case atStart => exact ⟨0, by omega, rfl, Lib.hid ⟨by simp, by simp⟩, Lib.hid (Below.refl _ _)⟩
 case round =>
  obtain ⟨i, hi, rfl, HN, HW⟩ := hrel
  by_cases him : i < m
  ·have hti : i < l.length := by rw [HM.out]; exact him
   obtain ⟨b, off, rfl, hc0, hc1⟩ := row2_at (HR.out.below HW.out) hti
   have HT : Hid (l.take (i + 1) = l.take i ++ [l[i]]) := Lib.hid (take_succ' l hti)
   have HTw : Hid (∀ (k : Nat) (hk : k < i), (l[i]).p = (l[k]'(by omega)).p → ¬ RowsOk n no size l) := Lib.hid fun k hk h => rows_twice hti hk h
   have HIs : Hid (¬ EOk n no size (l[i]).p (l[i]).s.length → ¬ RowsOk n no size l) := Lib.hid fun h hh => h (hh.1 _ (List.getElem_mem hti))
   have HSn : Hid (EOk n no size (l[i]).p (l[i]).s.length → (∀ x ∈ l.take i, x.p ≠ (l[i]).p) → RowsOk n no size (l.take (i + 1))) := Lib.hid fun h1 h2 => by
    rw [HT.out]; exact HN.out.snoc h1 h2
   have HC : Hid (∀ (k : Nat) (hk : k < l.length) (X : World), Below w.heap.size w X → X.cell? ⟨b, off + k * 2, none⟩ = some (.int .i64 (l[k]).p)) := Lib.hid fun k hk X hX => by
    obtain ⟨b', off', e, h0, -⟩ := row2_at (HR.out.below hX) hk
    cases e
    exact h0
   obtain ⟨ep, h1⟩ : ∃ a, (l[i]).p = a := ⟨_, rfl⟩
   obtain ⟨eA, h2⟩ : ∃ a, (l[i]).A = a := ⟨_, rfl⟩
   obtain ⟨en, h3⟩ : ∃ a, (l[i]).s.length = a := ⟨_, rfl⟩
   obtain ⟨ec, h4⟩ : ∃ a, (l[i]).c = a := ⟨_, rfl⟩
   rw [h1] at hc0 HTw HIs HSn
   rw [h2, h3, h4] at hc1
   rw [h3] at HIs HSn
   have hlt : (i : Int) < (m : Int) := by omega
   have HEp := Lib.hid h1
   clear h1 h2 h3 h4 HT
   by_cases b1 : ep < 0
   ·have HF := Lib.hid (decide_eq_false (HIs.out fun h => by have := h.1; omega))
    have d1 : decide (ep < 0) = true := decide_eq_true b1
    clear HIs HSn HTw HC b1
    go_wp2_with fail
    go_ret
    exact ⟨ret_bool HF.out.symm, HW.out⟩
   have d1 : decide (ep < 0) = false := decide_eq_false b1
   by_cases b2 : n ≤ ep
   ·have HF := Lib.hid (decide_eq_false (HIs.out fun h => by have := h.2.1; omega))
    have d2 : decide (n ≤ ep) = true := decide_eq_true b2
    clear HIs HSn HTw HC b2
    go_wp2_with fail
    go_ret
    exact ⟨ret_bool HF.out.symm, HW.out⟩
   have d2 : decide (n ≤ ep) = false := decide_eq_false b2
   by_cases b3 : ep = no
   ·have HF := Lib.hid (decide_eq_false (HIs.out fun h => h.2.2.1 b3))
    have d3 : (ep == no) = true := by simpa using b3
    clear HIs HSn HTw HC b3
    go_wp2_with fail
    go_ret
    exact ⟨ret_bool HF.out.symm, HW.out⟩
   have d3 : (ep == no) = false := by simpa using b3
   by_cases b4 : ¬ (en : Int) = size
   ·have HF := Lib.hid (decide_eq_false (HIs.out fun h => b4 h.2.2.2))
    have d4 : ((en : Int) != size) = true := by simpa using b4
    clear HIs HSn HTw HC b4
    go_wp2_with fail
    go_ret
    exact ⟨ret_bool HF.out.symm, HW.out⟩
   have d4 : ((en : Int) != size) = false := by simpa using b4
   have HSn2 : Hid ((∀ x ∈ l.take i, x.p ≠ ep) → RowsOk n no size (l.take (i + 1))) := Lib.hid (HSn.out ⟨by omega, by omega, b3, Classical.not_not.1 b4⟩)
   clear HIs HSn b1 b2 b3 b4 HN
   go_wp2_with fail
   go_loopw [10] (fun iv wr => ∃ k : Nat, k ≤ i ∧ iv = .int .i64 k ∧ Hid (∀ x ∈ l.take k, x.p ≠ ep) ∧ Hid (Below w.heap.size w wr)) (fun iv _ => i - (intOf iv).toNat)
   case atStart => exact ⟨0, by omega, rfl, Lib.hid (by simp), HW⟩
   case round =>
    clear hc0 hc1 d1 d2 d3 d4 HW
    obtain ⟨k, hk, rfl, HK, HW⟩ := hrel
    by_cases hki : k < i
    ·have hkl : k < l.length := by omega
     have X0 := cell_regrown (show wr.cell? ⟨b, off + i * 2, none⟩ = some (.int .i64 ep) by rw [← HEp.out]; exact HC.out i hti _ HW.out)
     have HTk : Hid (l.take (k + 1) = l.take k ++ [l[k]]) := Lib.hid (take_succ' l hkl)
     have hck := HC.out k hkl _ HW.out
     have htw := HTw.out k hki
     have hnx : (l[k]).p ≠ ep → ∀ x ∈ l.take (k + 1), x.p ≠ ep := fun h x hx => by
      rw [HTk.out] at hx
      rcases List.mem_append.1 hx with h1 | h1
      ·exact HK.out x h1
      ·obtain rfl := List.mem_singleton.1 h1
       exact h
     obtain ⟨ek, hek⟩ : ∃ a, (l[k]).p = a := ⟨_, rfl⟩
     rw [hek] at hck htw hnx
     have X1 := cell_regrown hck
     have hlk : (k : Int) < (m : Int) := by omega
     have hkm : k < m := by omega
     clear hck hek HTk
     by_cases hee : ep = ek
     ·have HF := Lib.hid (decide_eq_false (htw hee))
      have d5 : (ep == ek) = true := by simpa using hee
      clear htw hnx hee HK HTw HC HSn2 HEp
      go_wp2_with fail
      refine wp_region_quiet_below (by kernel_rfl) (by kernel_rfl) ?_
      repeat (go_big_quiet_step (fail))
      refine wpQuiet_nil ?_
      intro _ hw'
      obtain ⟨⟨dq, osq⟩, hw''⟩ := hw'
      subst hw''
      have HQ := Lib.hid (HW.out.trans ((below_regrown wr dq osq).mono HW.out.size))
      dsimp only
      generalize Sort.grow (redrawn wr dq) osq = wz at *
      clear X0 X1
      go_wp2
      go_ret
      exact ⟨ret_bool HF.out.symm, HQ.out⟩
     ·have HK2 := Lib.hid (hnx (fun h => hee h.symm))
      have d5 : (ep == ek) = false := by simpa using hee
      clear htw hnx hee HK
      go_wp2_with fail
      refine wp_region_quiet_below (by kernel_rfl) (by kernel_rfl) ?_
      repeat (go_big_quiet_step (fail))
      refine wpQuiet_nil ?_
      intro _ hw'
      obtain ⟨⟨dq, osq⟩, hw''⟩ := hw'
      subst hw''
      have HQ := Lib.hid (HW.out.trans ((below_regrown wr dq osq).mono HW.out.size))
      dsimp only
      generalize Sort.grow (redrawn wr dq) osq = wz at *
      clear X0 X1
      go_wp2
      go_roundw
      case rel => exact ⟨k + 1, by omega, by go_num, HK2, HQ⟩
      case measure => simp [intOf]; omega
    ·obtain rfl : k = i := by omega
     have HN := Lib.hid (HSn2.out HK.out)
     clear HSn2 HK HTw HC
     go_wp2_with fail
     go_roundw
     case rel => exact ⟨k + 1, by omega, by go_num, HN, HW⟩
     case measure => simp [intOf]; omega
  ·obtain rfl : i = m := by omega
   have HF : Hid (decide (RowsOk n no size l) = true) := Lib.hid (decide_eq_true (by
    have h := HN.out
    rwa [List.take_of_length_le (by rw [HM.out]; exact Nat.le_refl _)] at h))
   go_wp2
   go_ret
   exact ⟨ret_bool HF.out.symm, HW.out⟩
end Go.Proofs.YtjoghbmedfmioabGreat.Lo
