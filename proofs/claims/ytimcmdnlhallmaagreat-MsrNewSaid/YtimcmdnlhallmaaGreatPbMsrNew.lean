/- MsrNew, for every input: the frame round the walk; the argument lists are opened, the walk's contract is met, what was read reads as it did. -/
import Derived.Test.YtimcmdnlhallmaaGreatPb23
import Derived.Test.YtimcmdnlhallmaaGreatPb03
import Derived.Test.YtimcmdnlhallmaaGreatPb25
import Derived.BigQuiet
import Derived.Test.YtimcmdnlhallmaaGreatRows
import Derived.Test.YtimcmdnlhallmaaGreatPb32
import Derived.Test.YtimcmdnlhallmaaGreatPb31
import Derived.WalkKit
import Derived.ProofKit
import Derived.OpenShut
import Derived.ShutString
import Derived.ChangeOld
import Derived.Below
import Derived.Deep.DeepHandedRow
import Derived.SizedLaws
namespace Go.Proofs.YtimcmdnlhallmaaGreat.Pt
open Go.RowKit Go.Shelf Poly GF
attribute [local go_sem] Oper.semAt_some
def RPts (w : World) (r : List Nat × Int) (e : Ending) (w' : World) : Prop :=
 ∃ v, e = .returned (.tuple #[v, .int .i64 r.2]) ∧ Own w' w.heap.size 5 v (bv r.1) ∧ Below w.heap.size w w'
theorem pts_take {m k : Nat} (hk : k < m) : bv ((pts m).take (k + 1)) = bv ((pts m).take k) ++ [.int .u8 (gp k : Nat)] := by
 have hl : k < (pts m).length := by rw [pts_length]; exact hk
 rw [take_succ' _ hl, bv_append]
 congr 1
 simp [bv, pts]
set_option maxRecDepth 100000 in
set_option maxHeartbeats 2000000 in
theorem refOf_calls (n : Int) (w : World) : Calls Tryz.prog 82 #[.int .i64 n] w (RPts w (ofR n)) := by
 by_cases h0 : n < 0
 ·have e1 : ofR n = ([], 2) := if_neg (by omega)
  rw [e1]
  go_enter Tryz.func82, Tryz.ntmps82
  go_wp2
  go_ret2
  exact ⟨_, rfl, Own.nil _ _ _, Below.refl _ _⟩
 by_cases h1 : 255 < n
 ·have e1 : ofR n = ([], 2) := if_neg (by omega)
  rw [e1]
  go_enter Tryz.func82, Tryz.ntmps82
  go_wp2
  go_ret2
  exact ⟨_, rfl, Own.nil _ _ _, Below.refl _ _⟩
 obtain ⟨m, rfl⟩ : ∃ m : Nat, n = (m : Int) := ⟨n.toNat, by omega⟩
 have e1 : ofR (m : Int) = (pts m, 0) := by
  unfold ofR
  rw [if_pos (by omega), Int.toNat_natCast]
 rw [e1]
 clear e1
 go_enter Tryz.func82, Tryz.ntmps82
 go_wp2
 go_loopw [4, 5] (fun v i wr => ∃ k : Nat, k ≤ m ∧ i = .int .i64 k ∧ Own wr w.heap.size 5 v (bv ((pts m).take k)) ∧ Below w.heap.size w wr) (fun _ i _ => m - (intOf i).toNat)
 case atStart => exact ⟨0, Nat.zero_le _, rfl, Own.nil _ _ _, Below.refl _ _⟩
 case round =>
  obtain ⟨k, hk, rfl, hO, hB⟩ := hrel
  have hsz := hB.size
  obtain ⟨A, c, rfl, _⟩ := hO.form
  have hlen : (bv ((pts m).take k)).length = k := by rw [bv_length, List.length_take, pts_length]; omega
  rw [hlen] at hO ⊢
  by_cases hkm : k < m
  ·have HT := Lib.hid (pts_take hkm)
   have HL := Lib.hid hlen
   clear hlen
   have HG : Hid (gpow 2 (k : Int) = gp k) := Lib.hid (by rw [gpow_two, ge_nat])
   go_wp2_with fail
   refine (refPow_calls 2 (by decide) (k : Int) (by omega) (by omega) _).mono ?_
   rintro e w1 ⟨rfl, rfl⟩
   rw [HG.out]
   go_wp2_with (at_builtin; refine wpList_app _ rfl _ _ 34 rfl w.heap.size 5 (.int .u8 0) 1 Tryz.underlying34 info_b rfl (by decide) _ _ rfl (hO.alloc _) _ 1 1 [.int .u8 (gp k : Nat)] rfl rfl (Row.new _ _ _ _) (by intro u hu; obtain rfl := List.mem_singleton.1 hu; rfl) (by rw [HL.out]; omega) (by simp; omega) ?_; rintro v2 w2 hO2 hgr hb)
   have hB2 := (hB.alloc hsz _).trans ((hO.alloc _).grew (by simp; omega) hgr)
   go_roundw
   case rel => exact ⟨k + 1, by omega, by go_num, by rw [HT.out]; exact hO2, hB2⟩
   case measure => simp [intOf]; omega
  ·obtain rfl : k = m := by omega
   have ht : (pts k).take k = pts k := List.take_of_length_le (by rw [pts_length]; exact Nat.le_refl _)
   rw [ht] at hO
   go_wp2
   go_ret2
   exact ⟨_, rfl, hO, hB⟩
def cm (a : Nat) : Nat → Nat
 | 0 => 1
 | k + 1 => if a % (k + 1) = 0 ∧ 255 % (k + 1) = 0 then k + 1 else cm a k
theorem cm_gcd' : ∀ a, a < 256 → 0 < a → cm a a = Nat.gcd 255 a := by decide +kernel
theorem cm_gcd {a : Nat} (h : 0 < a) (h2 : a ≤ 255) : cm a a = Nat.gcd 255 a := cm_gcd' a (by omega) h
set_option maxRecDepth 100000 in
set_option maxHeartbeats 2000000 in
theorem refCommon_calls (a : Nat) (ha : 0 < a) (ha2 : a ≤ 255) (w : World) : Calls Tryz.prog 81 #[.int .i64 a, .int .i64 255] w fun e w' => e = .returned (.int .i64 (Nat.gcd 255 a : Nat)) ∧ w = w' := by
 rw [← cm_gcd ha ha2]
 go_enter Tryz.func81, Tryz.ntmps81
 go_wp2
 go_loop [5, 6] (fun c i => ∃ k : Nat, k ≤ a ∧ i = .int .i64 ((k : Int) + 1) ∧ c = .int .i64 (cm a k : Nat)) (fun _ i => a + 1 - (intOf i).toNat)
 case atStart => exact ⟨0, Nat.zero_le _, rfl, rfl⟩
 case round =>
  obtain ⟨k, hk, rfl, rfl⟩ := hrel
  by_cases hka : k < a
  ·obtain ⟨i, hi⟩ : ∃ i, k + 1 = i := ⟨_, rfl⟩
   have hi2 : (k : Int) + 1 = (i : Int) := by omega
   have hin : ¬ ((i : Int) = 0) := by omega
   have hm1 : (a : Int).tmod (i : Int) = ((a % i : Nat) : Int) := by rw [Int.tmod_eq_emod_of_nonneg (by omega)]; simp
   have hm2 : (255 : Int).tmod (i : Int) = ((255 % i : Nat) : Int) := by rw [Int.tmod_eq_emod_of_nonneg (by decide)]; simp
   have HC : Hid (cm a i = if a % i = 0 ∧ 255 % i = 0 then i else cm a k) := Lib.hid (by rw [← hi]; rfl)
   have hle1 : a % i ≤ a := Nat.mod_le _ _
   have hle2 : 255 % i ≤ 255 := Nat.mod_le _ _
   rw [hi2]
   clear hi2
   obtain ⟨x, hx⟩ : ∃ x, a % i = x := ⟨_, rfl⟩
   obtain ⟨y, hy⟩ : ∃ y, 255 % i = y := ⟨_, rfl⟩
   rw [hx] at hm1 hle1 HC
   rw [hy] at hm2 hle2 HC
   have hia : i ≤ a := by omega
   have HI := Lib.hid hi
   clear hx hy hi
   by_cases hx0 : x = 0
   ·subst hx0
    by_cases hy0 : y = 0
    ·subst hy0
     go_wp2
     go_round
     case rel => exact ⟨i, by have := HI.out; omega, by go_num, by rw [HC.out]; rfl⟩
     case measure => simp [intOf]; have := HI.out; omega
    ·have hy1 : ¬ ((y : Int) = 0) := by omega
     go_wp2
     go_round
     case rel => exact ⟨i, by have := HI.out; omega, by go_num, by rw [HC.out, if_neg (by omega)]⟩
     case measure => simp [intOf]; have := HI.out; omega
   ·have hx1 : ¬ ((x : Int) = 0) := by omega
    go_wp2
    go_round
    case rel => exact ⟨i, by have := HI.out; omega, by go_num, by rw [HC.out, if_neg (by omega)]⟩
    case measure => simp [intOf]; have := HI.out; omega
  ·obtain rfl : k = a := by omega
   go_wp2
   go_ret
   exact ⟨rfl, rfl⟩
set_option maxRecDepth 100000 in
set_option maxHeartbeats 2000000 in
theorem refSpread_calls (n a : Int) (w : World) : Calls Tryz.prog 41 #[.int .i64 n, .int .i64 a] w (RPts w (spreadR n a)) := by
 by_cases h0 : a < 1
 ·have e1 : spreadR n a = ([], 2) := if_neg (by omega)
  rw [e1]
  go_enter Tryz.func41, Tryz.ntmps41
  go_wp2
  go_ret2
  exact ⟨_, rfl, Own.nil _ _ _, Below.refl _ _⟩
 by_cases h1 : 255 < a
 ·have e1 : spreadR n a = ([], 2) := if_neg (by omega)
  rw [e1]
  go_enter Tryz.func41, Tryz.ntmps41
  go_wp2
  go_ret2
  exact ⟨_, rfl, Own.nil _ _ _, Below.refl _ _⟩
 by_cases hn : n < 0
 ·have e1 : spreadR n a = ([], 2) := if_neg (by omega)
  rw [e1]
  go_enter Tryz.func41, Tryz.ntmps41
  go_wp2
  go_ret2
  exact ⟨_, rfl, Own.nil _ _ _, Below.refl _ _⟩
 obtain ⟨b, rfl⟩ : ∃ b : Nat, a = (b : Int) := ⟨a.toNat, by omega⟩
 obtain ⟨m, rfl⟩ : ∃ m : Nat, n = (m : Int) := ⟨n.toNat, by omega⟩
 have hc := refCommon_calls b (by omega) (by omega) w
 have hg0 : 0 < Nat.gcd 255 b := Nat.gcd_pos_of_pos_left _ (by decide)
 have hR : spreadR (m : Int) (b : Int) = if m ≤ 255 / Nat.gcd 255 b then ofR (m : Int) else ([], 2) := by
  have hl := lim_le b
  unfold spreadR ofR
  rw [Int.toNat_natCast, Int.toNat_natCast]
  by_cases h : m ≤ 255 / Nat.gcd 255 b
  ·have h2 : m ≤ lim b := h
   rw [if_pos h, if_pos (by omega), if_pos (by omega)]
  ·have h2 : ¬ m ≤ lim b := h
   rw [if_neg h, if_neg (by omega)]
 rw [hR]
 clear hR
 obtain ⟨g, hg⟩ : ∃ g, Nat.gcd 255 b = g := ⟨_, rfl⟩
 rw [hg] at hc hg0 ⊢
 clear hg
 have hgn : ¬ ((g : Int) = 0) := by omega
 have hdiv : (255 : Int).tdiv (g : Int) = ((255 / g : Nat) : Int) := by rw [Int.tdiv_eq_ediv_of_nonneg (by decide)]; simp
 have hdle : 255 / g ≤ 255 := Nat.div_le_self _ _
 obtain ⟨t, ht⟩ : ∃ t, 255 / g = t := ⟨_, rfl⟩
 rw [ht] at hdiv hdle ⊢
 clear ht
 by_cases hmt : m ≤ t
 ·rw [if_pos hmt]
  go_enter Tryz.func41, Tryz.ntmps41
  go_wp2_with (go_at_call 81; refine hc.mono ?_; rintro e w1 ⟨rfl, rfl⟩)
  go_wp2_with (go_at_call 82; refine (refOf_calls (m : Int) _).mono ?_; rintro e w3 ⟨v, rfl, hO, hB⟩; obtain ⟨A, c, rfl, _⟩ := hO.form)
  go_ret2
  exact ⟨_, rfl, hO, hB⟩
 ·rw [if_neg hmt]
  go_enter Tryz.func41, Tryz.ntmps41
  go_wp2_with (go_at_call 81; refine hc.mono ?_; rintro e w1 ⟨rfl, rfl⟩)
  go_ret2
  exact ⟨_, rfl, Own.nil _ _ _, Below.refl _ _⟩
end Go.Proofs.YtimcmdnlhallmaaGreat.Pt

namespace Go.Proofs.YtimcmdnlhallmaaGreat.Ms
open Go.RowKit Go.Shelf F8 Poly GF Rd
attribute [local go_sem] Oper.semAt_some
theorem refAlpha_calls (n k d : Int) (w : World) : Calls Tryz.prog 18 #[.agg #[.int .i64 n, .int .i64 k, .int .i64 d]] w fun e w' => e = .returned (.int .i64 (wrap64 (wrap64 (d - k) + 1))) ∧ w' = w.alloc (.cells #[.int .i64 n, .int .i64 k, .int .i64 d] 31) := by
 go_enter Tryz.func18, Tryz.ntmps18
 go_wp2
 go_ret
 exact ⟨rfl, rfl⟩
theorem refDumb_calls (n k d : Int) (w : World) : Calls Tryz.prog 42 #[.agg #[.int .i64 n, .int .i64 k, .int .i64 d]] w fun e w' => e = .returned (.int .i64 (wrap64 (wrap64 (d - wrap64 (2 * k)) + 2))) ∧ w' = w.alloc (.cells #[.int .i64 n, .int .i64 k, .int .i64 d] 31) := by
 go_enter Tryz.func42, Tryz.ntmps42
 go_wp2
 go_ret
 exact ⟨rfl, rfl⟩
abbrev C3 (b : Nat) (n k d : Int) (V : World) : Prop := V.cell? ⟨b, 0, none⟩ = some (.int .i64 n) ∧ V.cell? ⟨b, 1, none⟩ = some (.int .i64 k) ∧ V.cell? ⟨b, 2, none⟩ = some (.int .i64 d)
theorem C3.below {b : Nat} {n k d : Int} {V V' : World} (h : C3 b n k d V) (hb : Below V.heap.size V V') : C3 b n k d V' :=
 ⟨(hb.cell (cell_lt h.1)).trans h.1, (hb.cell (cell_lt h.2.1)).trans h.2.1, (hb.cell (cell_lt h.2.2)).trans h.2.2⟩
theorem C3.new (w : World) (n k d : Int) : C3 w.heap.size n k d (w.alloc (.cells #[.int .i64 n, .int .i64 k, .int .i64 d] 31)) :=
 ⟨(cell_new w _ _ 0).trans rfl, (cell_new w _ _ 1).trans rfl, (cell_new w _ _ 2).trans rfl⟩
theorem refAlphaB (n k d : Int) (w : World) : Calls Tryz.prog 18 #[.agg #[.int .i64 n, .int .i64 k, .int .i64 d]] w fun e w' => e = .returned (.int .i64 (wrap64 (wrap64 (d - k) + 1))) ∧ Below w.heap.size w w' :=
 (refAlpha_calls n k d w).mono fun _ _ h => ⟨h.1, h.2 ▸ (Below.refl w.heap.size w).alloc (Nat.le_refl _) _⟩
theorem refDumbB (n k d : Int) (w : World) : Calls Tryz.prog 42 #[.agg #[.int .i64 n, .int .i64 k, .int .i64 d]] w fun e w' => e = .returned (.int .i64 (wrap64 (wrap64 (d - wrap64 (2 * k)) + 2))) ∧ Below w.heap.size w w' :=
 (refDumb_calls n k d w).mono fun _ _ h => ⟨h.1, h.2 ▸ (Below.refl w.heap.size w).alloc (Nat.le_refl _) _⟩
instance (n k d : Int) : Decidable (Good n k d) := inferInstanceAs (Decidable (_ ∧ _))
def refR (n k d : Int) : Int := if Good n k d then 0 else 2
theorem refN {n k d : Int} (hn1 : -9223372036854775808 ≤ n) (hk2 : k < 9223372036854775808) (hd1 : -9223372036854775808 ≤ d) (h1 : ¬ k < 2) (h2 : ¬ 255 < n) (h3 : ¬ 255 < d) (h4 : ¬ d < wrap64 (wrap64 (2 * k) - 2)) (h5 : ¬ n ≤ d) (h6 : ¬ 16 < wrap64 (wrap64 (d - k) + 1)) :
  (Pt.spreadR (wrap64 (n + wrap64 (wrap64 (d - wrap64 (2 * k)) + 2))) (wrap64 (wrap64 (d - k) + 1))).2 = refR n k d := by
 unfold refR
 by_cases hk : k < 4611686018427387904
 ·have e1 : wrap64 (2 * k) = 2 * k := by unfold wrap64; omega
  have e2 : wrap64 (2 * k - 2) = 2 * k - 2 := by unfold wrap64; omega
  rw [e1, e2] at h4
  have e3 : wrap64 (d - k) = d - k := by unfold wrap64; omega
  have e4 : wrap64 (d - k + 1) = d - k + 1 := by unfold wrap64; omega
  have e5 : wrap64 (d - 2 * k) = d - 2 * k := by unfold wrap64; omega
  have e6 : wrap64 (d - 2 * k + 2) = d - 2 * k + 2 := by unfold wrap64; omega
  have e7 : wrap64 (n + (d - 2 * k + 2)) = n + (d - 2 * k + 2) := by unfold wrap64; omega
  rw [e3, e4] at h6
  rw [e1, e3, e4, e5, e6, e7]
  unfold Pt.spreadR
  by_cases hl : n + (d - 2 * k + 2) ≤ Pt.lim (d - k + 1).toNat
  ·rw [if_pos ⟨by omega, by omega, by omega, hl⟩, if_pos ⟨⟨by omega, by omega, by omega, by omega⟩, hl⟩]
  ·rw [if_neg fun h => hl h.2.2.2, if_neg fun h => hl h.2]
 ·rw [if_neg (show ¬ Good n k d from fun h => by have := h.1; omega)]
  have hx : wrap64 (wrap64 (d - k) + 1) < 1 := by
   unfold wrap64 at h4 h6 ⊢; omega
  unfold Pt.spreadR
  rw [if_neg (by omega)]
theorem refBad {n k d : Int} (hk2 : k < 9223372036854775808) (hd1 : -9223372036854775808 ≤ d) (h : k < 2 ∨ 255 < n ∨ 255 < d ∨ d < wrap64 (wrap64 (2 * k) - 2) ∨ n ≤ d ∨ (16 < wrap64 (wrap64 (d - k) + 1) ∧ ¬ 255 < d)) : ¬ Good n k d := by
 intro hg
 have := good255 hg
 have h1 := hg.1
 clear hg
 unfold wrap64 at h
 omega
def RefIs (w : World) (n k d : Int) (e : Ending) (w' : World) : Prop := e = .returned (.int .i64 (refR n k d)) ∧ Below w.heap.size w w'
set_option maxRecDepth 100000 in
set_option maxHeartbeats 8000000 in
theorem refNew_calls (n k d : Int) (w : World) (hn1 : -9223372036854775808 ≤ n) (hk2 : k < 9223372036854775808) (hd1 : -9223372036854775808 ≤ d) :
  Calls Tryz.prog 16 #[.agg #[.int .i64 n, .int .i64 k, .int .i64 d]] w (RefIs w n k d) := by
 have HB := Lib.hid ((Below.refl w.heap.size w).alloc (Nat.le_refl _) (.cells #[.int .i64 n, .int .i64 k, .int .i64 d] 31))
 have HB2 := Lib.hid (HB.out.alloc HB.out.size (.cells #[.int .i64 n, .int .i64 k, .int .i64 d] 31))
 have HB3 := Lib.hid (HB2.out.alloc HB2.out.size (.cells #[.int .i64 n, .int .i64 k, .int .i64 d] 31))
 have HB4 := Lib.hid (HB3.out.alloc HB3.out.size (.cells #[.int .i64 n, .int .i64 k, .int .i64 d] 31))
 have HBad := Lib.hid (@refBad n k d hk2 hd1)
 have bad : ∀ V : World, (k < 2 ∨ 255 < n ∨ 255 < d ∨ d < wrap64 (wrap64 (2 * k) - 2) ∨ n ≤ d ∨ (16 < wrap64 (wrap64 (d - k) + 1) ∧ ¬ 255 < d)) → Below w.heap.size w V → RefIs w n k d (.returned (.int .i64 2)) V := fun V h hb => ⟨by rw [refR, if_neg (HBad.out h)], hb⟩
 have HX := Lib.hid bad
 have HN := Lib.hid (@refN n k d hn1 hk2 hd1)
 clear bad HBad hn1 hk2 hd1
 by_cases h1 : k < 2
 ·go_enter Tryz.func16, Tryz.ntmps16
  go_wp2
  go_ret
  exact HX.out _ (.inl h1) HB.out
 by_cases h2 : 255 < n
 ·go_enter Tryz.func16, Tryz.ntmps16
  go_wp2
  go_ret
  exact HX.out _ (.inr (.inl h2)) HB.out
 by_cases h3 : 255 < d
 ·go_enter Tryz.func16, Tryz.ntmps16
  go_wp2
  go_ret
  exact HX.out _ (.inr (.inr (.inl h3))) HB.out
 by_cases h4 : d < wrap64 (wrap64 (2 * k) - 2)
 ·go_enter Tryz.func16, Tryz.ntmps16
  go_wp2
  go_ret
  exact HX.out _ (.inr (.inr (.inr (.inl h4)))) HB.out
 by_cases h5 : n ≤ d
 ·go_enter Tryz.func16, Tryz.ntmps16
  go_wp2
  go_ret
  exact HX.out _ (.inr (.inr (.inr (.inr (.inl h5))))) HB.out
 by_cases h6 : 16 < wrap64 (wrap64 (d - k) + 1)
 ·go_enter Tryz.func16, Tryz.ntmps16
  go_wp2_with (go_at_call 18; refine (refAlpha_calls _ _ _ _).mono ?_; rintro e wx ⟨rfl, rfl⟩)
  go_ret
  exact HX.out _ (.inr (.inr (.inr (.inr (.inr ⟨h6, h3⟩))))) HB2.out
 have HR := Lib.hid (HN.out h1 h2 h3 h4 h5 h6)
 have HC0 := Lib.hid (((C3.new w n k d).below ((Below.refl _ _).alloc (Nat.le_refl _) (.cells #[.int .i64 n, .int .i64 k, .int .i64 d] 31))).below (Below.refl _ _).drew)
 clear HX HN HB HB3 HB4
 go_enter Tryz.func16, Tryz.ntmps16
 go_wp2_with (go_at_call 18; refine (refAlpha_calls _ _ _ _).mono ?_; rintro e wx ⟨rfl, rfl⟩)
 obtain ⟨W1, hW1⟩ : ∃ W1, (w.alloc (.cells #[.int .i64 n, .int .i64 k, .int .i64 d] 31)).alloc (.cells #[.int .i64 n, .int .i64 k, .int .i64 d] 31) = W1 := ⟨_, rfl⟩
 rw [hW1] at HC0 HB2 ⊢
 have HB := Lib.hid HB2.out.drew
 clear HB2 hW1
 go_region_held (fun V => V.cell? ⟨w.heap.size, 0, none⟩ = some (.int .i64 n) ∧ V.cell? ⟨w.heap.size, 1, none⟩ = some (.int .i64 k) ∧ V.cell? ⟨w.heap.size, 2, none⟩ = some (.int .i64 d)) (first | (with_reducible exact HC0.out) | (with_reducible exact HC1.out) | (with_reducible exact HC2.out) | (with_reducible exact HC3.out))
  ((first
   | (go_at_call 42; (with_reducible refine (refDumbB _ _ _ _).mono ?_); rintro e w1 ⟨rfl, hb1⟩; have HC1 := Lib.hid (C3.below HC0.out hb1); have HB1 := Lib.hid (HB.out.trans (hb1.mono HB.out.size)); clear hb1)
   | (go_at_call 18; (with_reducible refine (refAlphaB _ _ _ _).mono ?_); rintro e w2 ⟨rfl, hb2⟩; have HC2 := Lib.hid (C3.below HC1.out hb2); have HB2 := Lib.hid (HB1.out.trans (hb2.mono HB1.out.size)); clear hb2)
   | (go_at_call 41; (with_reducible refine (Pt.refSpread_calls _ _ _).mono ?_); rintro e w3 ⟨v3, rfl, -, hb3⟩; have HC3 := Lib.hid (C3.below HC2.out hb3); have HB3 := Lib.hid (HB2.out.trans (hb3.mono HB2.out.size)); clear hb3)))
 rw [IntWalk.i64_left, HR.out]
 go_wp2
 go_ret
 exact ⟨rfl, HB3.out⟩
end Go.Proofs.YtimcmdnlhallmaaGreat.Ms

namespace Go.Proofs.YtimcmdnlhallmaaGreat.msrNew
open Go.RowKit Go.Shelf F8 GF Poly Rd Ms
attribute [local go_sem] Oper.semAt_some
theorem C3.below {b : Nat} {n k d : Int} {V V' : World} (h : C3 b n k d V) (hb : Below V.heap.size V V') : C3 b n k d V' := Ms.C3.below h hb
theorem sums {S : Co} {w V : World} {n k d : Int} (HL : Hid (Lz S w n k d V)) : ∃ (a x mb : Int), IntKind.i64.wrap (d - k) = x ∧ IntKind.i64.wrap (x + 1) = a ∧ IntKind.i64.wrap (k * a) = mb ∧
  Hid (∀ W, Lw S w W → Calls Tryz.prog 17 #[.pointer (some ⟨S.b, 0, none⟩)] W fun e w' => e = .returned (.int .i64 a) ∧ W = w') ∧
  Hid (∀ W, Lw S w W → Calls Tryz.prog 19 #[.pointer (some ⟨S.b, 0, none⟩)] W fun e w' => e = .returned (.int .i64 mb) ∧ Below W.heap.size W w') ∧
  Hid (∀ W, Calls Tryz.prog 18 #[.agg #[.int .i64 n, .int .i64 k, .int .i64 d]] W fun e w' => e = .returned (.int .i64 a) ∧ Below W.heap.size W w') := by
 have hn := HL.out.lw.ok.nums
 have h1 := HL.out.en
 have h2 := HL.out.ek
 have h3 := HL.out.ed
 have hb : S.k * S.a ≤ 17 * 16 := Nat.mul_le_mul hn.2.2.2.1 hn.2.1
 have e1 : IntKind.i64.wrap (d - k) = (S.a : Int) - 1 := by rw [IntWalk.i64_in _ (by omega)]; omega
 have e2 : IntKind.i64.wrap ((S.a : Int) - 1 + 1) = (S.a : Int) := by rw [IntWalk.i64_in _ (by omega)]; omega
 refine ⟨S.a, (S.a : Int) - 1, ((S.k * S.a : Nat) : Int), e1, e2, ?_, Lib.hid fun W h => alpha_calls h.ok, Lib.hid fun W h => b_calls h.ok, Lib.hid fun W => ?_⟩
 ·rw [← h2, show (S.k : Int) * (S.a : Int) = ((S.k * S.a : Nat) : Int) by simp]
  exact IntWalk.i64_in _ (by omega)
 ·refine (refAlphaB n k d W).mono fun e w' h => ⟨?_, h.2⟩
  rw [h.1, ← IntWalk.i64_left (d - k), e1, ← IntWalk.i64_left, e2]
set_option maxRecDepth 100000 in
set_option maxHeartbeats 8000000 in
theorem walk (PS : Poly.Spec) (Z : Wl.Spec) (w : World) (n : Int) (hl0 : -9223372036854775808 ≤ n) (hn0 : n < 9223372036854775808) (k : Int) (hl1 : -9223372036854775808 ≤ k) (hn1 : k < 9223372036854775808) (d : Int) (hl2 : -9223372036854775808 ≤ d) (hn2 : d < 9223372036854775808) :
  Calls Tryz.prog 3 #[.int .i64 n, .int .i64 k, .int .i64 d] w fun e w' => e = .returned (.bool true) ∧ Below w.heap.size w w' := by
 have HFew := Lib.hid (few_calls n k d w)
 have HMd0 : Hid (∀ w1, w1 = w.alloc (.cells (fcells 0 0 0) 91) → _) := Lib.hid fun w1 hw1 => made PS n k d w w1 hw1 hl0 hn0 hl1 hn1 hl2 hn2
 have HRf := Lib.hid fun W => refNew_calls n k d W hl0 hn1 hl2
 by_cases hno : ¬ Few n k d ∧ ¬ (255 < n ∨ 255 < k ∨ 255 < d)
 ·obtain ⟨hf, hm⟩ := hno
  have h1 : n ≤ 255 := by omega
  have h2 : k ≤ 255 := by omega
  have h3 : d ≤ 255 := by omega
  have d1 : decide (255 < n) = false := decide_eq_false (by omega)
  have d2 : decide (255 < k) = false := decide_eq_false (by omega)
  have d3 : decide (255 < d) = false := decide_eq_false (by omega)
  rw [decide_eq_false hf] at HFew
  clear h1 h2 h3 hf hm HMd0 HRf hl0 hn0 hl1 hn1 hl2 hn2
  go_enter Tryz.func3, Tryz.ntmps3
  go_wp2_with (first
   | (go_at_call 12; refine HFew.out.mono ?_; rintro e w0 ⟨rfl, rfl⟩)
   | (go_at_call 13; (with_reducible refine (works_calls PS Z _).mono ?_); rintro e wz ⟨rfl, HZ⟩))
  go_ret
  exact ⟨rfl, HZ⟩
 have hcase : Few n k d ∨ (¬ Few n k d ∧ 255 < n) ∨ (¬ Few n k d ∧ n ≤ 255 ∧ 255 < k) ∨ (¬ Few n k d ∧ n ≤ 255 ∧ k ≤ 255 ∧ 255 < d) := by
  by_cases hf : Few n k d
  ·exact .inl hf
  ·have := not_and.1 hno hf
   by_cases h1 : 255 < n
   ·exact .inr (.inl ⟨hf, h1⟩)
   ·by_cases h2 : 255 < k
    ·exact .inr (.inr (.inl ⟨hf, by omega, h2⟩))
    ·exact .inr (.inr (.inr ⟨hf, by omega, by omega, by omega⟩))
 clear hno
 rcases hcase with hf | ⟨hf, h1⟩ | ⟨hf, h1, h2⟩ | ⟨hf, h1, h2, h3⟩
 rotate_left
 all_goals first | rw [decide_eq_true hf] at HFew | rw [decide_eq_false hf] at HFew
 all_goals clear hf hl0 hn0 hl1 hn1 hl2 hn2
 all_goals
  go_enter Tryz.func3, Tryz.ntmps3
  go_wp2_with (go_at_call 12; refine HFew.out.mono ?_; rintro e w0 ⟨rfl, rfl⟩)
  refine (GF.new_calls w).mono ?_
  rintro e w1 ⟨rfl, hw1⟩
  have HMd := Lib.hid (HMd0.out w1 hw1)
  clear hw1 HMd0 HFew
  go_wp2_with fail
  refine HMd.out.mono ?_
  clear HMd
 all_goals
  rintro e w2 (⟨hgood, S, hL, rfl⟩ | ⟨hbad, rfl, HBz⟩)
  rotate_left
  ·have HBz := Lib.hid HBz
   have HRf2 : Hid (∀ W, Calls Tryz.prog 16 #[.agg #[.int .i64 n, .int .i64 k, .int .i64 d]] W fun e w' => e = .returned (.int .i64 2) ∧ Below W.heap.size W w') := Lib.hid fun W => (HRf.out W).mono fun e w' h => ⟨by have := h.1; rw [refR, if_neg hbad] at this; exact this, h.2⟩
   have HA := Lib.hid (HBz.out.alloc HBz.out.size (.cells #[.int .i64 n, .int .i64 k, .int .i64 d] 31))
   clear HBz HRf hbad
   go_wp2_with (first
    | (go_at_call 16; (with_reducible refine (HRf2.out _).mono ?_); rintro e w3 ⟨rfl, h3⟩; have HB3 := Lib.hid (HA.out.trans (h3.mono HA.out.size)); clear h3)
    | (go_at_call 13; (with_reducible refine (works_calls PS Z _).mono ?_); rintro e wz ⟨rfl, HZ⟩))
   go_ret
   exact ⟨rfl, HB3.out.trans (HZ.mono HB3.out.size)⟩
  ·have HL := Lib.hid hL
   have HG := Lib.hid hgood
   have HRf2 : Hid (∀ W, Calls Tryz.prog 16 #[.agg #[.int .i64 n, .int .i64 k, .int .i64 d]] W fun e w' => e = .returned (.int .i64 0) ∧ Below W.heap.size W w') := Lib.hid fun W => (HRf.out W).mono fun e w' h => ⟨by have := h.1; rw [refR, if_pos hgood] at this; exact this, h.2⟩
   have HL2 := Lib.hid (HL.out.lw.below ((Below.refl _ _).alloc (Nat.le_refl _) (.cells #[.int .i64 n, .int .i64 k, .int .i64 d] 31)))
   have HC2 := Lib.hid (C3.new w2 n k d)
   clear HRf hgood hL
   go_wp2_with (go_at_call 16; (with_reducible refine (HRf2.out _).mono ?_); rintro e w3 ⟨rfl, h3⟩; have HL3 := Lib.hid (HL2.out.below h3); have HC3 := Lib.hid (C3.below HC2.out h3); clear h3)
   obtain ⟨a, x, mb, hxk, hax, hmb, HAl, HB, HRa⟩ := sums HL
   have HE := Lib.hid (HL3.out.below (Below.refl _ _).drew)
   have HC := Lib.hid (C3.below HC3.out (Below.refl _ _).drew)
   clear HL HG HRf2 HL2 HC2 HL3 HC3
   go_region_held (fun V => V.cell? ⟨w2.heap.size, 0, none⟩ = some (.int .i64 n) ∧ V.cell? ⟨w2.heap.size, 1, none⟩ = some (.int .i64 k) ∧ V.cell? ⟨w2.heap.size, 2, none⟩ = some (.int .i64 d)) (with_reducible exact HC.out)
    ((first
     | (go_at_call 17; (with_reducible refine (HAl.out _ HE.out).mono ?_); rintro e9 w9 ⟨rfl, rfl⟩)
     | (go_at_call 18; (with_reducible refine (HRa.out _).mono ?_); rintro e9 w9 ⟨rfl, hb9⟩; replace HC := Lib.hid (C3.below HC.out hb9); replace HE := Lib.hid (HE.out.below hb9); clear hb9)
     | (go_at_call 19; (with_reducible refine (HB.out _ HE.out).mono ?_); rintro e9 w9 ⟨rfl, hb9⟩; replace HC := Lib.hid (C3.below HC.out hb9); replace HE := Lib.hid (HE.out.below hb9); clear hb9)
     | (go_at_call 13; (with_reducible refine (works_calls PS Z _).mono ?_); rintro e9 w9 ⟨rfl, hb9⟩; replace HC := Lib.hid (C3.below HC.out hb9); replace HE := Lib.hid (HE.out.below hb9); clear hb9)))
   go_wp2_with fail
   go_ret
   exact ⟨rfl, HE.out.bel⟩
end Go.Proofs.YtimcmdnlhallmaaGreat.msrNew

namespace Go.Proofs.YtimcmdnlhallmaaGreat.msrNew
open Go.ChangeShapes Go.WideShapes Go.ChangeAt Go.RowKit
open Go.ChangeMaps (open_string shut_string)
set_option linter.unusedVariables false
theorem own : ownKnob Tryz.prog.godebug = none := by kernel_rfl
theorem laidOut : laidOutB Tryz.prog = true := by kernel_rfl
set_option maxRecDepth 100000 in
theorem contract (H : Type) (enc : TypeId × Value → H) (W : World) (base : Nat) (args : Array Value) (ds gs : List (DataW H)) (before : List MemPlace)
  (hval : ∀ (j : Nat) t v, Tryz.f3.params[j]? = some t → args[j]? = some v → Value.okWide Tryz.prog W .any base t v)
  (hW : DataW.Whole enc Tryz.prog Tryz.f3.params.toList Rows.msrNewSpec.vars false W args.toList ds gs before)
  (hsz : (DataW.weightsEach Tryz.prog (Tryz.f3.params.toList ++ Rows.msrNewSpec.plain.varTypes Tryz.prog) (ds ++ gs)).all (· ≤ reachBytes) = true) :
  Calls Tryz.prog 3 args W fun e W' => ∃ v, e = .returned v ∧ Rows.msrNewSpec.post enc Tryz.prog Tryz.f3 false true false false W args v W' := by
 have hW' := hW
 obtain ⟨p, q, hA0, hV, rfl, hfz, hnd⟩ := hW
 have hA : DataW.TrodAll enc Tryz.prog W 0 (fun _ => true) true Tryz.f3.params.toList args.toList ds p := hA0
 rw [Tryz.params3] at hA hval hsz
 obtain ⟨v0, vs0, d0, ds0, p0, q0, hargs, rfl, rfl, h0, r0⟩ := trodAll_cons hA
 obtain ⟨v1, vs1, d1, ds1, p1, q1, rfl, rfl, rfl, h1, r1⟩ := trodAll_cons r0
 obtain ⟨v2, vs2, d2, ds2, p2, q2, rfl, rfl, rfl, h2, r2⟩ := trodAll_cons r1
 obtain ⟨rfl, rfl, rfl⟩ := trodAll_nil r2
 obtain rfl : args = #[v0, v1, v2] := by cases args; simp_all
 obtain ⟨rfl, rfl⟩ := trodVars_none hV
 obtain ⟨n0, rfl, rfl, rfl, w0⟩ := open_int Tryz.underlying3 (hval 0 3 v0 rfl rfl) h0
 have b0 := wf_bounds_i64 w0
 obtain ⟨n1, rfl, rfl, rfl, w1⟩ := open_int Tryz.underlying3 (hval 1 3 v1 rfl rfl) h1
 have b1 := wf_bounds_i64 w1
 obtain ⟨n2, rfl, rfl, rfl, w2⟩ := open_int Tryz.underlying3 (hval 2 3 v2 rfl rfl) h2
 have b2 := wf_bounds_i64 w2
 clear hA0
 refine (walk Poly.spec (Wl.spec Poly.spec) W n0 b0.1 b0.2 n1 b1.1 b1.2 n2 b2.1 b2.2 ).mono fun e W' ⟨he, bel⟩ => ?_
 subst he
 exact ⟨_, rfl, _, _, _, [], _, [], hW', trodAll_mk1 (shut_bool Tryz.underlying4 _), (trodAll_cons_mk (shut_int Tryz.underlying3 w0) (trodAll_cons_mk (shut_int Tryz.underlying3 w1) (trodAll_cons_mk (shut_int Tryz.underlying3 w2) trodAll_mk0))), rfl, bel.frame _, fun h => by cases h⟩
set_option maxRecDepth 100000 in
theorem lifted (os : Os) (started : os.Started) (H : Type) (enc : TypeId × Value → H) :
  ReturnsInHanded {} Tryz.checked os 3 .any (Rows.msrNewSpec.pre6 enc Tryz.prog Tryz.f3 Rows.msrNewRow.domain false) (Rows.msrNewSpec.post enc Tryz.prog Tryz.f3 false true false false) := by
 refine returnsInHanded_of_change_sized (C := Tryz.checked) own started (by kernel_rfl) Tryz.func3
  (ChangeSpec.witness6 (enc := enc) (C := Tryz.checked) false ⟨#[], #[.int .i64 0, .int .i64 0, .int .i64 0], []⟩ 8 (by kernel_rfl) (by kernel_rfl) (by kernel_rfl) (by kernel_rfl)) ?_
 intro W base args ds gs before hval hW _ hsz _
 exact contract H enc W base args ds gs before hval hW hsz
theorem proved : Rows.MsrNewSaid :=
 OpenClaim.holds_of_wide 3 Tryz.f3 rfl rfl rfl rfl rfl rfl rfl ⟨rfl, rfl, rfl, rfl, rfl⟩ rfl rfl rfl rfl rfl (by kernel_rfl) Tryz.func3 (by kernel_rfl)
  (of_decide_eq_true (by kernel_rfl)) (by unfold Func.isWrapper; first | (rw [if_pos (by decide +kernel)]; kernel_rfl) | (rw [if_neg (by decide +kernel)]; exact ⟨rfl, rfl⟩))
  (fun os started H enc _ => lifted os started H enc)
end Go.Proofs.YtimcmdnlhallmaaGreat.msrNew
