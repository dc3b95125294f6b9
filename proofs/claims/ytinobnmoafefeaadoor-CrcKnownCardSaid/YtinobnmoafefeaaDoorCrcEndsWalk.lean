/- The walk of CrcEnds: of rows that end alike the Sums are the same just if those of the parts ahead are. -/
import Derived.Test.YtinobnmoafefeaaDoorCrcLawWalks
namespace Go.Proofs.YtinobnmoafefeaaDoor.crcEnds
open Go.RowKit Crc
set_option linter.unusedVariables false

set_option maxHeartbeats 400000 in
set_option maxRecDepth 100000 in
theorem walk (w : World) (A0 : Option Addr) (l0 : List Nat) (c0 : Nat) (hb0 : Bytes w A0 l0) (hc0 : l0.length ≤ c0) (hm0 : c0 ≤ 9223372036854775807) (A1 : Option Addr) (l1 : List Nat) (c1 : Nat) (hb1 : Bytes w A1 l1) (hc1 : l1.length ≤ c1) (hm1 : c1 ≤ 9223372036854775807) (A2 : Option Addr) (l2 : List Nat) (c2 : Nat) (hb2 : Bytes w A2 l2) (hc2 : l2.length ≤ c2) (hm2 : c2 ≤ 9223372036854775807) (ht : Crc.Tab w) :
    Calls Tryd.prog 6 #[.slice A0 l0.length c0, .slice A1 l1.length c1, .slice A2 l2.length c2] w fun e w' => e = .returned (.bool true) ∧ Below w.heap.size w w' := by
  have HT := Lib.hid ht; clear ht
  have H0 := Lib.hid hb0; clear hb0
  have H1 := Lib.hid hb1; clear hb1
  have H2 := Lib.hid hb2; clear hb2
  by_cases g0 : (500 : Int) < (l0.length : Int)
  · go_enter Tryd.func6, Tryd.ntmps6
    go_wp2_with (go_at_call 12; refine (works_calls _ HT.out).mono ?_; rintro e w2 ⟨rfl, hb3⟩)
    go_ret
    exact ⟨rfl, hb3⟩
  by_cases g1 : (500 : Int) < (l1.length : Int)
  · go_enter Tryd.func6, Tryd.ntmps6
    go_wp2_with (go_at_call 12; refine (works_calls _ HT.out).mono ?_; rintro e w2 ⟨rfl, hb3⟩)
    go_ret
    exact ⟨rfl, hb3⟩
  by_cases g2 : (500 : Int) < (l2.length : Int)
  · go_enter Tryd.func6, Tryd.ntmps6
    go_wp2_with (go_at_call 12; refine (works_calls _ HT.out).mono ?_; rintro e w2 ⟨rfl, hb3⟩)
    go_ret
    exact ⟨rfl, hb3⟩
  have HE := Lib.hid (sum_ends l0 l1 l2 H0.out.lt H1.out.lt H2.out.lt)
  go_enter Tryd.func6, Tryd.ntmps6
  go_wp2_with (first
    | (at_builtin
       refine wpList_app _ rfl (.tmp 23) (.tmp 24) _ rfl w.heap.size 5 _ 1 Tryd.underlying26 info_u8 rfl (by omega) _ (bv []) rfl (own_empty w _ (Nat.le_refl _)) A0 l0.length c0 (bv l0) rfl (bv_length l0) (H0.out.alloc _).row (bv_one l0) (by simp [bv]; omega) (by simp) ?_
       intro v1 w1 ho1 hg1 hat1
       have hb1 : Below w.heap.size w w1 := ((Below.refl _ _).alloc (Nat.le_refl _) _).trans ((own_empty w _ (Nat.le_refl _)).grew (by simp) hg1)
       clear hg1 hat1)
    | (at_builtin
       refine wpList_app _ rfl (.tmp 25) (.tmp 26) _ rfl w.heap.size 5 _ 1 Tryd.underlying26 info_u8 rfl (by omega) v1 (bv [] ++ bv l0) rfl ho1 A2 l2.length c2 (bv l2) rfl (bv_length l2) (H2.out.below hb1).row (bv_one l2) (by simp [bv]; omega) hb1.size ?_
       intro v2 w2 ho2 hg2 hat2
       have hb2 : Below w.heap.size w w2 := hb1.trans (ho1.grew hb1.size hg2)
       clear hg2 hat2)
    | (at_builtin
       refine wpList_app _ rfl (.tmp 28) (.tmp 29) _ rfl w2.heap.size 5 _ 1 Tryd.underlying26 info_u8 rfl (by omega) _ (bv []) rfl (own_empty w2 _ (Nat.le_refl _)) A1 l1.length c1 (bv l1) rfl (bv_length l1) ((H1.out.below hb2).alloc _).row (bv_one l1) (by simp [bv]; omega) (by simp) ?_
       intro v3 w3 ho3 hg3 hat3
       have hb3 : Below w2.heap.size w2 w3 := ((Below.refl _ _).alloc (Nat.le_refl _) _).trans ((own_empty w2 _ (Nat.le_refl _)).grew (by simp) hg3)
       clear hg3 hat3)
    | (at_builtin
       refine wpList_app _ rfl (.tmp 30) (.tmp 31) _ rfl w2.heap.size 5 _ 1 Tryd.underlying26 info_u8 rfl (by omega) v3 (bv [] ++ bv l1) rfl ho3 A2 l2.length c2 (bv l2) rfl (bv_length l2) ((H2.out.below hb2).below hb3).row (bv_one l2) (by simp [bv]; omega) hb3.size ?_
       intro v4 w4 ho4 hg4 hat4
       have hb4 : Below w2.heap.size w2 w4 := hb3.trans (ho3.grew hb3.size hg4)
       clear hg4 hat4)
    | fail)
  have hB4 : Below w.heap.size w w4 := hb2.trans (hb4.mono hb2.size)
  have hT4 := HT.out.below hB4
  have e2 : bv [] ++ bv l0 ++ bv l2 = bv (l0 ++ l2) := by simp [bv]
  have e4 : bv [] ++ bv l1 ++ bv l2 = bv (l1 ++ l2) := by simp [bv]
  rw [e2] at ho2
  rw [e4] at ho4
  clear e2 e4 ho1 ho3
  (with_reducible refine (sum_own (l0 ++ l2) w4 (ho2.below hb4) (app_lt H0.out.lt H2.out.lt) (by simp; omega) hT4).mono ?_)
  rintro e w5 ⟨rfl, n5, rfl⟩
  go_wp2_with fail
  (with_reducible refine (sum_own (l1 ++ l2) _ (ho4.drewN n5) (app_lt H1.out.lt H2.out.lt) (by simp; omega) (hT4.drewN _)).mono ?_)
  rintro e w6 ⟨rfl, n6, rfl⟩
  go_wp2_with fail
  (with_reducible refine (sum_calls A0 l0 c0 _ ((H0.out.below hB4).drewN _) (by omega) (hT4.drewN _)).mono ?_)
  rintro e w7 ⟨rfl, n7, rfl⟩
  go_wp2_with fail
  (with_reducible refine (sum_calls A1 l1 c1 _ ((H1.out.below hB4).drewN _) (by omega) (hT4.drewN _)).mono ?_)
  rintro e w8 ⟨rfl, n8, rfl⟩
  by_cases hq : sum l0 = sum l1
  · have hd : ((sum (l0 ++ l2) : Int) == (sum (l1 ++ l2) : Int)) = true := by rw [HE.out.2 hq]; simp
    have hd2 : ((sum l0 : Int) == (sum l1 : Int)) = true := by rw [hq]; simp
    clear hq
    go_wp2_with (go_at_call 12; refine (works_calls _ (hT4.drewN _)).mono ?_; rintro e w9 ⟨rfl, hb9⟩)
    go_ret
    exact ⟨rfl, (Below.drewN' hB4 _).trans (hb9.mono hB4.size)⟩
  · have hd : ((sum (l0 ++ l2) : Int) == (sum (l1 ++ l2) : Int)) = false := by
      have hne : sum (l0 ++ l2) ≠ sum (l1 ++ l2) := fun h => hq (HE.out.1 h)
      rw [beq_eq_false_iff_ne]; omega
    have hd2 : ((sum l0 : Int) == (sum l1 : Int)) = false := by rw [beq_eq_false_iff_ne]; omega
    clear hq
    go_wp2_with (go_at_call 12; refine (works_calls _ (hT4.drewN _)).mono ?_; rintro e w9 ⟨rfl, hb9⟩)
    go_ret
    exact ⟨rfl, (Below.drewN' hB4 _).trans (hb9.mono hB4.size)⟩
end Go.Proofs.YtinobnmoafefeaaDoor.crcEnds
