/- The walk of CrcAmid: rows that differ in four bytes, one behind the other, have unlike Sums. -/
import Derived.Test.YtinobnmoafefeaaDoorCrcLawWalks
namespace Go.Proofs.YtinobnmoafefeaaDoor.crcAmid
open Go.RowKit Crc
set_option linter.unusedVariables false

set_option maxHeartbeats 400000 in
set_option maxRecDepth 100000 in
theorem walk (w : World) (A0 : Option Addr) (l0 : List Nat) (c0 : Nat) (hb0 : Bytes w A0 l0) (hc0 : l0.length ≤ c0) (hm0 : c0 ≤ 9223372036854775807) (A1 : Option Addr) (l1 : List Nat) (c1 : Nat) (hb1 : Bytes w A1 l1) (hc1 : l1.length ≤ c1) (hm1 : c1 ≤ 9223372036854775807) (n2 : Nat) (hn2 : n2 < 4294967296) (n3 : Nat) (hn3 : n3 < 4294967296) (ht : Crc.Tab w) :
    Calls Tryd.prog 8 #[.slice A0 l0.length c0, .slice A1 l1.length c1, .int .u32 (n2 : Nat), .int .u32 (n3 : Nat)] w fun e w' => e = .returned (.bool true) ∧ Below w.heap.size w w' := by
  have HT := Lib.hid ht; clear ht
  have H0 := Lib.hid hb0; clear hb0
  have H1 := Lib.hid hb1; clear hb1
  by_cases g0 : (500 : Int) < (l0.length : Int)
  · go_enter Tryd.func8, Tryd.ntmps8
    go_wp2_with (go_at_call 12; refine (works_calls _ HT.out).mono ?_; rintro e w2 ⟨rfl, hb3⟩)
    go_ret
    exact ⟨rfl, hb3⟩
  by_cases g1 : (500 : Int) < (l1.length : Int)
  · go_enter Tryd.func8, Tryd.ntmps8
    go_wp2_with (go_at_call 12; refine (works_calls _ HT.out).mono ?_; rintro e w2 ⟨rfl, hb3⟩)
    go_ret
    exact ⟨rfl, hb3⟩
  have HE := sum_amid l0 l1 n2 n3 hn2 hn3 H0.out.lt H1.out.lt
  rw [List.append_assoc, List.append_assoc] at HE
  replace HE := Lib.hid HE
  have L0 := Lib.hid H0.out.lt
  have L1 := Lib.hid H1.out.lt
  go_enter Tryd.func8, Tryd.ntmps8
  go_wp2_with fail
  refine (four_calls A0 l0 c0 n2 w H0.out (by omega) hn2).mono ?_
  rintro e w1 ⟨v1, rfl, ho1, hb1⟩
  go_wp2_with (first
    | (at_builtin
       refine wpList_app _ rfl (.tmp 22) (.tmp 23) _ rfl w.heap.size 5 _ 1 Tryd.underlying26 info_u8 rfl (by omega) v1 (bv (l0 ++ le n2 4)) rfl ho1.out A1 l1.length c1 (bv l1) rfl (bv_length l1) (H1.out.below hb1).row (bv_one l1) (by simp [bv, le]; omega) hb1.size ?_
       intro v2 w2 ho2 hg2 hat2
       have hb2 : Below w.heap.size w w2 := hb1.trans (ho1.out.grew hb1.size hg2)
       clear hg2 hat2)
    | fail)
  refine (four_calls A0 l0 c0 n3 w2 (H0.out.below hb2) (by omega) hn3).mono ?_
  rintro e w3 ⟨v3, rfl, ho3, hb3⟩
  go_wp2_with (first
    | (at_builtin
       refine wpList_app _ rfl (.tmp 27) (.tmp 28) _ rfl w2.heap.size 5 _ 1 Tryd.underlying26 info_u8 rfl (by omega) v3 (bv (l0 ++ le n3 4)) rfl ho3.out A1 l1.length c1 (bv l1) rfl (bv_length l1) ((H1.out.below hb2).below hb3).row (bv_one l1) (by simp [bv, le]; omega) hb3.size ?_
       intro v4 w4 ho4 hg4 hat4
       have hb4 : Below w2.heap.size w2 w4 := hb3.trans (ho3.out.grew hb3.size hg4)
       clear hg4 hat4)
    | fail)
  have hB4 : Below w.heap.size w w4 := hb2.trans (hb4.mono hb2.size)
  have hT4 := HT.out.below hB4
  rw [← bv_append, List.append_assoc] at ho2 ho4
  clear ho1 ho3
  (with_reducible refine (sum_own (l0 ++ (le n2 4 ++ l1)) w4 (ho2.below hb4) (app_lt L0.out (app_lt (le_lt _ _) L1.out)) (by simp [le]; omega) hT4).mono ?_)
  rintro e w5 ⟨rfl, n5, rfl⟩
  go_wp2_with fail
  (with_reducible refine (sum_own (l0 ++ (le n3 4 ++ l1)) _ (ho4.drewN n5) (app_lt L0.out (app_lt (le_lt _ _) L1.out)) (by simp [le]; omega) (hT4.drewN _)).mono ?_)
  rintro e w6 ⟨rfl, n6, rfl⟩
  by_cases hq : n2 = n3
  · have hd : ((sum (l0 ++ (le n2 4 ++ l1)) : Int) == (sum (l0 ++ (le n3 4 ++ l1)) : Int)) = true := by rw [HE.out.2 hq]; simp
    have hd2 : ((n2 : Int) == (n3 : Int)) = true := by rw [hq]; simp
    clear hq
    go_wp2_with (go_at_call 12; refine (works_calls _ (hT4.drewN _)).mono ?_; rintro e w9 ⟨rfl, hb9⟩)
    go_ret
    exact ⟨rfl, (Below.drewN' hB4 _).trans (hb9.mono hB4.size)⟩
  · have hd : ((sum (l0 ++ (le n2 4 ++ l1)) : Int) == (sum (l0 ++ (le n3 4 ++ l1)) : Int)) = false := by
      have hne : sum (l0 ++ (le n2 4 ++ l1)) ≠ sum (l0 ++ (le n3 4 ++ l1)) := fun h => hq (HE.out.1 h)
      rw [beq_eq_false_iff_ne]; omega
    have hd2 : ((n2 : Int) == (n3 : Int)) = false := by rw [beq_eq_false_iff_ne]; omega
    clear hq
    go_wp2_with (go_at_call 12; refine (works_calls _ (hT4.drewN _)).mono ?_; rintro e w9 ⟨rfl, hb9⟩)
    go_ret
    exact ⟨rfl, (Below.drewN' hB4 _).trans (hb9.mono hB4.size)⟩
end Go.Proofs.YtinobnmoafefeaaDoor.crcAmid
