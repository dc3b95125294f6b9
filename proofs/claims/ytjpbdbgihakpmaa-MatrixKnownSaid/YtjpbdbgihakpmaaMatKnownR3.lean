/- MatrixKnown's drawn region, case 3. -/
import Derived.Test.YtjpbdbgihakpmaaMatKnownKit
namespace Go.Proofs.Ytjpbdbgihakpmaa.matrixKnown
open Go.RowKit F8 GF Poly Mat
set_option linter.unusedVariables false
set_option maxRecDepth 100000 in
set_option maxHeartbeats 40000000 in
theorem region3 (u0 u1 u2 u3 u4 u5 u7 u10 u11 u12 u13 u14 u15 u16 u17 u18 u19 u20 u21 u22 u23 u24 u25 u26 u27 u28 u29 u30 u31 u32 u33 u34 u35 u36 u37 u38 u39 u40 u41 u42 u43 u44 u45 u46 u47 u48 u49 u50 u51 u52 u53 u54 u55 u56 u57 u58 u59 u60 u61 u62 u63 u64 u65 u66 u67 u68 u69 u70 u71 u72 u73 u74 u75 u76 u77 u78 u79 u80 u81 u82 u83 u84 u85 u86 u87 u88 u89 u90 u91 u92 u93 u94 u95 u96 u97 u98 u99 u100 u101 u102 u103 u104 u105 u106 u107 u108 u109 u110 u111 u112 u113 u114 u115 u116 u117 u118 u119 u120 u121 u122 u123 u124 u125 u126 u127 u128 u129 u130 u131 u132 u133 u134 u135 u136 u137 u138 u139 u140 u141 u142 u143 u144 u145 u146 u147 u148 u149 u150 u151 u152 u153 u154 u155 u156 u157 u158 u159 u160 u161 u162 u163 u164 u165 u166 u167 u168 u169 u170 u171 u172 u173 u174 u175 u176 u177 u178 u179 u180 u181 u182 u183 u184 u185 u186 : Value) (n c : Int) (b2 : Nat) (v2 : World) (rb : Bool) (hn1 : -1 ≤ n) (hn2 : n ≤ 4611686018427387904) (hc1 : -1 ≤ c) (hc2 : c ≤ 4611686018427387904) (hrb : RightB n c 0 = rb) (hm : Block v2 b2 24 #[.int .i64 n, .int .i64 c, .slice none 0 0]) (h9 : ¬ n < 9)
  (Q : Exit → Act → World → Prop) (hP : ∀ ch d v a w, Q (.panic ch) (Act.put a (some d) v) w → Q (.panic ch) a w)
  (hQ : ∀ x153 x154 x156 x157 V, Below v2.heap.size v2 V → Q .normal ⟨(u0 :: u1 :: u2 :: u3 :: u4 :: u5 :: (.int .i64 n) :: u7 :: (.int .i64 c) :: (.pointer (some ⟨b2, 0, none⟩)) :: u10 :: u11 :: u12 :: u13 :: u14 :: u15 :: u16 :: u17 :: u18 :: u19 :: u20 :: u21 :: u22 :: u23 :: u24 :: u25 :: u26 :: u27 :: u28 :: u29 :: u30 :: u31 :: u32 :: u33 :: u34 :: u35 :: u36 :: u37 :: u38 :: u39 :: u40 :: u41 :: u42 :: u43 :: u44 :: u45 :: u46 :: u47 :: u48 :: u49 :: u50 :: u51 :: u52 :: u53 :: u54 :: u55 :: u56 :: u57 :: u58 :: u59 :: u60 :: u61 :: u62 :: u63 :: u64 :: u65 :: u66 :: u67 :: u68 :: u69 :: u70 :: u71 :: u72 :: u73 :: u74 :: u75 :: u76 :: u77 :: u78 :: u79 :: u80 :: u81 :: u82 :: u83 :: u84 :: u85 :: u86 :: u87 :: u88 :: u89 :: u90 :: u91 :: u92 :: u93 :: u94 :: u95 :: u96 :: u97 :: u98 :: u99 :: u100 :: u101 :: u102 :: u103 :: u104 :: u105 :: u106 :: u107 :: u108 :: u109 :: u110 :: u111 :: u112 :: u113 :: u114 :: u115 :: u116 :: u117 :: u118 :: u119 :: u120 :: u121 :: u122 :: u123 :: u124 :: u125 :: u126 :: u127 :: (.int .i64 n) :: (.bool false) :: (.bool false) :: undef :: undef :: (.bool false) :: (.bool false) :: undef :: undef :: undef :: undef :: undef :: undef :: undef :: undef :: undef :: undef :: undef :: undef :: undef :: undef :: undef :: undef :: (.bool false) :: (.bool false) :: x153 :: x154 :: (.int .i64 c) :: x156 :: x157 :: (.int .i64 n) :: (.bool true) :: (.bool false) :: (.bool false) :: (.bool false) :: (.agg #[.int .i64 n, .int .i64 c, .slice none 0 0]) :: (.bool rb) :: (.agg #[.int .i64 n, .int .i64 c, .slice none 0 0]) :: (.agg #[.int .i64 n, .int .i64 c, .slice none 0 0]) :: (.bool rb) :: (.bool false) :: (.bool false) :: u170 :: u171 :: u172 :: u173 :: u174 :: u175 :: u176 :: u177 :: u178 :: u179 :: u180 :: u181 :: u182 :: u183 :: u184 :: u185 :: u186 :: []).toArray, []⟩ V) :
  Code.wp Try.prog (regAt Try.f3 16) Q ⟨(u0 :: u1 :: u2 :: u3 :: u4 :: u5 :: (.int .i64 n) :: u7 :: (.int .i64 c) :: (.pointer (some ⟨b2, 0, none⟩)) :: u10 :: u11 :: u12 :: u13 :: u14 :: u15 :: u16 :: u17 :: u18 :: u19 :: u20 :: u21 :: u22 :: u23 :: u24 :: u25 :: u26 :: u27 :: u28 :: u29 :: u30 :: u31 :: u32 :: u33 :: u34 :: u35 :: u36 :: u37 :: u38 :: u39 :: u40 :: u41 :: u42 :: u43 :: u44 :: u45 :: u46 :: u47 :: u48 :: u49 :: u50 :: u51 :: u52 :: u53 :: u54 :: u55 :: u56 :: u57 :: u58 :: u59 :: u60 :: u61 :: u62 :: u63 :: u64 :: u65 :: u66 :: u67 :: u68 :: u69 :: u70 :: u71 :: u72 :: u73 :: u74 :: u75 :: u76 :: u77 :: u78 :: u79 :: u80 :: u81 :: u82 :: u83 :: u84 :: u85 :: u86 :: u87 :: u88 :: u89 :: u90 :: u91 :: u92 :: u93 :: u94 :: u95 :: u96 :: u97 :: u98 :: u99 :: u100 :: u101 :: u102 :: u103 :: u104 :: u105 :: u106 :: u107 :: u108 :: u109 :: u110 :: u111 :: u112 :: u113 :: u114 :: u115 :: u116 :: u117 :: u118 :: u119 :: u120 :: u121 :: u122 :: u123 :: u124 :: u125 :: u126 :: u127 :: u128 :: u129 :: u130 :: u131 :: u132 :: u133 :: u134 :: u135 :: u136 :: u137 :: u138 :: u139 :: u140 :: u141 :: u142 :: u143 :: u144 :: u145 :: u146 :: u147 :: u148 :: u149 :: u150 :: u151 :: u152 :: u153 :: u154 :: u155 :: u156 :: u157 :: u158 :: u159 :: u160 :: u161 :: u162 :: u163 :: u164 :: u165 :: u166 :: u167 :: u168 :: u169 :: u170 :: u171 :: u172 :: u173 :: u174 :: u175 :: u176 :: u177 :: u178 :: u179 :: u180 :: u181 :: u182 :: u183 :: u184 :: u185 :: u186 :: []).toArray, []⟩ v2 := by
 conv => arg 2; whnf
 have R1 : ∀ V, Calls Try.prog 19 #[.agg #[.int .i64 n, .int .i64 c, .slice none 0 0]] V fun e V2 => e = .returned (.bool rb) ∧ Below V.heap.size V V2 := fun V => by rw [← hrb]; exact right_calls n c none 0 0 V
 have R2 : ∀ V, Calls Try.prog 20 #[.agg #[.int .i64 n, .int .i64 c, .slice none 0 0]] V fun e V2 => e = .returned (.bool rb) ∧ Below V.heap.size V V2 := fun V => by rw [← hrb]; exact refRight_calls n c none 0 0 V
 have HR1 := Lib.hid R1
 have HR2 := Lib.hid R2
 have K1 := Lib.hid (oneN n c ⟨hn1, hn2⟩ ⟨hc1, hc2⟩)
 have K2 := Lib.hid (twoN n c ⟨hn1, hn2⟩ ⟨hc1, hc2⟩)
 have K3 := Lib.hid (solvesN n c ⟨hn1, hn2⟩ ⟨hc1, hc2⟩)
 have hnH := Lib.hid (And.intro hn1 hn2)
 have HQ := Lib.hid hQ
 clear R1 R2 hrb hn1 hn2 hc1 hc2 hQ
 have HL : Below v2.heap.size v2 v2.drew := (Below.refl _ _).drew
 obtain ⟨q0, q1, q2⟩ := cells3 (hm.below HL hm.lt)
 have hd1 : decide (n < 9) = false := by simpa using h9
 refine wp_region_held_drew (S := fun wz => wz.cell? ⟨b2, 0, none⟩ = some (.int .i64 n) ∧ wz.cell? ⟨b2, 1, none⟩ = some (.int .i64 c) ∧ wz.cell? ⟨b2, 2, none⟩ = some (.slice none 0 0)) (by kernel_rfl) ⟨q0, q1, q2⟩ (fun hH => ?_)
 refine tk 0 128 (.int .i64 n) hP rfl rfl (by kernel_rfl) (by kernel_rfl) (by kernel_rfl) (Or.inl ⟨by kernel_rfl, fun W hW => by go_simp⟩) hH ?_
 simp only [Act.put, List.setIfInBounds_toArray, List.set_cons_zero, List.set_cons_succ]
 refine tk 1 129 (.bool false) hP rfl rfl (by kernel_rfl) (by kernel_rfl) (by kernel_rfl) (Or.inl ⟨by kernel_rfl, fun W hW => by go_simp⟩) hH ?_
 simp only [Act.put, List.setIfInBounds_toArray, List.set_cons_zero, List.set_cons_succ]
 refine tk 2 130 (.bool false) hP rfl rfl (by kernel_rfl) (by kernel_rfl) (by kernel_rfl) (Or.inl ⟨by kernel_rfl, fun W hW => by go_simp⟩) hH ?_
 simp only [Act.put, List.setIfInBounds_toArray, List.set_cons_zero, List.set_cons_succ]
 refine tk 3 131 undef hP rfl rfl (by kernel_rfl) (by kernel_rfl) (by kernel_rfl) (Or.inr ⟨by kernel_rfl, rfl⟩) hH ?_
 simp only [Act.put, List.setIfInBounds_toArray, List.set_cons_zero, List.set_cons_succ]
 refine tk 4 132 undef hP rfl rfl (by kernel_rfl) (by kernel_rfl) (by kernel_rfl) (Or.inr ⟨by kernel_rfl, rfl⟩) hH ?_
 simp only [Act.put, List.setIfInBounds_toArray, List.set_cons_zero, List.set_cons_succ]
 refine tk 5 133 (.bool false) hP rfl rfl (by kernel_rfl) (by kernel_rfl) (by kernel_rfl) (Or.inl ⟨by kernel_rfl, fun W hW => by go_simp⟩) hH ?_
 simp only [Act.put, List.setIfInBounds_toArray, List.set_cons_zero, List.set_cons_succ]
 refine tk 6 134 (.bool false) hP rfl rfl (by kernel_rfl) (by kernel_rfl) (by kernel_rfl) (Or.inl ⟨by kernel_rfl, fun W hW => by go_simp⟩) hH ?_
 simp only [Act.put, List.setIfInBounds_toArray, List.set_cons_zero, List.set_cons_succ]
 refine tk 7 135 undef hP rfl rfl (by kernel_rfl) (by kernel_rfl) (by kernel_rfl) (Or.inr ⟨by kernel_rfl, rfl⟩) hH ?_
 simp only [Act.put, List.setIfInBounds_toArray, List.set_cons_zero, List.set_cons_succ]
 refine tk 8 136 undef hP rfl rfl (by kernel_rfl) (by kernel_rfl) (by kernel_rfl) (Or.inr ⟨by kernel_rfl, rfl⟩) hH ?_
 simp only [Act.put, List.setIfInBounds_toArray, List.set_cons_zero, List.set_cons_succ]
 refine tk 9 137 undef hP rfl rfl (by kernel_rfl) (by kernel_rfl) (by kernel_rfl) (Or.inr ⟨by kernel_rfl, rfl⟩) hH ?_
 simp only [Act.put, List.setIfInBounds_toArray, List.set_cons_zero, List.set_cons_succ]
 refine tk 10 138 undef hP rfl rfl (by kernel_rfl) (by kernel_rfl) (by kernel_rfl) (Or.inr ⟨by kernel_rfl, rfl⟩) hH ?_
 simp only [Act.put, List.setIfInBounds_toArray, List.set_cons_zero, List.set_cons_succ]
 refine tk 11 139 undef hP rfl rfl (by kernel_rfl) (by kernel_rfl) (by kernel_rfl) (Or.inr ⟨by kernel_rfl, rfl⟩) hH ?_
 simp only [Act.put, List.setIfInBounds_toArray, List.set_cons_zero, List.set_cons_succ]
 refine tk 12 140 undef hP rfl rfl (by kernel_rfl) (by kernel_rfl) (by kernel_rfl) (Or.inr ⟨by kernel_rfl, rfl⟩) hH ?_
 simp only [Act.put, List.setIfInBounds_toArray, List.set_cons_zero, List.set_cons_succ]
 refine tk 13 141 undef hP rfl rfl (by kernel_rfl) (by kernel_rfl) (by kernel_rfl) (Or.inr ⟨by kernel_rfl, rfl⟩) hH ?_
 simp only [Act.put, List.setIfInBounds_toArray, List.set_cons_zero, List.set_cons_succ]
 refine tk 14 142 undef hP rfl rfl (by kernel_rfl) (by kernel_rfl) (by kernel_rfl) (Or.inr ⟨by kernel_rfl, rfl⟩) hH ?_
 simp only [Act.put, List.setIfInBounds_toArray, List.set_cons_zero, List.set_cons_succ]
 refine tk 15 143 undef hP rfl rfl (by kernel_rfl) (by kernel_rfl) (by kernel_rfl) (Or.inr ⟨by kernel_rfl, rfl⟩) hH ?_
 simp only [Act.put, List.setIfInBounds_toArray, List.set_cons_zero, List.set_cons_succ]
 refine tk 16 144 undef hP rfl rfl (by kernel_rfl) (by kernel_rfl) (by kernel_rfl) (Or.inr ⟨by kernel_rfl, rfl⟩) hH ?_
 simp only [Act.put, List.setIfInBounds_toArray, List.set_cons_zero, List.set_cons_succ]
 refine tk 17 145 undef hP rfl rfl (by kernel_rfl) (by kernel_rfl) (by kernel_rfl) (Or.inr ⟨by kernel_rfl, rfl⟩) hH ?_
 simp only [Act.put, List.setIfInBounds_toArray, List.set_cons_zero, List.set_cons_succ]
 refine tk 18 146 undef hP rfl rfl (by kernel_rfl) (by kernel_rfl) (by kernel_rfl) (Or.inr ⟨by kernel_rfl, rfl⟩) hH ?_
 simp only [Act.put, List.setIfInBounds_toArray, List.set_cons_zero, List.set_cons_succ]
 refine tk 19 147 undef hP rfl rfl (by kernel_rfl) (by kernel_rfl) (by kernel_rfl) (Or.inr ⟨by kernel_rfl, rfl⟩) hH ?_
 simp only [Act.put, List.setIfInBounds_toArray, List.set_cons_zero, List.set_cons_succ]
 refine tk 20 148 undef hP rfl rfl (by kernel_rfl) (by kernel_rfl) (by kernel_rfl) (Or.inr ⟨by kernel_rfl, rfl⟩) hH ?_
 simp only [Act.put, List.setIfInBounds_toArray, List.set_cons_zero, List.set_cons_succ]
 refine tk 21 149 undef hP rfl rfl (by kernel_rfl) (by kernel_rfl) (by kernel_rfl) (Or.inr ⟨by kernel_rfl, rfl⟩) hH ?_
 simp only [Act.put, List.setIfInBounds_toArray, List.set_cons_zero, List.set_cons_succ]
 refine tk 22 150 undef hP rfl rfl (by kernel_rfl) (by kernel_rfl) (by kernel_rfl) (Or.inr ⟨by kernel_rfl, rfl⟩) hH ?_
 simp only [Act.put, List.setIfInBounds_toArray, List.set_cons_zero, List.set_cons_succ]
 refine tk 23 151 (.bool false) hP rfl rfl (by kernel_rfl) (by kernel_rfl) (by kernel_rfl) (Or.inl ⟨by kernel_rfl, fun W hW => by go_simp⟩) hH ?_
 simp only [Act.put, List.setIfInBounds_toArray, List.set_cons_zero, List.set_cons_succ]
 refine tk 24 152 (.bool false) hP rfl rfl (by kernel_rfl) (by kernel_rfl) (by kernel_rfl) (Or.inl ⟨by kernel_rfl, fun W hW => by go_simp⟩) hH ?_
 simp only [Act.put, List.setIfInBounds_toArray, List.set_cons_zero, List.set_cons_succ]
 refine tk 27 155 (.int .i64 c) hP rfl rfl (by kernel_rfl) (by kernel_rfl) (by kernel_rfl) (Or.inl ⟨by kernel_rfl, fun W hW => by go_simp⟩) hH ?_
 simp only [Act.put, List.setIfInBounds_toArray, List.set_cons_zero, List.set_cons_succ]
 refine tk 30 158 (.int .i64 n) hP rfl rfl (by kernel_rfl) (by kernel_rfl) (by kernel_rfl) (Or.inl ⟨by kernel_rfl, fun W hW => by go_simp⟩) hH ?_
 simp only [Act.put, List.setIfInBounds_toArray, List.set_cons_zero, List.set_cons_succ]
 refine wpAnyH_three (i := 25) (j := 28) (k := 29) (by kernel_rfl) rfl rfl rfl (by kernel_rfl) (by kernel_rfl) (by kernel_rfl) ?_ ?_ ?_
 all_goals
  go_simp
  refine and_keep (by (first | exact ⟨q0, q1, q2⟩ | exact ⟨cal q0, cal q1, cal q2⟩ | exact ⟨cal (cal q0), cal (cal q1), cal (cal q2)⟩ | exact ⟨cal (cal (cal q0)), cal (cal (cal q1)), cal (cal (cal q2))⟩)) (fun hH1 => ?_)
 refine tk 26 154 (.agg #[.int .i64 1, .int .i64 1, .slice (some ⟨v2.heap.size, 0, none⟩) 1 1]) hP rfl rfl (by kernel_rfl) (by kernel_rfl) (by kernel_rfl) (Or.inl ⟨by kernel_rfl, fun W hW => by go_simp⟩) hH1 ?_
 simp only [Act.put, List.setIfInBounds_toArray, List.set_cons_zero, List.set_cons_succ]
 refine wpAnyH_two (i := 28) (j := 29) (by kernel_rfl) rfl rfl (by kernel_rfl) (by kernel_rfl) ?_ ?_
 rotate_left 2
 refine wpAnyH_two (i := 25) (j := 29) (by kernel_rfl) rfl rfl (by kernel_rfl) (by kernel_rfl) ?_ ?_
 rotate_left 2
 refine wpAnyH_two (i := 25) (j := 28) (by kernel_rfl) rfl rfl (by kernel_rfl) (by kernel_rfl) ?_ ?_
 rotate_left 2
 all_goals
  go_simp
  refine and_keep (by (first | exact ⟨q0, q1, q2⟩ | exact ⟨cal q0, cal q1, cal q2⟩ | exact ⟨cal (cal q0), cal (cal q1), cal (cal q2)⟩ | exact ⟨cal (cal (cal q0)), cal (cal (cal q1)), cal (cal (cal q2))⟩)) (fun hH2 => ?_)
 refine wpAnyH_one (i := 29) (by kernel_rfl) rfl (by kernel_rfl) ?_
 rotate_left
 refine wpAnyH_one (i := 28) (by kernel_rfl) rfl (by kernel_rfl) ?_
 rotate_left
 refine tk 26 154 (.agg #[.int .i64 1, .int .i64 1, .slice (some ⟨v2.heap.size + 1, 0, none⟩) 1 1]) hP rfl rfl (by kernel_rfl) (by kernel_rfl) (by kernel_rfl) (Or.inl ⟨by kernel_rfl, fun W hW => by go_simp⟩) hH2 ?_
 simp only [Act.put, List.setIfInBounds_toArray, List.set_cons_zero, List.set_cons_succ]
 refine wpAnyH_one (i := 29) (by kernel_rfl) rfl (by kernel_rfl) ?_
 rotate_left
 refine wpAnyH_one (i := 25) (by kernel_rfl) rfl (by kernel_rfl) ?_
 rotate_left
 refine tk 26 154 (.agg #[.int .i64 1, .int .i64 1, .slice (some ⟨v2.heap.size + 1, 0, none⟩) 1 1]) hP rfl rfl (by kernel_rfl) (by kernel_rfl) (by kernel_rfl) (Or.inl ⟨by kernel_rfl, fun W hW => by go_simp⟩) hH2 ?_
 simp only [Act.put, List.setIfInBounds_toArray, List.set_cons_zero, List.set_cons_succ]
 refine wpAnyH_one (i := 28) (by kernel_rfl) rfl (by kernel_rfl) ?_
 rotate_left
 refine wpAnyH_one (i := 25) (by kernel_rfl) rfl (by kernel_rfl) ?_
 rotate_left
 all_goals
  go_simp
  refine and_keep (by (first | exact ⟨q0, q1, q2⟩ | exact ⟨cal q0, cal q1, cal q2⟩ | exact ⟨cal (cal q0), cal (cal q1), cal (cal q2)⟩ | exact ⟨cal (cal (cal q0)), cal (cal (cal q1)), cal (cal (cal q2))⟩)) (fun hH3 => ?_)
 rotate_left 3
 refine tk 26 154 (.agg #[.int .i64 1, .int .i64 1, .slice (some ⟨v2.heap.size + 1 + 1, 0, none⟩) 1 1]) hP rfl rfl (by kernel_rfl) (by kernel_rfl) (by kernel_rfl) (Or.inl ⟨by kernel_rfl, fun W hW => by go_simp⟩) hH3 ?_
 simp only [Act.put, List.setIfInBounds_toArray, List.set_cons_zero, List.set_cons_succ]
 rotate_left 2
 refine tk 26 154 (.agg #[.int .i64 1, .int .i64 1, .slice (some ⟨v2.heap.size + 1 + 1, 0, none⟩) 1 1]) hP rfl rfl (by kernel_rfl) (by kernel_rfl) (by kernel_rfl) (Or.inl ⟨by kernel_rfl, fun W hW => by go_simp⟩) hH3 ?_
 simp only [Act.put, List.setIfInBounds_toArray, List.set_cons_zero, List.set_cons_succ]
 rotate_left
 all_goals
  refine wpAnyH_one (i := 31) (by kernel_rfl) rfl (by kernel_rfl) ?_
  go_simp
  (with_reducible refine (makesN n c hnH.out ?hx ?hy ?hz).mono ?_)
  case hx | hy | hz => (first | with_reducible exact blkA _ _ _ _ _ | with_reducible exact blkB _ _ _ _ _ | with_reducible exact blkC _ _ _ _ _ | exact blkA _ _ _ _ _ | exact blkB _ _ _ _ _ | exact blkC _ _ _ _ _)
  rintro e V ⟨rfl, HN⟩
  have HL' := tr3 HL HN
  clear HL HN q0 q1 q2
  have HL := HL'
  clear HL'
  obtain ⟨q0, q1, q2⟩ := cells3 (hm.below HL hm.lt)
  refine ⟨⟨q0, q1, q2⟩, ?_⟩
  have hH4 := And.intro q0 (And.intro q1 q2)
  refine tk 32 160 (.bool false) hP rfl rfl (by kernel_rfl) (by kernel_rfl) (by kernel_rfl) (Or.inl ⟨by kernel_rfl, fun W hW => by go_simp⟩) hH4 ?_
  simp only [Act.put, List.setIfInBounds_toArray, List.set_cons_zero, List.set_cons_succ]
  refine tk 33 161 (.bool false) hP rfl rfl (by kernel_rfl) (by kernel_rfl) (by kernel_rfl) (Or.inl ⟨by kernel_rfl, fun W hW => by go_simp⟩) hH4 ?_
  simp only [Act.put, List.setIfInBounds_toArray, List.set_cons_zero, List.set_cons_succ]
  refine tk 34 162 (.bool false) hP rfl rfl (by kernel_rfl) (by kernel_rfl) (by kernel_rfl) (Or.inl ⟨by kernel_rfl, fun W hW => by go_simp⟩) hH4 ?_
  simp only [Act.put, List.setIfInBounds_toArray, List.set_cons_zero, List.set_cons_succ]
  refine tk 35 163 (.agg #[.int .i64 n, .int .i64 c, .slice none 0 0]) hP rfl rfl (by kernel_rfl) (by kernel_rfl) (by kernel_rfl) (Or.inl ⟨by kernel_rfl, fun W hW => by obtain ⟨s0, s1, s2⟩ := hW; go_simp⟩) hH4 ?_
  simp only [Act.put, List.setIfInBounds_toArray, List.set_cons_zero, List.set_cons_succ]
  refine tk 37 165 (.agg #[.int .i64 n, .int .i64 c, .slice none 0 0]) hP rfl rfl (by kernel_rfl) (by kernel_rfl) (by kernel_rfl) (Or.inl ⟨by kernel_rfl, fun W hW => by obtain ⟨s0, s1, s2⟩ := hW; go_simp⟩) hH4 ?_
  simp only [Act.put, List.setIfInBounds_toArray, List.set_cons_zero, List.set_cons_succ]
  refine wpAnyH_one (i := 36) (by kernel_rfl) rfl (by kernel_rfl) ?_
  go_simp
  (with_reducible refine (HR1.out _).mono ?_)
  rintro e V ⟨rfl, HN⟩
  have HL' := HL.trans (HN.mono HL.size)
  clear HL HN q0 q1 q2
  have HL := HL'
  clear HL'
  obtain ⟨q0, q1, q2⟩ := cells3 (hm.below HL hm.lt)
  refine ⟨⟨q0, q1, q2⟩, ?_⟩
  have hH5 := And.intro q0 (And.intro q1 q2)
  refine wpAnyH_one (i := 38) (by kernel_rfl) rfl (by kernel_rfl) ?_
  go_simp
  (with_reducible refine (plain_calls n c none 0 0 _).mono ?_)
  rintro e V ⟨rfl, HN⟩
  have HL' := HL.trans (HN.mono HL.size)
  clear HL HN q0 q1 q2
  have HL := HL'
  clear HL'
  obtain ⟨q0, q1, q2⟩ := cells3 (hm.below HL hm.lt)
  refine ⟨⟨q0, q1, q2⟩, ?_⟩
  have hH6 := And.intro q0 (And.intro q1 q2)
  refine wpAnyH_one (i := 39) (by kernel_rfl) rfl (by kernel_rfl) ?_
  go_simp
  (with_reducible refine (HR2.out _).mono ?_)
  rintro e V ⟨rfl, HN⟩
  have HL' := HL.trans (HN.mono HL.size)
  clear HL HN q0 q1 q2
  have HL := HL'
  clear HL'
  obtain ⟨q0, q1, q2⟩ := cells3 (hm.below HL hm.lt)
  refine ⟨⟨q0, q1, q2⟩, ?_⟩
  have hH7 := And.intro q0 (And.intro q1 q2)
  refine tk 40 168 (.bool false) hP rfl rfl (by kernel_rfl) (by kernel_rfl) (by kernel_rfl) (Or.inl ⟨by kernel_rfl, fun W hW => by go_simp⟩) hH7 ?_
  simp only [Act.put, List.setIfInBounds_toArray, List.set_cons_zero, List.set_cons_succ]
  refine tk 41 169 (.bool false) hP rfl rfl (by kernel_rfl) (by kernel_rfl) (by kernel_rfl) (Or.inl ⟨by kernel_rfl, fun W hW => by go_simp⟩) hH7 ?_
  simp only [Act.put, List.setIfInBounds_toArray, List.set_cons_zero, List.set_cons_succ]
  refine wpAnyH_done (by kernel_rfl) ?_ _
  exact HQ.out _ _ _ _ _ HL
end Go.Proofs.Ytjpbdbgihakpmaa.matrixKnown
