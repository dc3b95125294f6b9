/- What the program's Rank does. The program's reduce of a matrix without entries, and Rank of any. -/
import Derived.Test.YtjpbdbgihakpmaaMatSame
import Derived.Test.YtjpbdbgihakpmaaMatPart
namespace Go.Proofs.Ytjpbdbgihakpmaa.Mat
open Go.RowKit Go.Shelf F8 Poly GF
attribute [local go_sem] Oper.semAt_some

set_option maxRecDepth 100000 in
set_option maxHeartbeats 2000000 in
theorem rank_bad (R C : Int) (A : Option Addr) (n cap : Nat) (pf : Option Addr) (hR : RightB R C n = false) (w : World) :
    Calls Try.prog 46 #[.pointer pf, .agg #[.int .i64 R, .int .i64 C, .slice A n cap]] w fun e w' => e = .returned (.tuple #[.int .i64 0, .int .i64 50]) ∧ Below w.heap.size w w' := by
  obtain ⟨wa, hwa⟩ : ∃ wa, w.alloc (.cells #[.int .i64 R, .int .i64 C, .slice A n cap] 24) = wa := ⟨_, rfl⟩
  have hba : Block wa w.heap.size 24 #[.int .i64 R, .int .i64 C, .slice A n cap] := by rw [← hwa]; exact Block.new _ _ _
  have hBa : Below w.heap.size w wa := by rw [← hwa]; exact (Below.refl _ w).alloc (Nat.le_refl _) _
  have hsa : wa.heap.size = w.heap.size + 1 := by rw [← hwa]; simp
  obtain ⟨n0, n1', n2'⟩ := cells3 hba
  have HR := Lib.hid hR
  clear hR
  go_enter Try.func46, Try.ntmps46
  go_wp2_with fail
  refine (right_calls R C A n cap _).mono ?_
  rintro e w1 ⟨rfl, hB1⟩
  rw [HR.out]
  have hBw1 := hBa.trans (hB1.mono (by omega))
  clear hwa hba hB1 hBa n0 n1' n2'
  go_wp2
  exact bodyPost_ret (v := .tuple #[.int .i64 0, .int .i64 50]) (by simp [results, Try.results46, go_sem]) rfl ⟨rfl, hBw1⟩
theorem wp_to_any {α : Type} {P : Program} {c : Code} {Q : Exit → Act → World → Prop} {a : Act} {w : World} (a2 : α → Act) (R : α → World → Prop) (h : c.wp P (fun e a' w' => e = .normal ∧ ∃ m, a' = a2 m ∧ R m w') a w) (hK : ∀ m w', R m w' → Q .normal (a2 m) w') : c.wp P Q a w :=
  wp_mono h (by rintro e a w ⟨rfl, m, rfl, hr⟩; exact hK m _ hr)
/-- A rank has been told: what elimination left. -/
def RankRes (pf : Option Addr) (r c : Nat) (s : List F8) (w : World) (e : Ending) (w' : World) : Prop :=
  ∃ (k : Nat) (ord bg : List Nat) (t : List F8), e = .returned (.tuple #[.int .i64 k, .int .i64 0]) ∧ bg.length = k ∧ Red r c (ent s c) (ent t c) (fun i => ord.getD i 0) bg c ∧ FldP w' pf ∧ Past w.heap.size (rb w pf) w w'
set_option maxRecDepth 100000 in
set_option maxHeartbeats 4000000 in
theorem rank_pos (r c N cap : Nat) (A : Option Addr) (pf : Option Addr) (s : List F8) (hr : r ≤ 65536) (hc : c ≤ 65536) (hN : r * c = N) (hN0 : 0 < N) (hN9 : N ≤ 1000000000) (hl : s.length = N) (w : World) (hb : Bytes w A (bs s)) (hf : FldP w pf) :
    Calls Try.prog 46 #[.pointer pf, .agg #[.int .i64 r, .int .i64 c, .slice A N cap]] w (RankRes pf r c s w) := by
  have HR : Hid (RightB r c N = true) := Lib.hid (rightB_iff.2 ⟨r, c, rfl, rfl, hr, hc, hN.symm⟩)
  obtain ⟨wa, hwa⟩ : ∃ wa, w.alloc (.cells #[.int .i64 r, .int .i64 c, .slice A N cap] 24) = wa := ⟨_, rfl⟩
  have hba : Block wa w.heap.size 24 #[.int .i64 r, .int .i64 c, .slice A N cap] := by rw [← hwa]; exact Block.new _ _ _
  have hBa : Below w.heap.size w wa := by rw [← hwa]; exact (Below.refl _ w).alloc (Nat.le_refl _) _
  have hsa : wa.heap.size = w.heap.size + 1 := by rw [← hwa]; simp
  have hmx : Try.prog.follows .mixedOrders = true := by kernel_rfl
  obtain ⟨n0, n1', n2'⟩ := cells3 hba
  have HB := Lib.hid hb
  have HL := Lib.hid hl
  have HN := Lib.hid hN
  clear hb hl hN
  go_enter Try.func46, Try.ntmps46
  go_wp2_with fail
  refine (right_calls r c A N cap _).mono ?_
  rintro e w1 ⟨rfl, hB1⟩
  rw [HR.out]
  have hba1 := hba.below hB1 hba.lt
  have hBw1 := hBa.trans (hB1.mono (by omega))
  have hs1 := hB1.size
  clear hwa hba hB1 hBa n0 n1' n2'
  go_wp2_with fail
  obtain ⟨S, hSdef⟩ : ∃ S : World → Prop, S = fun V => V.cell? ⟨w.heap.size, 0, none⟩ = some (.int .i64 r) ∧ V.cell? ⟨w.heap.size, 1, none⟩ = some (.int .i64 c) ∧ V.cell? ⟨w.heap.size, 2, none⟩ = some (.slice A N cap) := ⟨_, rfl⟩
  have hSi : ∀ V, Block V w.heap.size 24 #[.int .i64 r, .int .i64 c, .slice A N cap] → S V := fun V h => by rw [hSdef]; exact cells3 h
  have hSc : ∀ V, S V → V.cell? ⟨w.heap.size, 0, none⟩ = some (.int .i64 r) ∧ V.cell? ⟨w.heap.size, 1, none⟩ = some (.int .i64 c) ∧ V.cell? ⟨w.heap.size, 2, none⟩ = some (.slice A N cap) := fun V hV => by rw [hSdef] at hV; exact hV
  have hS0 : S w1.drew := hSi _ hba1.drew
  clear hSdef
  apply wp_to_any (a2 := fun q : Nat × Nat × Nat × Nat × Nat => { tmps := #[.pointer pf, .agg #[.int .i64 r, .int .i64 c, .slice A N cap], undef, .pointer (some ⟨w.heap.size, 0, none⟩), .int .i64 0, .int .i64 0, .slice (some ⟨q.1, 0, none⟩) r r, .int .i64 q.2.1, .agg #[.int .i64 r, .int .i64 c, .slice A N cap], .bool true, .bool false, .tuple #[.slice (some ⟨q.1, 0, none⟩) r r, .int .i64 q.2.1], .pointer pf, .pointer (some ⟨q.2.2.1, 0, none⟩), .pointer (some ⟨w.heap.size, 0, none⟩), .int .i64 r, .pointer (some ⟨w.heap.size, 1, none⟩), .int .i64 c, .pointer (some ⟨w.heap.size, 2, none⟩), .slice A N cap, .slice (some ⟨q.2.2.2.1, 0, none⟩) N q.2.2.2.2, .agg #[.int .i64 r, .int .i64 c, .slice (some ⟨q.2.2.2.1, 0, none⟩) N q.2.2.2.2], .pointer (some ⟨w.heap.size, 1, none⟩), .int .i64 c, .tuple #[.slice (some ⟨q.1, 0, none⟩) r r, .int .i64 q.2.1], .slice (some ⟨q.1, 0, none⟩) r r, .int .i64 q.2.1, undef], defers := [] }) (R := fun q V => ∃ (ord bg : List Nat) (t : List F8), bg.length = q.2.1 ∧ Red r c (ent s c) (ent t c) (fun i => ord.getD i 0) bg c ∧ FldP V pf ∧ Past w.heap.size (rb w pf) w V)
  case h =>
    refine wp_region_held (S := S) hmx ?_
    refine wpAnyH_takeD (i := 0) (some 12) (.pointer pf) rfl rfl (by kernel_rfl) (by kernel_rfl) (by kernel_rfl) (fun _ _ _ h => by cases h.1) (Or.inl ⟨by kernel_rfl, fun W hW => by go_simp⟩) hS0 ?_
    simp only [Act.put, List.setIfInBounds_toArray, List.set_cons_zero, List.set_cons_succ]
    refine wpAnyH_takeD (i := 2) (some 14) (.pointer (some ⟨w.heap.size, 0, none⟩)) rfl rfl (by kernel_rfl) (by kernel_rfl) (by kernel_rfl) (fun _ _ _ h => by cases h.1) (Or.inl ⟨by kernel_rfl, fun W hW => by go_simp⟩) hS0 ?_
    simp only [Act.put, List.setIfInBounds_toArray, List.set_cons_zero, List.set_cons_succ]
    refine wpAnyH_takeD (i := 3) (some 15) (.int .i64 (r : Int)) rfl rfl (by kernel_rfl) (by kernel_rfl) (by kernel_rfl) (fun _ _ _ h => by cases h.1) (Or.inl ⟨by kernel_rfl, fun W hW => by obtain ⟨s1, s2, s3⟩ := hSc W hW; go_simp⟩) hS0 ?_
    simp only [Act.put, List.setIfInBounds_toArray, List.set_cons_zero, List.set_cons_succ]
    refine wpAnyH_takeD (i := 4) (some 16) (.pointer (some ⟨w.heap.size, 1, none⟩)) rfl rfl (by kernel_rfl) (by kernel_rfl) (by kernel_rfl) (fun _ _ _ h => by cases h.1) (Or.inl ⟨by kernel_rfl, fun W hW => by go_simp⟩) hS0 ?_
    simp only [Act.put, List.setIfInBounds_toArray, List.set_cons_zero, List.set_cons_succ]
    refine wpAnyH_takeD (i := 5) (some 17) (.int .i64 (c : Int)) rfl rfl (by kernel_rfl) (by kernel_rfl) (by kernel_rfl) (fun _ _ _ h => by cases h.1) (Or.inl ⟨by kernel_rfl, fun W hW => by obtain ⟨s1, s2, s3⟩ := hSc W hW; go_simp⟩) hS0 ?_
    simp only [Act.put, List.setIfInBounds_toArray, List.set_cons_zero, List.set_cons_succ]
    refine wpAnyH_takeD (i := 6) (some 18) (.pointer (some ⟨w.heap.size, 2, none⟩)) rfl rfl (by kernel_rfl) (by kernel_rfl) (by kernel_rfl) (fun _ _ _ h => by cases h.1) (Or.inl ⟨by kernel_rfl, fun W hW => by go_simp⟩) hS0 ?_
    simp only [Act.put, List.setIfInBounds_toArray, List.set_cons_zero, List.set_cons_succ]
    refine wpAnyH_takeD (i := 7) (some 19) (.slice A N cap) rfl rfl (by kernel_rfl) (by kernel_rfl) (by kernel_rfl) (fun _ _ _ h => by cases h.1) (Or.inl ⟨by kernel_rfl, fun W hW => by obtain ⟨s1, s2, s3⟩ := hSc W hW; go_simp⟩) hS0 ?_
    simp only [Act.put, List.setIfInBounds_toArray, List.set_cons_zero, List.set_cons_succ]
    refine wpAnyH_takeD (i := 10) (some 22) (.pointer (some ⟨w.heap.size, 1, none⟩)) rfl rfl (by kernel_rfl) (by kernel_rfl) (by kernel_rfl) (fun _ _ _ h => by cases h.1) (Or.inl ⟨by kernel_rfl, fun W hW => by go_simp⟩) hS0 ?_
    simp only [Act.put, List.setIfInBounds_toArray, List.set_cons_zero, List.set_cons_succ]
    refine wpAnyH_takeD (i := 11) (some 23) (.int .i64 (c : Int)) rfl rfl (by kernel_rfl) (by kernel_rfl) (by kernel_rfl) (fun _ _ _ h => by cases h.1) (Or.inl ⟨by kernel_rfl, fun W hW => by obtain ⟨s1, s2, s3⟩ := hSc W hW; go_simp⟩) hS0 ?_
    simp only [Act.put, List.setIfInBounds_toArray, List.set_cons_zero, List.set_cons_succ]
    refine wpAnyH_one (i := 1) (by kernel_rfl) rfl (by kernel_rfl) ?_
    go_simp
    refine (orNew_f pf w _ hf (Below.drewN' hBw1 1)).mono ?_
    rintro e w4 ⟨gf, rfl, hg, hF4, hB4⟩
    have hs4 := hB4.size
    have hba4 := hba1.drew.below hB4 (by show w.heap.size < w1.heap.size; omega)
    have hBw4 : Below w.heap.size w w4 := (Below.drewN' hBw1 1).trans (hB4.mono hBw1.size)
    show S w4 ∧ _
    refine ⟨hSi _ hba4, wpAnyH_one (i := 8) (by kernel_rfl) rfl (by kernel_rfl) ?_⟩
    go_simp
    refine (clone_calls A s N cap _ HL.out hN9 (HB.out.below hBw4)).mono ?_
    rintro e w5 ⟨A5, c5, rfl, hc5, hO5, hB5⟩
    obtain ⟨g1, c6, e6, hg1, hg2, hc6⟩ := Own.form1 hO5 (by rw [bvs_length, HL.out]; exact hN0)
    injection e6 with e6a e6b e6c
    clear e6b e6c c6 hc6
    subst e6a
    have hba5 := hba4.below hB5 (by have := hba4.lt; omega)
    have hBw5 : Below w.heap.size w w5 := hBw4.trans (hB5.mono hBw4.size)
    have hF5 : Fld w5 gf := hF4.imp (fun k => k.below hB5 k.lt) (fun k => k.below hB5 k.lt)
    have hs5 := hB5.size
    show S w5 ∧ _
    refine ⟨hSi _ hba5, ?_⟩
    refine wpAnyH_takeD (i := 9) (some 21) (.agg #[.int .i64 r, .int .i64 c, .slice (some ⟨g1, 0, none⟩) N c5]) rfl rfl (by kernel_rfl) (by kernel_rfl) (by kernel_rfl) (fun _ _ _ h => by cases h.1) (Or.inl ⟨by kernel_rfl, fun W hW => by go_simp⟩) (hSi _ hba5) ?_
    simp only [Act.put, List.setIfInBounds_toArray, List.set_cons_zero, List.set_cons_succ]
    refine wpAnyH_one (i := 12) (by kernel_rfl) rfl (by kernel_rfl) ?_
    go_simp
    refine (reduce_calls w4.heap.size gf g1 N c5 r c c s hr (by omega) (Nat.le_refl _) HN.out hN9 hc5 HL.out _ hF5 hO5).mono ?_
    rintro e w6 ⟨k, g, ord, bg, t, rfl, q1, q2, q3, q4, q5, q6, q7, q8, q9⟩
    have hww : w.heap.size < w1.heap.size := by omega
    have hs4' : w1.heap.size ≤ w4.heap.size := hs4
    have hba6 : Block w6 w.heap.size 24 #[.int .i64 r, .int .i64 c, .slice A N cap] := q9.blk hba5 hba5.lt (fun h => by
      rcases h with h | h
      · exact hg.ne (Nat.le_refl _) hww h
      · omega)
    have hP : Past w.heap.size (rb w pf) w w6 := hg.past (by show w.heap.size ≤ w1.heap.size; omega) ((Past.of_below hBw5 gf).trans (But.past (q9.mono (S' := (· = gf)) (by omega) (fun b hb h => by
      rcases h with h | h
      · exact h
      · omega))))
    have hS6 := hSi _ hba6
    show S w6 ∧ _
    refine ⟨hS6, ?_⟩
    refine wpAnyH_takeD (i := 13) (some 11) (.tuple #[.slice (some ⟨g, 0, none⟩) r r, .int .i64 k]) rfl rfl (by kernel_rfl) (by kernel_rfl) (by kernel_rfl) (fun _ _ _ h => by cases h.1) (Or.inl ⟨by kernel_rfl, fun W hW => by go_simp⟩) hS6 ?_
    simp only [Act.put, List.setIfInBounds_toArray, List.set_cons_zero, List.set_cons_succ]
    refine wpAnyH_takeD (i := 14) (some 25) (.slice (some ⟨g, 0, none⟩) r r) rfl rfl (by kernel_rfl) (by kernel_rfl) (by kernel_rfl) (fun _ _ _ h => by cases h.1) (Or.inl ⟨by kernel_rfl, fun W hW => by go_simp⟩) hS6 ?_
    simp only [Act.put, List.setIfInBounds_toArray, List.set_cons_zero, List.set_cons_succ]
    refine wpAnyH_takeD (i := 15) (some 26) (.int .i64 (k : Int)) rfl rfl (by kernel_rfl) (by kernel_rfl) (by kernel_rfl) (fun _ _ _ h => by cases h.1) (Or.inl ⟨by kernel_rfl, fun W hW => by go_simp⟩) hS6 ?_
    simp only [Act.put, List.setIfInBounds_toArray, List.set_cons_zero, List.set_cons_succ]
    refine wpAnyH_takeD (i := 16) (some 6) (.slice (some ⟨g, 0, none⟩) r r) rfl rfl (by kernel_rfl) (by kernel_rfl) (by kernel_rfl) (fun _ _ _ h => by cases h.1) (Or.inl ⟨by kernel_rfl, fun W hW => by go_simp⟩) hS6 ?_
    simp only [Act.put, List.setIfInBounds_toArray, List.set_cons_zero, List.set_cons_succ]
    refine wpAnyH_takeD (i := 17) (some 7) (.int .i64 (k : Int)) rfl rfl (by kernel_rfl) (by kernel_rfl) (by kernel_rfl) (fun _ _ _ h => by cases h.1) (Or.inl ⟨by kernel_rfl, fun W hW => by go_simp⟩) hS6 ?_
    simp only [Act.put, List.setIfInBounds_toArray, List.set_cons_zero, List.set_cons_succ]
    refine wpAnyH_done (by kernel_rfl) ?_ _
    exact ⟨rfl, g, k, ⟨gf, g1, c5, rfl⟩, ord, bg, q4, ⟨t, by simpa using q6⟩, hg.fldP q8, hP⟩
  case hK =>
    rintro q V ⟨ord, bg, t, h1, h2, h3, h4⟩
    go_wp2
    exact bodyPost_ret (v := .tuple #[.int .i64 q.2.1, .int .i64 0]) (by simp [results, Try.results46, go_sem]) rfl ⟨_, ord, bg, t, rfl, h1, h2, h3, h4⟩
end Go.Proofs.Ytjpbdbgihakpmaa.Mat
namespace Go.Proofs.Ytjpbdbgihakpmaa.Mat
open Go.RowKit Go.Shelf F8 Poly GF
attribute [local go_sem] Oper.semAt_some

/-- A loop whose condition fails at once. -/
theorem wp_loop_once {P : Program} {c : Code} {Q : Exit → Act → World → Prop} {a : Act} {w : World} (h : c.wp P (Exit.then (fun _ _ => False) Q) a w) : (Code.loop c).wp P Q a w :=
  wp_loop (fun a' w' => a' = a ∧ w' = w) (fun _ _ => 0) ⟨rfl, rfl⟩ (by
    rintro _ _ ⟨rfl, rfl⟩
    refine wp_mono h ?_
    intro e a w hq
    revert hq
    unfold Exit.then
    split
    · exact False.elim
    · exact id)
def RedNil (gf r C cols : Nat) (w : World) (e : Ending) (w' : World) : Prop :=
  ∃ g : Nat, e = .returned (.tuple #[.slice (some ⟨g, 0, none⟩) r r, .int .i64 0]) ∧ w.heap.size ≤ g ∧ Own w' w.heap.size 3 (.slice (some ⟨g, 0, none⟩) r r) (iv (List.range r)) ∧
    Red r C (ent [] C) (ent [] C) (fun i => (List.range r).getD i 0) [] cols ∧ Fld w' gf ∧ Below w.heap.size w w'
set_option maxRecDepth 100000 in
set_option maxHeartbeats 4000000 in
theorem reduce_nil (gf cap r C cols : Nat) (A : Option Addr) (hr : r ≤ 65536) (hcols : cols ≤ C) (hN : r * C = 0) (w : World) (hF : Fld w gf) :
    Calls Try.prog 91 #[.pointer (some ⟨gf, 0, none⟩), .agg #[.int .i64 r, .int .i64 C, .slice A 0 cap], .int .i64 cols] w (RedNil gf r C cols w) := by
  have hred : Hid (Red r C (ent [] C) (ent [] C) (fun i => (List.range r).getD i 0) [] cols) := Lib.hid (by
    have h := Red.start r C (ent [] C)
    have e : ∀ i, i < r → (List.range r).getD i 0 = i := fun i hi => by rw [List.getD_eq_getElem?_getD, List.getElem?_range hi]; rfl
    have h0 : Red r C (ent [] C) (ent [] C) (fun i => (List.range r).getD i 0) [] 0 := ⟨h.ker, fun i hi => by rw [e i hi]; exact hi, fun a b ha hb k => by rw [e a ha, e b hb] at k; exact k, fun i hi => ⟨i, hi, e i hi⟩, h.le, h.up, h.in_, fun _ _ hu => by simp at hu, fun _ _ _ _ hj => by omega, fun _ ht => by simp at ht⟩
    by_cases hc0 : cols = 0
    · rw [hc0]; exact h0
    · have hr0 : r = 0 := by
        rcases Nat.mul_eq_zero.1 hN with h | h
        · exact h
        · omega
      exact h0.finish (by simp [hr0]) (Nat.zero_le _))
  have hcase : cols = 0 ∨ (0 < cols ∧ r = 0) := by
    rcases Nat.mul_eq_zero.1 hN with h | h
    · by_cases hc0 : cols = 0
      · exact .inl hc0
      · exact .inr ⟨by omega, h⟩
    · exact .inl (by omega)
  have HC := Lib.hid hcase
  have HF := Lib.hid hF
  clear hcase hN
  have hz := zero_multiplier
  have hgf := hF.lt
  clear hF
  refine (callsIn_wide (n := 9)).1 (callsIn_of_wp_marks Try.func91 rfl trivial ?_ rfl)
  simp only [Try.ntmps91, List.size_toArray, List.length_cons, List.length_nil, Nat.reduceAdd, Nat.reduceSub, Array.replicate_succ, Array.replicate_zero, List.push_toArray, List.append_toArray, List.nil_append, List.cons_append]
  refine wpIn_wide.2 ?_
  go_wp2_with fail
  refine (upTo_calls r (by omega) _).mono ?_
  rintro e w1 ⟨gi, rfl, u1, u2, hI, hB1⟩
  simp only [World.size_alloc] at u1
  have hs1 := hB1.size
  simp only [World.size_alloc] at hs1
  have hbm1 : Block w1 w.heap.size 24 #[.int .i64 r, .int .i64 C, .slice A 0 cap] := (Block.new _ _ _).below hB1 (by simp)
  have hBw1 : Below w.heap.size w w1 := ((Below.refl _ w).alloc (Nat.le_refl _) _).trans (hB1.mono (by simp))
  have hst := store_mul gf ((w1.alloc (.cells #[.slice (some ⟨gi, 0, none⟩) r r] 30)).alloc (.cells #[.int .i64 0] 3))
  simp only [World.size_alloc] at hst
  go_wp2_with fail
  obtain ⟨W0, hW0⟩ : ∃ W0, (((w1.alloc (.cells #[.slice (some ⟨gi, 0, none⟩) r r] 30)).alloc (.cells #[.int .i64 0] 3)).alloc (.cells (mcells gf (fun _ => 0) (fun _ => none)) 140)).alloc (.cells #[.int .i64 0] 3) = W0 := ⟨_, rfl⟩
  obtain ⟨ob, hob⟩ : ∃ ob, w1.heap.size = ob := ⟨_, rfl⟩
  have q0 : Block W0 ob 30 #[.slice (some ⟨gi, 0, none⟩) r r] := by rw [← hW0, ← hob]; exact (((Block.new _ _ _).alloc _).alloc _).alloc _
  have q1 : Block W0 (ob + 1) 3 #[.int .i64 0] := by
    rw [← hW0, ← hob]
    have := Block.new (w1.alloc (.cells #[.slice (some ⟨gi, 0, none⟩) r r] 30)) 3 #[.int .i64 0]
    rw [World.size_alloc] at this
    exact (this.alloc _).alloc _
  have q3 : Block W0 (ob + 3) 3 #[.int .i64 0] := by
    rw [← hW0, ← hob]
    have := Block.new (((w1.alloc (.cells #[.slice (some ⟨gi, 0, none⟩) r r] 30)).alloc (.cells #[.int .i64 0] 3)).alloc (.cells (mcells gf (fun _ => 0) (fun _ => none)) 140)) 3 #[.int .i64 0]
    rwa [World.size_alloc, World.size_alloc, World.size_alloc] at this
  have hB10 : Below w1.heap.size w1 W0 := by rw [← hW0]; exact ((((Below.refl _ w1).alloc (Nat.le_refl _) _).alloc (by simp) _).alloc (by simp; omega) _).alloc (by simp; omega) _
  have q4 : Block W0 w.heap.size 24 #[.int .i64 r, .int .i64 C, .slice A 0 cap] := hbm1.below hB10 hbm1.lt
  have q5 : Own W0 w.heap.size 3 (.slice (some ⟨gi, 0, none⟩) r r) (iv (List.range r)) := (hI.more (by simp)).below hB10
  have hBw : Below w.heap.size w W0 := hBw1.trans (hB10.mono (by omega))
  have q6 : Fld W0 gf := HF.out.below hBw hgf
  have hsz0 : W0.heap.size = ob + 4 := by rw [← hW0, ← hob]; simp
  have hobw : w.heap.size + 1 ≤ ob := by omega
  have hgiob : gi < ob := by omega
  have HQ0 := Lib.hid q0
  have HQ1 := Lib.hid q1
  have HQ3 := Lib.hid q3
  have HQ4 := Lib.hid q4
  have HQ5 := Lib.hid q5
  have HQ6 := Lib.hid q6
  obtain ⟨x1, x2⟩ : W0.cell? ⟨ob + 1, 0, none⟩ = some (.int .i64 0) ∧ W0.cell? ⟨ob + 3, 0, none⟩ = some (.int .i64 0) := ⟨HQ1.out.cell 0, HQ3.out.cell 0⟩
  obtain ⟨x3, x4, x5⟩ := cells3 HQ4.out
  have x6 : W0.cell? ⟨ob, 0, none⟩ = some (.slice (some ⟨gi, 0, none⟩) r r) := HQ0.out.cell 0
  rw [hW0]
  simp only [hob, Nat.add_assoc, Nat.reduceAdd]
  clear hst hz hI hB1 hbm1 hBw1 hW0 q0 q1 q3 q4 q5 q6 hB10 hs1 u2 HF
  refine wp_loop_once ?_
  rcases HC.out with h0 | ⟨h0, h1⟩
  · subst h0
    go_wp2
    go_quiet (fail)
    go_wp2
    refine leaves_marks (B := w.heap.size) [] _ (MarksOk.nil _ _) (fun w' ht => ⟨.tuple #[.slice (some ⟨gi, 0, none⟩) r r, .int .i64 0], by simp [results, Try.results91, go_sem], ?_⟩)
    exact ⟨gi, rfl, by omega, ht.own (HQ5.out.drewN _), hred.out, (HQ6.out.drewN _).imp ht.block ht.block, (Below.drewN' hBw _).trans (ht.below.mono (by simp))⟩
  · subst h1
    go_wp2
    go_quiet (fail)
    go_wp2
    refine leaves_marks (B := w.heap.size) [] _ (MarksOk.nil _ _) (fun w' ht => ⟨.tuple #[.slice (some ⟨gi, 0, none⟩) 0 0, .int .i64 0], by simp [results, Try.results91, go_sem], ?_⟩)
    exact ⟨gi, rfl, by omega, ht.own (HQ5.out.drewN _), hred.out, (HQ6.out.drewN _).imp ht.block ht.block, (Below.drewN' hBw _).trans (ht.below.mono (by simp))⟩
set_option maxRecDepth 100000 in
set_option maxHeartbeats 4000000 in
theorem rank_nil (r c cap : Nat) (A : Option Addr) (pf : Option Addr) (hr : r ≤ 65536) (hc : c ≤ 65536) (hN : r * c = 0) (w : World) (hb : Bytes w A (bs [])) (hf : FldP w pf) :
    Calls Try.prog 46 #[.pointer pf, .agg #[.int .i64 r, .int .i64 c, .slice A 0 cap]] w (RankRes pf r c [] w) := by
  have HR : Hid (RightB r c (0 : Nat) = true) := Lib.hid (rightB_iff.2 ⟨r, c, rfl, rfl, hr, hc, hN.symm⟩)
  obtain ⟨wa, hwa⟩ : ∃ wa, w.alloc (.cells #[.int .i64 r, .int .i64 c, .slice A 0 cap] 24) = wa := ⟨_, rfl⟩
  have hba : Block wa w.heap.size 24 #[.int .i64 r, .int .i64 c, .slice A 0 cap] := by rw [← hwa]; exact Block.new _ _ _
  have hBa : Below w.heap.size w wa := by rw [← hwa]; exact (Below.refl _ w).alloc (Nat.le_refl _) _
  have hsa : wa.heap.size = w.heap.size + 1 := by rw [← hwa]; simp
  have hmx : Try.prog.follows .mixedOrders = true := by kernel_rfl
  obtain ⟨n0, n1', n2'⟩ := cells3 hba
  have HB := Lib.hid hb
  have HN := Lib.hid hN
  clear hb hN
  go_enter Try.func46, Try.ntmps46
  go_wp2_with fail
  refine (right_calls r c A 0 cap _).mono ?_
  rintro e w1 ⟨rfl, hB1⟩
  rw [HR.out]
  have hba1 := hba.below hB1 hba.lt
  have hBw1 := hBa.trans (hB1.mono (by omega))
  have hs1 := hB1.size
  clear hwa hba hB1 hBa n0 n1' n2'
  go_wp2_with fail
  obtain ⟨S, hSdef⟩ : ∃ S : World → Prop, S = fun V => V.cell? ⟨w.heap.size, 0, none⟩ = some (.int .i64 r) ∧ V.cell? ⟨w.heap.size, 1, none⟩ = some (.int .i64 c) ∧ V.cell? ⟨w.heap.size, 2, none⟩ = some (.slice A 0 cap) := ⟨_, rfl⟩
  have hSi : ∀ V, Block V w.heap.size 24 #[.int .i64 r, .int .i64 c, .slice A 0 cap] → S V := fun V h => by rw [hSdef]; exact cells3 h
  have hSc : ∀ V, S V → V.cell? ⟨w.heap.size, 0, none⟩ = some (.int .i64 r) ∧ V.cell? ⟨w.heap.size, 1, none⟩ = some (.int .i64 c) ∧ V.cell? ⟨w.heap.size, 2, none⟩ = some (.slice A 0 cap) := fun V hV => by rw [hSdef] at hV; exact hV
  have hS0 : S w1.drew := hSi _ hba1.drew
  clear hSdef
  apply wp_to_any (a2 := fun q : Nat × Nat × Nat × Option Addr × Nat => { tmps := #[.pointer pf, .agg #[.int .i64 r, .int .i64 c, .slice A 0 cap], undef, .pointer (some ⟨w.heap.size, 0, none⟩), .int .i64 0, .int .i64 0, .slice (some ⟨q.1, 0, none⟩) r r, .int .i64 q.2.1, .agg #[.int .i64 r, .int .i64 c, .slice A 0 cap], .bool true, .bool false, .tuple #[.slice (some ⟨q.1, 0, none⟩) r r, .int .i64 q.2.1], .pointer pf, .pointer (some ⟨q.2.2.1, 0, none⟩), .pointer (some ⟨w.heap.size, 0, none⟩), .int .i64 r, .pointer (some ⟨w.heap.size, 1, none⟩), .int .i64 c, .pointer (some ⟨w.heap.size, 2, none⟩), .slice A 0 cap, .slice q.2.2.2.1 0 q.2.2.2.2, .agg #[.int .i64 r, .int .i64 c, .slice q.2.2.2.1 0 q.2.2.2.2], .pointer (some ⟨w.heap.size, 1, none⟩), .int .i64 c, .tuple #[.slice (some ⟨q.1, 0, none⟩) r r, .int .i64 q.2.1], .slice (some ⟨q.1, 0, none⟩) r r, .int .i64 q.2.1, undef], defers := [] }) (R := fun q V => ∃ (ord bg : List Nat) (t : List F8), bg.length = q.2.1 ∧ Red r c (ent [] c) (ent t c) (fun i => ord.getD i 0) bg c ∧ FldP V pf ∧ Past w.heap.size (rb w pf) w V)
  case h =>
    refine wp_region_held (S := S) hmx ?_
    refine wpAnyH_takeD (i := 0) (some 12) (.pointer pf) rfl rfl (by kernel_rfl) (by kernel_rfl) (by kernel_rfl) (fun _ _ _ h => by cases h.1) (Or.inl ⟨by kernel_rfl, fun W hW => by go_simp⟩) hS0 ?_
    simp only [Act.put, List.setIfInBounds_toArray, List.set_cons_zero, List.set_cons_succ]
    refine wpAnyH_takeD (i := 2) (some 14) (.pointer (some ⟨w.heap.size, 0, none⟩)) rfl rfl (by kernel_rfl) (by kernel_rfl) (by kernel_rfl) (fun _ _ _ h => by cases h.1) (Or.inl ⟨by kernel_rfl, fun W hW => by go_simp⟩) hS0 ?_
    simp only [Act.put, List.setIfInBounds_toArray, List.set_cons_zero, List.set_cons_succ]
    refine wpAnyH_takeD (i := 3) (some 15) (.int .i64 (r : Int)) rfl rfl (by kernel_rfl) (by kernel_rfl) (by kernel_rfl) (fun _ _ _ h => by cases h.1) (Or.inl ⟨by kernel_rfl, fun W hW => by obtain ⟨s1, s2, s3⟩ := hSc W hW; go_simp⟩) hS0 ?_
    simp only [Act.put, List.setIfInBounds_toArray, List.set_cons_zero, List.set_cons_succ]
    refine wpAnyH_takeD (i := 4) (some 16) (.pointer (some ⟨w.heap.size, 1, none⟩)) rfl rfl (by kernel_rfl) (by kernel_rfl) (by kernel_rfl) (fun _ _ _ h => by cases h.1) (Or.inl ⟨by kernel_rfl, fun W hW => by go_simp⟩) hS0 ?_
    simp only [Act.put, List.setIfInBounds_toArray, List.set_cons_zero, List.set_cons_succ]
    refine wpAnyH_takeD (i := 5) (some 17) (.int .i64 (c : Int)) rfl rfl (by kernel_rfl) (by kernel_rfl) (by kernel_rfl) (fun _ _ _ h => by cases h.1) (Or.inl ⟨by kernel_rfl, fun W hW => by obtain ⟨s1, s2, s3⟩ := hSc W hW; go_simp⟩) hS0 ?_
    simp only [Act.put, List.setIfInBounds_toArray, List.set_cons_zero, List.set_cons_succ]
    refine wpAnyH_takeD (i := 6) (some 18) (.pointer (some ⟨w.heap.size, 2, none⟩)) rfl rfl (by kernel_rfl) (by kernel_rfl) (by kernel_rfl) (fun _ _ _ h => by cases h.1) (Or.inl ⟨by kernel_rfl, fun W hW => by go_simp⟩) hS0 ?_
    simp only [Act.put, List.setIfInBounds_toArray, List.set_cons_zero, List.set_cons_succ]
    refine wpAnyH_takeD (i := 7) (some 19) (.slice A 0 cap) rfl rfl (by kernel_rfl) (by kernel_rfl) (by kernel_rfl) (fun _ _ _ h => by cases h.1) (Or.inl ⟨by kernel_rfl, fun W hW => by obtain ⟨s1, s2, s3⟩ := hSc W hW; go_simp⟩) hS0 ?_
    simp only [Act.put, List.setIfInBounds_toArray, List.set_cons_zero, List.set_cons_succ]
    refine wpAnyH_takeD (i := 10) (some 22) (.pointer (some ⟨w.heap.size, 1, none⟩)) rfl rfl (by kernel_rfl) (by kernel_rfl) (by kernel_rfl) (fun _ _ _ h => by cases h.1) (Or.inl ⟨by kernel_rfl, fun W hW => by go_simp⟩) hS0 ?_
    simp only [Act.put, List.setIfInBounds_toArray, List.set_cons_zero, List.set_cons_succ]
    refine wpAnyH_takeD (i := 11) (some 23) (.int .i64 (c : Int)) rfl rfl (by kernel_rfl) (by kernel_rfl) (by kernel_rfl) (fun _ _ _ h => by cases h.1) (Or.inl ⟨by kernel_rfl, fun W hW => by obtain ⟨s1, s2, s3⟩ := hSc W hW; go_simp⟩) hS0 ?_
    simp only [Act.put, List.setIfInBounds_toArray, List.set_cons_zero, List.set_cons_succ]
    refine wpAnyH_one (i := 1) (by kernel_rfl) rfl (by kernel_rfl) ?_
    go_simp
    refine (orNew_f pf w _ hf (Below.drewN' hBw1 1)).mono ?_
    rintro e w4 ⟨gf, rfl, hg, hF4, hB4⟩
    have hs4 := hB4.size
    have hba4 := hba1.drew.below hB4 (by show w.heap.size < w1.heap.size; omega)
    have hBw4 : Below w.heap.size w w4 := (Below.drewN' hBw1 1).trans (hB4.mono hBw1.size)
    show S w4 ∧ _
    refine ⟨hSi _ hba4, wpAnyH_one (i := 8) (by kernel_rfl) rfl (by kernel_rfl) ?_⟩
    go_simp
    refine (clone_calls A [] 0 cap _ rfl (by omega) (HB.out.below hBw4)).mono ?_
    rintro e w5 ⟨A5, c5, rfl, hc5, hO5, hB5⟩
    have hba5 := hba4.below hB5 (by have := hba4.lt; omega)
    have hBw5 : Below w.heap.size w w5 := hBw4.trans (hB5.mono hBw4.size)
    have hF5 : Fld w5 gf := hF4.imp (fun k => k.below hB5 k.lt) (fun k => k.below hB5 k.lt)
    show S w5 ∧ _
    refine ⟨hSi _ hba5, ?_⟩
    refine wpAnyH_takeD (i := 9) (some 21) (.agg #[.int .i64 r, .int .i64 c, .slice A5 0 c5]) rfl rfl (by kernel_rfl) (by kernel_rfl) (by kernel_rfl) (fun _ _ _ h => by cases h.1) (Or.inl ⟨by kernel_rfl, fun W hW => by go_simp⟩) (hSi _ hba5) ?_
    simp only [Act.put, List.setIfInBounds_toArray, List.set_cons_zero, List.set_cons_succ]
    refine wpAnyH_one (i := 12) (by kernel_rfl) rfl (by kernel_rfl) ?_
    go_simp
    refine (reduce_nil gf c5 r c c A5 hr (Nat.le_refl _) HN.out _ hF5).mono ?_
    rintro e w6 ⟨g, rfl, q1, q2, q6, q8, q9⟩
    have hww : w.heap.size < w1.heap.size := by omega
    have hs4' : w1.heap.size ≤ w4.heap.size := hs4
    have hba6 : Block w6 w.heap.size 24 #[.int .i64 r, .int .i64 c, .slice A 0 cap] := hba5.below q9 hba5.lt
    have hP : Past w.heap.size (rb w pf) w w6 := hg.past (by show w.heap.size ≤ w1.heap.size; omega) (Past.of_below (hBw5.trans (q9.mono hBw5.size)) gf)
    have hS6 := hSi _ hba6
    show S w6 ∧ _
    refine ⟨hS6, ?_⟩
    refine wpAnyH_takeD (i := 13) (some 11) (.tuple #[.slice (some ⟨g, 0, none⟩) r r, .int .i64 0]) rfl rfl (by kernel_rfl) (by kernel_rfl) (by kernel_rfl) (fun _ _ _ h => by cases h.1) (Or.inl ⟨by kernel_rfl, fun W hW => by go_simp⟩) hS6 ?_
    simp only [Act.put, List.setIfInBounds_toArray, List.set_cons_zero, List.set_cons_succ]
    refine wpAnyH_takeD (i := 14) (some 25) (.slice (some ⟨g, 0, none⟩) r r) rfl rfl (by kernel_rfl) (by kernel_rfl) (by kernel_rfl) (fun _ _ _ h => by cases h.1) (Or.inl ⟨by kernel_rfl, fun W hW => by go_simp⟩) hS6 ?_
    simp only [Act.put, List.setIfInBounds_toArray, List.set_cons_zero, List.set_cons_succ]
    refine wpAnyH_takeD (i := 15) (some 26) (.int .i64 0) rfl rfl (by kernel_rfl) (by kernel_rfl) (by kernel_rfl) (fun _ _ _ h => by cases h.1) (Or.inl ⟨by kernel_rfl, fun W hW => by go_simp⟩) hS6 ?_
    simp only [Act.put, List.setIfInBounds_toArray, List.set_cons_zero, List.set_cons_succ]
    refine wpAnyH_takeD (i := 16) (some 6) (.slice (some ⟨g, 0, none⟩) r r) rfl rfl (by kernel_rfl) (by kernel_rfl) (by kernel_rfl) (fun _ _ _ h => by cases h.1) (Or.inl ⟨by kernel_rfl, fun W hW => by go_simp⟩) hS6 ?_
    simp only [Act.put, List.setIfInBounds_toArray, List.set_cons_zero, List.set_cons_succ]
    refine wpAnyH_takeD (i := 17) (some 7) (.int .i64 0) rfl rfl (by kernel_rfl) (by kernel_rfl) (by kernel_rfl) (fun _ _ _ h => by cases h.1) (Or.inl ⟨by kernel_rfl, fun W hW => by go_simp⟩) hS6 ?_
    simp only [Act.put, List.setIfInBounds_toArray, List.set_cons_zero, List.set_cons_succ]
    refine wpAnyH_done (by kernel_rfl) ?_ _
    exact ⟨rfl, g, 0, ⟨gf, A5, c5, rfl⟩, List.range r, [], rfl, ⟨[], by simpa using q6⟩, hg.fldP q8, hP⟩
  case hK =>
    rintro q V ⟨ord, bg, t, h1, h2, h3, h4⟩
    go_wp2
    exact bodyPost_ret (v := .tuple #[.int .i64 q.2.1, .int .i64 0]) (by simp [results, Try.results46, go_sem]) rfl ⟨_, ord, bg, t, rfl, h1, h2, h3, h4⟩
theorem rank_calls (r c N cap : Nat) (A : Option Addr) (pf : Option Addr) (s : List F8) (hr : r ≤ 65536) (hc : c ≤ 65536) (hN : r * c = N) (hN9 : N ≤ 1000000000) (hl : s.length = N) (w : World) (hb : Bytes w A (bs s)) (hf : FldP w pf) :
    Calls Try.prog 46 #[.pointer pf, .agg #[.int .i64 r, .int .i64 c, .slice A N cap]] w (RankRes pf r c s w) := by
  rcases Nat.eq_zero_or_pos N with h0 | h0
  · subst h0
    obtain rfl : s = [] := List.eq_nil_of_length_eq_zero hl
    exact rank_nil r c cap A pf hr hc hN w hb hf
  · exact rank_pos r c N cap A pf s hr hc hN h0 hN9 hl w hb hf
end Go.Proofs.Ytjpbdbgihakpmaa.Mat
