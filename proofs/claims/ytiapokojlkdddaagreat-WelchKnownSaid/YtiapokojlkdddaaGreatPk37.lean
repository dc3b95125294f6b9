/- Of the program and its document, joined: MatRank. -/
import Derived.Test.YtiapokojlkdddaaGreatPk30
import Derived.Test.YtiapokojlkdddaaGreatPk36
/- What the program's Rank does. The program's reduce of a matrix without entries, and Rank of any. -/
namespace Go.Proofs.YtiapokojlkdddaaGreat.Mat
open Go.RowKit Go.Shelf F8 Poly GF
attribute [local go_sem] Oper.semAt_some

theorem wp_to_any {α : Type} {P : Program} {c : Code} {Q : Exit → Act → World → Prop} {a : Act} {w : World} (a2 : α → Act) (R : α → World → Prop) (h : c.wp P (fun e a' w' => e = .normal ∧ ∃ m, a' = a2 m ∧ R m w') a w) (hK : ∀ m w', R m w' → Q .normal (a2 m) w') : c.wp P Q a w :=
  wp_mono h (by rintro e a w ⟨rfl, m, rfl, hr⟩; exact hK m _ hr)
/-- A rank has been told: what elimination left. -/
def RankRes (pf : Option Addr) (r c : Nat) (s : List F8) (w : World) (e : Ending) (w' : World) : Prop :=
  ∃ (k : Nat) (ord bg : List Nat) (t : List F8), e = .returned (.tuple #[.int .i64 k, .int .i64 0]) ∧ bg.length = k ∧ Red r c (ent s c) (ent t c) (fun i => ord.getD i 0) bg c ∧ FldP w' pf ∧ Past w.heap.size (rb w pf) w w'
end Go.Proofs.YtiapokojlkdddaaGreat.Mat
namespace Go.Proofs.YtiapokojlkdddaaGreat.Mat
open Go.RowKit Go.Shelf F8 Poly GF
attribute [local go_sem] Oper.semAt_some

/-- A loop whose condition fails at once. -/
theorem wp_loop_once {P : Program} {c : Code} {Q : Exit → Act → World → Prop} {a : Act} {w : World} (h : c.wp P (Exit.then (fun _ _ => False) Q) a w) : (Code.loop c).wp P Q a w :=
  wp_loop (fun a' w' => a' = a ∧ w' = w) (fun _ _ => 0) ⟨rfl, rfl⟩ (by
    rintro _ _ ⟨rfl, rfl⟩
    refine wp_mono h ?_
    intro e a w hq
    revert hq
    unfold Exit.then
    split
    · exact False.elim
    · exact id)
def RedNil (gf r C cols : Nat) (w : World) (e : Ending) (w' : World) : Prop :=
  ∃ g : Nat, e = .returned (.tuple #[.slice (some ⟨g, 0, none⟩) r r, .int .i64 0]) ∧ w.heap.size ≤ g ∧ Own w' w.heap.size 3 (.slice (some ⟨g, 0, none⟩) r r) (iv (List.range r)) ∧
    Red r C (ent [] C) (ent [] C) (fun i => (List.range r).getD i 0) [] cols ∧ Fld w' gf ∧ Below w.heap.size w w'
set_option maxRecDepth 100000 in
set_option maxHeartbeats 4000000 in
theorem reduce_nil (gf cap r C cols : Nat) (A : Option Addr) (hr : r ≤ 65536) (hcols : cols ≤ C) (hN : r * C = 0) (w : World) (hF : Fld w gf) :
    Calls Tryz.prog 188 #[.pointer (some ⟨gf, 0, none⟩), .agg #[.int .i64 r, .int .i64 C, .slice A 0 cap], .int .i64 cols] w (RedNil gf r C cols w) := by
  have hred : Hid (Red r C (ent [] C) (ent [] C) (fun i => (List.range r).getD i 0) [] cols) := Lib.hid (by
    have h := Red.start r C (ent [] C)
    have e : ∀ i, i < r → (List.range r).getD i 0 = i := fun i hi => by rw [List.getD_eq_getElem?_getD, List.getElem?_range hi]; rfl
    have h0 : Red r C (ent [] C) (ent [] C) (fun i => (List.range r).getD i 0) [] 0 := ⟨h.ker, fun i hi => by rw [e i hi]; exact hi, fun a b ha hb k => by rw [e a ha, e b hb] at k; exact k, fun i hi => ⟨i, hi, e i hi⟩, h.le, h.up, h.in_, fun _ _ hu => by simp at hu, fun _ _ _ _ hj => by omega, fun _ ht => by simp at ht⟩
    by_cases hc0 : cols = 0
    · rw [hc0]; exact h0
    · have hr0 : r = 0 := by
        rcases Nat.mul_eq_zero.1 hN with h | h
        · exact h
        · omega
      exact h0.finish (by simp [hr0]) (Nat.zero_le _))
  have hcase : cols = 0 ∨ (0 < cols ∧ r = 0) := by
    rcases Nat.mul_eq_zero.1 hN with h | h
    · by_cases hc0 : cols = 0
      · exact .inl hc0
      · exact .inr ⟨by omega, h⟩
    · exact .inl (by omega)
  have HC := Lib.hid hcase
  have HF := Lib.hid hF
  clear hcase hN
  have hz := zero_multiplier
  have hgf := hF.lt
  clear hF
  refine (callsIn_wide (n := 9)).1 (callsIn_of_wp_marks Tryz.func188 rfl trivial ?_ rfl)
  simp only [Tryz.ntmps188, List.size_toArray, List.length_cons, List.length_nil, Nat.reduceAdd, Nat.reduceSub, Array.replicate_succ, Array.replicate_zero, List.push_toArray, List.append_toArray, List.nil_append, List.cons_append]
  refine wpIn_wide.2 ?_
  go_wp2_with fail
  refine (upTo_calls r (by omega) _).mono ?_
  rintro e w1 ⟨gi, rfl, u1, u2, hI, hB1⟩
  simp only [World.size_alloc] at u1
  have hs1 := hB1.size
  simp only [World.size_alloc] at hs1
  have hbm1 : Block w1 w.heap.size 91 #[.int .i64 r, .int .i64 C, .slice A 0 cap] := (Block.new _ _ _).below hB1 (by simp)
  have hBw1 : Below w.heap.size w w1 := ((Below.refl _ w).alloc (Nat.le_refl _) _).trans (hB1.mono (by simp))
  have hst := store_mul gf ((w1.alloc (.cells #[.slice (some ⟨gi, 0, none⟩) r r] 23)).alloc (.cells #[.int .i64 0] 3))
  simp only [World.size_alloc] at hst
  go_wp2_with fail
  obtain ⟨W0, hW0⟩ : ∃ W0, (((w1.alloc (.cells #[.slice (some ⟨gi, 0, none⟩) r r] 23)).alloc (.cells #[.int .i64 0] 3)).alloc (.cells (mcells gf (fun _ => 0) (fun _ => none)) 215)).alloc (.cells #[.int .i64 0] 3) = W0 := ⟨_, rfl⟩
  obtain ⟨ob, hob⟩ : ∃ ob, w1.heap.size = ob := ⟨_, rfl⟩
  have q0 : Block W0 ob 23 #[.slice (some ⟨gi, 0, none⟩) r r] := by rw [← hW0, ← hob]; exact (((Block.new _ _ _).alloc _).alloc _).alloc _
  have q1 : Block W0 (ob + 1) 3 #[.int .i64 0] := by
    rw [← hW0, ← hob]
    have := Block.new (w1.alloc (.cells #[.slice (some ⟨gi, 0, none⟩) r r] 23)) 3 #[.int .i64 0]
    rw [World.size_alloc] at this
    exact (this.alloc _).alloc _
  have q3 : Block W0 (ob + 3) 3 #[.int .i64 0] := by
    rw [← hW0, ← hob]
    have := Block.new (((w1.alloc (.cells #[.slice (some ⟨gi, 0, none⟩) r r] 23)).alloc (.cells #[.int .i64 0] 3)).alloc (.cells (mcells gf (fun _ => 0) (fun _ => none)) 215)) 3 #[.int .i64 0]
    rwa [World.size_alloc, World.size_alloc, World.size_alloc] at this
  have hB10 : Below w1.heap.size w1 W0 := by rw [← hW0]; exact ((((Below.refl _ w1).alloc (Nat.le_refl _) _).alloc (by simp) _).alloc (by simp; omega) _).alloc (by simp; omega) _
  have q4 : Block W0 w.heap.size 91 #[.int .i64 r, .int .i64 C, .slice A 0 cap] := hbm1.below hB10 hbm1.lt
  have q5 : Own W0 w.heap.size 3 (.slice (some ⟨gi, 0, none⟩) r r) (iv (List.range r)) := (hI.more (by simp)).below hB10
  have hBw : Below w.heap.size w W0 := hBw1.trans (hB10.mono (by omega))
  have q6 : Fld W0 gf := HF.out.below hBw hgf
  have hsz0 : W0.heap.size = ob + 4 := by rw [← hW0, ← hob]; simp
  have hobw : w.heap.size + 1 ≤ ob := by omega
  have hgiob : gi < ob := by omega
  have HQ0 := Lib.hid q0
  have HQ1 := Lib.hid q1
  have HQ3 := Lib.hid q3
  have HQ4 := Lib.hid q4
  have HQ5 := Lib.hid q5
  have HQ6 := Lib.hid q6
  obtain ⟨x1, x2⟩ : W0.cell? ⟨ob + 1, 0, none⟩ = some (.int .i64 0) ∧ W0.cell? ⟨ob + 3, 0, none⟩ = some (.int .i64 0) := ⟨HQ1.out.cell 0, HQ3.out.cell 0⟩
  obtain ⟨x3, x4, x5⟩ := cells3 HQ4.out
  have x6 : W0.cell? ⟨ob, 0, none⟩ = some (.slice (some ⟨gi, 0, none⟩) r r) := HQ0.out.cell 0
  rw [hW0]
  simp only [hob, Nat.add_assoc, Nat.reduceAdd]
  clear hst hz hI hB1 hbm1 hBw1 hW0 q0 q1 q3 q4 q5 q6 hB10 hs1 u2 HF
  refine wp_loop_once ?_
  rcases HC.out with h0 | ⟨h0, h1⟩
  · subst h0
    go_wp2
    go_quiet (fail)
    go_wp2
    refine leaves_marks (B := w.heap.size) [] _ (MarksOk.nil _ _) (fun w' ht => ⟨.tuple #[.slice (some ⟨gi, 0, none⟩) r r, .int .i64 0], by simp [results, Tryz.results188, go_sem], ?_⟩)
    exact ⟨gi, rfl, by omega, ht.own (HQ5.out.drewN _), hred.out, (HQ6.out.drewN _).imp ht.block ht.block, (Below.drewN' hBw _).trans (ht.below.mono (by simp))⟩
  · subst h1
    go_wp2
    go_quiet (fail)
    go_wp2
    refine leaves_marks (B := w.heap.size) [] _ (MarksOk.nil _ _) (fun w' ht => ⟨.tuple #[.slice (some ⟨gi, 0, none⟩) 0 0, .int .i64 0], by simp [results, Tryz.results188, go_sem], ?_⟩)
    exact ⟨gi, rfl, by omega, ht.own (HQ5.out.drewN _), hred.out, (HQ6.out.drewN _).imp ht.block ht.block, (Below.drewN' hBw _).trans (ht.below.mono (by simp))⟩
end Go.Proofs.YtiapokojlkdddaaGreat.Mat
