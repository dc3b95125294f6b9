/- Of the program and its document, joined: MatBad. -/
import Derived.Test.YtiapokojlkdddaaGreatPk36
/- What the program's Mul does where it refuses; Pick. -/
namespace Go.Proofs.YtiapokojlkdddaaGreat.Mat
open Go.RowKit Go.Shelf F8 Poly GF
attribute [local go_sem] Oper.semAt_some

set_option maxRecDepth 100000 in
set_option maxHeartbeats 2000000 in
theorem mul_bad (pf : Option Addr) (Ra Ca Rb Cb : Int) (A B : Option Addr) (n1 n2 c1 c2 : Nat) (h : ¬ (RightB Ra Ca n1 = true ∧ RightB Rb Cb n2 = true ∧ Ca = Rb ∧ Ra * Cb ≤ 16777216)) (w : World) :
    Calls Tryz.prog 118 #[.pointer pf, .agg #[.int .i64 Ra, .int .i64 Ca, .slice A n1 c1], .agg #[.int .i64 Rb, .int .i64 Cb, .slice B n2 c2]] w fun e w' => MatResE w w' e 0 0 [] 50 := by
  obtain ⟨wa, hwa⟩ : ∃ wa, ((w.alloc (.cells #[.int .i64 Ra, .int .i64 Ca, .slice A n1 c1] 91)).alloc (.cells #[.int .i64 Rb, .int .i64 Cb, .slice B n2 c2] 91)).alloc (.cells #[.int .i64 0, .int .i64 0, .slice none 0 0] 91) = wa := ⟨_, rfl⟩
  have hba : Block wa w.heap.size 91 #[.int .i64 Ra, .int .i64 Ca, .slice A n1 c1] := by rw [← hwa]; exact ((Block.new _ _ _).alloc _).alloc _
  have hbb : Block wa (w.heap.size + 1) 91 #[.int .i64 Rb, .int .i64 Cb, .slice B n2 c2] := by
    rw [← hwa]
    have := Block.new (w.alloc (.cells #[.int .i64 Ra, .int .i64 Ca, .slice A n1 c1] 91)) 91 #[.int .i64 Rb, .int .i64 Cb, .slice B n2 c2]
    rw [World.size_alloc] at this
    exact this.alloc _
  have hbr : Block wa (w.heap.size + 2) 91 #[.int .i64 0, .int .i64 0, .slice none 0 0] := by
    rw [← hwa]
    have := Block.new ((w.alloc (.cells #[.int .i64 Ra, .int .i64 Ca, .slice A n1 c1] 91)).alloc (.cells #[.int .i64 Rb, .int .i64 Cb, .slice B n2 c2] 91)) 91 #[.int .i64 0, .int .i64 0, .slice none 0 0]
    rwa [World.size_alloc, World.size_alloc] at this
  have hBa : Below w.heap.size w wa := by rw [← hwa]; exact (((Below.refl _ w).alloc (Nat.le_refl _) _).alloc (by simp) _).alloc (by simp; omega) _
  have hsa : wa.heap.size = w.heap.size + 3 := by rw [← hwa]; simp
  obtain ⟨n0, n1', n2'⟩ := cells3 hba
  by_cases hr1 : RightB Ra Ca n1 = true
  · by_cases hr2 : RightB Rb Cb n2 = true
    · obtain ⟨r, n, rfl, rfl, k1, k2, k3⟩ := rightB_iff.1 hr1
      obtain ⟨n', m, rfl, rfl, k4, k5, k6⟩ := rightB_iff.1 hr2
      by_cases hnn : n = n'
      · subst hnn
        have hbig : 16777216 < r * m := by
          rcases Nat.lt_or_ge 16777216 (r * m) with h1 | h1
          · exact h1
          · exact absurd ⟨hr1, hr2, rfl, by rw [← Int.natCast_mul]; omega⟩ h
        obtain ⟨N3, hN3⟩ : ∃ N3, r * m = N3 := ⟨_, rfl⟩
        have hm16 := mul_bound16 k1 k5
        rw [hN3] at hbig hm16
        have e1 : ((n : Int) != (n : Int)) = false := by simp
        have e2 : ((n : Int) == (n : Int)) = true := by simp
        have e3 : decide (16777216 < (N3 : Int)) = true := by simp; omega
        have HR1 := Lib.hid hr1
        have HR2 := Lib.hid hr2
        have HN3 := Lib.hid hN3
        clear hr1 hr2 h hN3 k3 k6
        go_enter Tryz.func118, Tryz.ntmps118
        go_wp2_with fail
        refine (right_calls r n A n1 c1 _).mono ?_
        rintro e w1 ⟨rfl, hB1⟩
        rw [HR1.out]
        have hba1 := hba.below hB1 hba.lt
        have hbb1 := hbb.below hB1 hbb.lt
        have hbr1 := hbr.below hB1 hbr.lt
        have hBw1 := hBa.trans (hB1.mono (by omega))
        have hs1 := hB1.size
        obtain ⟨p0, p1, p2⟩ := cells3 hbb1
        clear hwa hba hbb hbr hB1 hBa n0 n1' n2'
        go_wp2_with fail
        refine (right_calls n m B n2 c2 _).mono ?_
        rintro e w2 ⟨rfl, hB2⟩
        rw [HR2.out]
        have hba2 := hba1.below hB2 hba1.lt
        have hbb2 := hbb1.below hB2 hbb1.lt
        have hbr2 := hbr1.below hB2 hbr1.lt
        have hBw2 := hBw1.trans (hB2.mono (by omega))
        obtain ⟨n0, n1', n2'⟩ := cells3 hba2
        obtain ⟨q0, q1, q2⟩ := cells3 hbb2
        obtain ⟨s0, s1, s2⟩ := cells3 hbr2
        have f0 := hbr2.frozen 0
        have f1 := hbr2.frozen 1
        have f2 := hbr2.frozen 2
        clear hba1 hbb1 hbr1 hB2 hBw1 p0 p1 p2
        go_wp2_with fail
        refine (area_nat r m (by rw [HN3.out]; omega) _).mono ?_
        rintro e w3 ⟨rfl, rfl⟩
        rw [HN3.out]
        go_wp2
        refine bodyPost_ret (v := .tuple #[.agg #[.int .i64 0, .int .i64 0, .slice none 0 0], .int .i64 50]) (by simp [results, Tryz.results118, go_sem, s0, s1, s2]) rfl ?_
        exact ⟨none, 0, rfl, Nat.le_refl _, Own.nil _ _ _, below_set3 hBw2 (by omega) _ _ _⟩
      · have e2 : ((n : Int) == (n' : Int)) = false := by simp; omega
        have e1 : ((n : Int) != (n' : Int)) = true := by simp [bne, e2]
        have HR1 := Lib.hid hr1
        have HR2 := Lib.hid hr2
        clear hr1 hr2 h k3 k6 hnn
        go_enter Tryz.func118, Tryz.ntmps118
        go_wp2_with fail
        refine (right_calls r n A n1 c1 _).mono ?_
        rintro e w1 ⟨rfl, hB1⟩
        rw [HR1.out]
        have hba1 := hba.below hB1 hba.lt
        have hbb1 := hbb.below hB1 hbb.lt
        have hbr1 := hbr.below hB1 hbr.lt
        have hBw1 := hBa.trans (hB1.mono (by omega))
        have hs1 := hB1.size
        obtain ⟨p0, p1, p2⟩ := cells3 hbb1
        clear hwa hba hbb hbr hB1 hBa n0 n1' n2'
        go_wp2_with fail
        refine (right_calls n' m B n2 c2 _).mono ?_
        rintro e w2 ⟨rfl, hB2⟩
        rw [HR2.out]
        have hba2 := hba1.below hB2 hba1.lt
        have hbb2 := hbb1.below hB2 hbb1.lt
        have hbr2 := hbr1.below hB2 hbr1.lt
        have hBw2 := hBw1.trans (hB2.mono (by omega))
        obtain ⟨n0, n1', n2'⟩ := cells3 hba2
        obtain ⟨q0, q1, q2⟩ := cells3 hbb2
        obtain ⟨s0, s1, s2⟩ := cells3 hbr2
        have f0 := hbr2.frozen 0
        have f1 := hbr2.frozen 1
        have f2 := hbr2.frozen 2
        clear hba1 hbb1 hbr1 hB2 hBw1 p0 p1 p2
        go_wp2
        refine bodyPost_ret (v := .tuple #[.agg #[.int .i64 0, .int .i64 0, .slice none 0 0], .int .i64 50]) (by simp [results, Tryz.results118, go_sem, s0, s1, s2]) rfl ?_
        exact ⟨none, 0, rfl, Nat.le_refl _, Own.nil _ _ _, below_set3 hBw2 (by omega) _ _ _⟩
    · have HR1 := Lib.hid hr1
      have HR2 : Hid (RightB Rb Cb n2 = false) := Lib.hid (by simpa using hr2)
      clear hr1 hr2 h
      go_enter Tryz.func118, Tryz.ntmps118
      go_wp2_with fail
      refine (right_calls Ra Ca A n1 c1 _).mono ?_
      rintro e w1 ⟨rfl, hB1⟩
      rw [HR1.out]
      have hbb1 := hbb.below hB1 hbb.lt
      have hbr1 := hbr.below hB1 hbr.lt
      have hBw1 := hBa.trans (hB1.mono (by omega))
      have hs1 := hB1.size
      obtain ⟨p0, p1, p2⟩ := cells3 hbb1
      clear hwa hba hbb hbr hB1 hBa n0 n1' n2'
      go_wp2_with fail
      refine (right_calls Rb Cb B n2 c2 _).mono ?_
      rintro e w2 ⟨rfl, hB2⟩
      rw [HR2.out]
      have hbr2 := hbr1.below hB2 hbr1.lt
      have hBw2 := hBw1.trans (hB2.mono (by omega))
      obtain ⟨s0, s1, s2⟩ := cells3 hbr2
      have f0 := hbr2.frozen 0
      have f1 := hbr2.frozen 1
      have f2 := hbr2.frozen 2
      clear hbb1 hbr1 hB2 hBw1 p0 p1 p2
      go_wp2
      refine bodyPost_ret (v := .tuple #[.agg #[.int .i64 0, .int .i64 0, .slice none 0 0], .int .i64 50]) (by simp [results, Tryz.results118, go_sem, s0, s1, s2]) rfl ?_
      exact ⟨none, 0, rfl, Nat.le_refl _, Own.nil _ _ _, below_set3 hBw2 (by omega) _ _ _⟩
  · have HR1 : Hid (RightB Ra Ca n1 = false) := Lib.hid (by simpa using hr1)
    clear hr1 h
    go_enter Tryz.func118, Tryz.ntmps118
    go_wp2_with fail
    refine (right_calls Ra Ca A n1 c1 _).mono ?_
    rintro e w1 ⟨rfl, hB1⟩
    rw [HR1.out]
    have hbr1 := hbr.below hB1 hbr.lt
    have hBw1 := hBa.trans (hB1.mono (by omega))
    obtain ⟨s0, s1, s2⟩ := cells3 hbr1
    have f0 := hbr1.frozen 0
    have f1 := hbr1.frozen 1
    have f2 := hbr1.frozen 2
    clear hwa hba hbb hbr hB1 hBa n0 n1' n2'
    go_wp2
    refine bodyPost_ret (v := .tuple #[.agg #[.int .i64 0, .int .i64 0, .slice none 0 0], .int .i64 50]) (by simp [results, Tryz.results118, go_sem, s0, s1, s2]) rfl ?_
    exact ⟨none, 0, rfl, Nat.le_refl _, Own.nil _ _ _, below_set3 hBw1 (by omega) _ _ _⟩
end Go.Proofs.YtiapokojlkdddaaGreat.Mat
