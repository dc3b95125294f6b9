/- What bytes.Equal and bytes.Clone do, and the program's and the definition's Same. -/
import Derived.Test.YtjpbdbgihakpmaaMatCode2
import Derived.Test.YtjpbdbgihakpmaaPolySame
import Derived.Laws.Cover3
namespace Go.Proofs.Ytjpbdbgihakpmaa.Mat
open Go.RowKit Go.Shelf F8 Poly GF

set_option maxHeartbeats 1000000 in
theorem equal_calls (A B : Option Addr) (p q : List F8) (m n c d : Nat) (w : World) (hm : p.length = m) (hn : q.length = n) (hb : Bytes w A (bs p)) (hb2 : Bytes w B (bs q)) :
    Calls Try.prog 79 #[.slice A m c, .slice B n d] w fun e w' => e = .returned (.bool (decide (p = q))) ∧ w = w' := by
  have c1 := conv_f hb m c hm
  have c2 := conv_f hb2 n d hn
  have HE : Hid (((str (bs p)).toList == (str (bs q)).toList) = decide (p = q)) := Lib.hid (by
    rw [Bool.eq_iff_iff, beq_iff_eq, decide_eq_true_iff, ByteArray.toList_eq, ByteArray.toList_eq, str_data, str_data]
    constructor
    · intro h
      refine bs_inj.1 (str_inj (bs_lt p) (bs_lt q) ?_)
      unfold str; rw [h]
    · intro h; rw [h])
  clear hb hb2
  go_enter Try.func79, Try.ntmps79
  go_wp2
  go_ret
  exact ⟨GF.ret_bool HE.out, rfl⟩

theorem eql_nil (a : Option Addr) (l c : Nat) (w : World) : (binOp .eql 22 (.slice a l c) (.slice none 0 0)).run Try.prog w = .ok (.bool a.isNone) w := by
  simp only [binOp]
  simp [run_equal_slice_nil w 22 5 a l c Try.underlying22]
/-- A call has given a row of its own. -/
def RowRes (n : Nat) (s : List F8) (w : World) (e : Ending) (w' : World) : Prop :=
  ∃ A c, e = .returned (.slice A n c) ∧ n ≤ c ∧ Own w' w.heap.size 5 (.slice A n c) (bv (bs s)) ∧ Below w.heap.size w w'
set_option maxHeartbeats 1000000 in
theorem clone_calls (A : Option Addr) (s : List F8) (n c : Nat) (w : World) (hl : s.length = n) (hn : n ≤ 1000000000) (hb : Bytes w A (bs s)) :
    Calls Try.prog 70 #[.slice A n c] w (RowRes n s w) := by
  have hq := eql_nil A n c
  have HB := Lib.hid hb
  have HL := Lib.hid hl
  rcases A with _ | a
  · have hs : s = [] := by
      rcases s with _ | ⟨x, s⟩
      · rfl
      · obtain ⟨b, off, h, _⟩ := hb.row 0 _ rfl; cases h
    subst hs
    obtain rfl : n = 0 := by simpa using hl.symm
    clear hb hl HB HL
    go_enter Try.func70, Try.ntmps70
    go_wp2
    go_ret
    exact ⟨none, 0, rfl, Nat.le_refl _, Own.nil _ _ _, Below.refl _ _⟩
  · have hO := Own.lit w w.heap.size 5 #[] 0 (Nat.le_refl _) rfl (by decide)
    have HO := Lib.hid hO
    clear hb hl hO
    go_enter Try.func70, Try.ntmps70
    go_wp2_with (at_builtin; refine wpList_app _ rfl (.tmp 5) (.tmp 6) 22 rfl w.heap.size 5 (.int .u8 0) 1 Try.underlying22 info_u8 rfl (by decide) (.slice (some ⟨w.heap.size, 0, none⟩) 0 0) [] rfl HO.out (some a) n c (bv (bs s)) rfl (by rw [bvs_length, HL.out]) (HB.out.alloc _).row (bv_one _) (by simp; omega) (by simp) ?_; intro v' w1 hO1 hg _; (obtain ⟨A1, c1, rfl, hc1⟩ := Own.shape (p := s) (by rw [List.nil_append] at hO1; exact hO1)); have HO1 := Lib.hid hO1; clear hO1)
    have hB := ((Below.refl w.heap.size w).alloc (Nat.le_refl _) (.cells #[] 5)).grown hg (by simp) (fun k hk => by simp [Value.ownBlock] at hk; omega)
    go_ret
    have hO1 := HO1.out
    rw [List.nil_append, HL.out] at hO1
    rw [HL.out] at hc1
    exact ⟨A1, c1, by rw [HL.out]; rfl, hc1, hO1, hB⟩

/-- Are they equal? -/
def SameB (R C R' C' : Int) (p q : List F8) : Bool := decide (R = R' ∧ C = C' ∧ p = q)
set_option maxHeartbeats 2000000 in
theorem msame_calls (R C R' C' : Int) (A B : Option Addr) (p q : List F8) (m n c d : Nat) (w : World) (hm : p.length = m) (hn : q.length = n) (hb : Bytes w A (bs p)) (hb2 : Bytes w B (bs q)) :
    Calls Try.prog 53 #[.agg #[.int .i64 R, .int .i64 C, .slice A m c], .agg #[.int .i64 R', .int .i64 C', .slice B n d]] w fun e w' => e = .returned (.bool (SameB R C R' C' p q)) ∧ Below w.heap.size w w' := by
  have hB2 : Below w.heap.size w ((w.alloc (.cells #[.int .i64 R, .int .i64 C, .slice A m c] 24)).alloc (.cells #[.int .i64 R', .int .i64 C', .slice B n d] 24)) := ((Below.refl _ _).alloc (Nat.le_refl _) _).alloc (by simp) _
  have HB := Lib.hid (hb.below hB2)
  have HB2 := Lib.hid (hb2.below hB2)
  have HM := Lib.hid hm
  have HN := Lib.hid hn
  clear hb hb2 hm hn
  by_cases h1 : R = R'
  · by_cases h2 : C = C'
    · have HS : Hid (SameB R C R' C' p q = decide (p = q)) := Lib.hid (by unfold SameB; simp [h1, h2])
      subst h1 h2
      have k1 : (R == R) = true := by simp
      have k2 : (C == C) = true := by simp
      go_enter Try.func53, Try.ntmps53
      go_wp2_with (go_at_call 79; refine (equal_calls A B p q m n c d _ HM.out HN.out HB.out HB2.out).mono ?_; rintro e w' ⟨rfl, rfl⟩)
      go_ret
      exact ⟨GF.ret_bool HS.out.symm, hB2⟩
    · have HS : Hid (SameB R C R' C' p q = false) := Lib.hid (by unfold SameB; simp [h2])
      have k1 : (R == R') = true := by simp [h1]
      have k2 : (C == C') = false := by simp [h2]
      clear h1 h2
      go_enter Try.func53, Try.ntmps53
      go_wp2
      go_ret
      exact ⟨GF.ret_bool HS.out.symm, hB2⟩
  · have HS : Hid (SameB R C R' C' p q = false) := Lib.hid (by unfold SameB; simp [h1])
    have k1 : (R == R') = false := by simp [h1]
    clear h1
    go_enter Try.func53, Try.ntmps53
    go_wp2
    go_ret
    exact ⟨GF.ret_bool HS.out.symm, hB2⟩
set_option maxHeartbeats 2000000 in
theorem refSame_calls (R C R' C' : Int) (A B : Option Addr) (p q : List F8) (m n c d : Nat) (w : World) (hm : p.length = m) (hn : q.length = n) (hb : Bytes w A (bs p)) (hb2 : Bytes w B (bs q)) :
    Calls Try.prog 58 #[.agg #[.int .i64 R, .int .i64 C, .slice A m c], .agg #[.int .i64 R', .int .i64 C', .slice B n d]] w fun e w' => e = .returned (.bool (SameB R C R' C' p q)) ∧ Below w.heap.size w w' := by
  have hB2 : Below w.heap.size w ((w.alloc (.cells #[.int .i64 R, .int .i64 C, .slice A m c] 33)).alloc (.cells #[.int .i64 R', .int .i64 C', .slice B n d] 33)) := ((Below.refl _ _).alloc (Nat.le_refl _) _).alloc (by simp) _
  have c1 := conv_f (hb.below hB2) m c hm
  have c2 := conv_f (hb2.below hB2) n d hn
  have HE : Hid (((str (bs p)).toList == (str (bs q)).toList) = decide (p = q)) := Lib.hid (by
    rw [Bool.eq_iff_iff, beq_iff_eq, decide_eq_true_iff, ByteArray.toList_eq, ByteArray.toList_eq, str_data, str_data]
    constructor
    · intro h
      refine bs_inj.1 (str_inj (bs_lt p) (bs_lt q) ?_)
      unfold str; rw [h]
    · intro h; rw [h])
  clear hb hb2 hm hn
  by_cases h1 : R = R'
  · by_cases h2 : C = C'
    · have HS : Hid (SameB R C R' C' p q = decide (p = q)) := Lib.hid (by unfold SameB; simp [h1, h2])
      subst h1 h2
      have k1 : (R == R) = true := by simp
      have k2 : (C == C) = true := by simp
      go_enter Try.func58, Try.ntmps58
      go_wp2
      go_ret
      exact ⟨GF.ret_bool (HE.out.trans HS.out.symm), hB2⟩
    · have HS : Hid (SameB R C R' C' p q = false) := Lib.hid (by unfold SameB; simp [h2])
      have k1 : (R == R') = true := by simp [h1]
      have k2 : (C == C') = false := by simp [h2]
      clear h1 h2
      go_enter Try.func58, Try.ntmps58
      go_wp2
      go_ret
      exact ⟨GF.ret_bool HS.out.symm, hB2⟩
  · have HS : Hid (SameB R C R' C' p q = false) := Lib.hid (by unfold SameB; simp [h1])
    have k1 : (R == R') = false := by simp [h1]
    clear h1
    go_enter Try.func58, Try.ntmps58
    go_wp2
    go_ret
    exact ⟨GF.ret_bool HS.out.symm, hB2⟩
end Go.Proofs.Ytjpbdbgihakpmaa.Mat
