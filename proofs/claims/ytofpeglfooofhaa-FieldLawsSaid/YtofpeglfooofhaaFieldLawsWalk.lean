/- The walk of FieldLaws. -/
import Derived.Test.YtofpeglfooofhaaGfSt
namespace Go.Proofs.Ytofpeglfooofhaa.fieldLaws
open Go.RowKit GF
set_option maxRecDepth 100000 in
set_option maxHeartbeats 4000000 in
theorem core (w : World) (a b c s t u p q k r x y z d : Nat) (pb qb : Bool) (dq : Nat) (db : Bool)
    (hp0 : ((p : Int) == 0) = pb) (ha0 : ((a : Int) != 0) = qb) (hb0 : ((b : Int) != 0) = db) (hz : pb = false ∨ qb = false ∨ db = false) (hdq : (!((dq : Int) == (a : Int))) = true → db = false)
    (A0 : ∀ v, Calls Try.prog 14 #[.int .u8 a, .int .u8 b] v fun e w' => e = .returned (.int .u8 s) ∧ v = w')
    (A1 : ∀ v, Calls Try.prog 14 #[.int .u8 b, .int .u8 a] v fun e w' => e = .returned (.int .u8 s) ∧ v = w')
    (A2 : ∀ v, Calls Try.prog 14 #[.int .u8 s, .int .u8 c] v fun e w' => e = .returned (.int .u8 t) ∧ v = w')
    (A3 : ∀ v, Calls Try.prog 14 #[.int .u8 b, .int .u8 c] v fun e w' => e = .returned (.int .u8 u) ∧ v = w')
    (A4 : ∀ v, Calls Try.prog 14 #[.int .u8 a, .int .u8 u] v fun e w' => e = .returned (.int .u8 t) ∧ v = w')
    (A5 : ∀ v, Calls Try.prog 14 #[.int .u8 a, .int .u8 a] v fun e w' => e = .returned (.int .u8 0) ∧ v = w')
    (A6 : ∀ v, Calls Try.prog 14 #[.int .u8 a, .int .u8 0] v fun e w' => e = .returned (.int .u8 a) ∧ v = w')
    (A7 : ∀ v, Calls Try.prog 14 #[.int .u8 p, .int .u8 x] v fun e w' => e = .returned (.int .u8 r) ∧ v = w')
    (A8 : ∀ v, Calls Try.prog 14 #[.int .u8 z, .int .u8 d] v fun e w' => e = .returned (.int .u8 y) ∧ v = w')
    (M0 : ∀ v, St w.heap.size w [w.heap.size] v → Calls Try.prog 16 #[.pointer (some ⟨w.heap.size, 0, none⟩), .int .u8 a, .int .u8 b] v fun e w' => e = .returned (.int .u8 p) ∧ St w.heap.size w [w.heap.size] w')
    (M1 : ∀ v, St w.heap.size w [w.heap.size] v → Calls Try.prog 16 #[.pointer (some ⟨w.heap.size, 0, none⟩), .int .u8 b, .int .u8 a] v fun e w' => e = .returned (.int .u8 p) ∧ St w.heap.size w [w.heap.size] w')
    (M2 : ∀ v, St w.heap.size w [w.heap.size] v → Calls Try.prog 16 #[.pointer (some ⟨w.heap.size, 0, none⟩), .int .u8 p, .int .u8 c] v fun e w' => e = .returned (.int .u8 q) ∧ St w.heap.size w [w.heap.size] w')
    (M3 : ∀ v, St w.heap.size w [w.heap.size] v → Calls Try.prog 16 #[.pointer (some ⟨w.heap.size, 0, none⟩), .int .u8 b, .int .u8 c] v fun e w' => e = .returned (.int .u8 k) ∧ St w.heap.size w [w.heap.size] w')
    (M4 : ∀ v, St w.heap.size w [w.heap.size] v → Calls Try.prog 16 #[.pointer (some ⟨w.heap.size, 0, none⟩), .int .u8 a, .int .u8 k] v fun e w' => e = .returned (.int .u8 q) ∧ St w.heap.size w [w.heap.size] w')
    (M5 : ∀ v, St w.heap.size w [w.heap.size] v → Calls Try.prog 16 #[.pointer (some ⟨w.heap.size, 0, none⟩), .int .u8 a, .int .u8 1] v fun e w' => e = .returned (.int .u8 a) ∧ St w.heap.size w [w.heap.size] w')
    (M6 : ∀ v, St w.heap.size w [w.heap.size] v → Calls Try.prog 16 #[.pointer (some ⟨w.heap.size, 0, none⟩), .int .u8 a, .int .u8 0] v fun e w' => e = .returned (.int .u8 0) ∧ St w.heap.size w [w.heap.size] w')
    (M7 : ∀ v, St w.heap.size w [w.heap.size] v → Calls Try.prog 16 #[.pointer (some ⟨w.heap.size, 0, none⟩), .int .u8 a, .int .u8 u] v fun e w' => e = .returned (.int .u8 r) ∧ St w.heap.size w [w.heap.size] w')
    (M8 : ∀ v, St w.heap.size w [w.heap.size] v → Calls Try.prog 16 #[.pointer (some ⟨w.heap.size, 0, none⟩), .int .u8 a, .int .u8 c] v fun e w' => e = .returned (.int .u8 x) ∧ St w.heap.size w [w.heap.size] w')
    (M9 : ∀ v, St w.heap.size w [w.heap.size] v → Calls Try.prog 16 #[.pointer (some ⟨w.heap.size, 0, none⟩), .int .u8 s, .int .u8 s] v fun e w' => e = .returned (.int .u8 y) ∧ St w.heap.size w [w.heap.size] w')
    (M10 : ∀ v, St w.heap.size w [w.heap.size] v → Calls Try.prog 16 #[.pointer (some ⟨w.heap.size, 0, none⟩), .int .u8 a, .int .u8 a] v fun e w' => e = .returned (.int .u8 z) ∧ St w.heap.size w [w.heap.size] w')
    (M11 : ∀ v, St w.heap.size w [w.heap.size] v → Calls Try.prog 16 #[.pointer (some ⟨w.heap.size, 0, none⟩), .int .u8 b, .int .u8 b] v fun e w' => e = .returned (.int .u8 d) ∧ St w.heap.size w [w.heap.size] w')
    (D0 : ∀ v, St w.heap.size w [w.heap.size] v → Calls Try.prog 9 #[.pointer (some ⟨w.heap.size, 0, none⟩), .int .u8 p, .int .u8 b] v fun e w' => e = .returned (.tuple #[.int .u8 dq, .bool db]) ∧ St w.heap.size w [w.heap.size] w') :
    Calls Try.prog 5 #[.int .u8 (a : Nat), .int .u8 (b : Nat), .int .u8 (c : Nat)] w fun e w' => e = .returned (.bool true) ∧ Below w.heap.size w w' := by
  have HS := St.refl w
  have hne : ∀ x : Int, (x != x) = false := fun x => by simp
  have hq : db = true → ((dq : Int) != (a : Int)) = false := fun h => by
    cases h1 : ((dq : Int) == (a : Int)) with
    | true => simp [bne, h1]
    | false => have := hdq (by rw [h1]; rfl); rw [h] at this; cases this
  cases pb <;> cases qb <;> cases db
  all_goals first | (exfalso; revert hz; decide) | skip
  all_goals (first | (have hqq := hq rfl; clear hq hdq) | clear hq hdq)
  all_goals clear hz
  all_goals
    go_enter Try.func5, Try.ntmps5
    go_wp2_with (first
      | (go_at_call 8; (with_reducible refine (newS _ HS).mono ?_); rintro e w1 ⟨rfl, HN⟩; clear HS; have HS := HN; clear HN)
      | (go_at_call 14; (first | (with_reducible refine (A0 _).mono ?_) | (with_reducible refine (A1 _).mono ?_) | (with_reducible refine (A2 _).mono ?_) | (with_reducible refine (A3 _).mono ?_) | (with_reducible refine (A4 _).mono ?_) | (with_reducible refine (A5 _).mono ?_) | (with_reducible refine (A6 _).mono ?_) | (with_reducible refine (A7 _).mono ?_) | (with_reducible refine (A8 _).mono ?_)); rintro e w1 ⟨rfl, rfl⟩)
      | (go_at_call 16; (first | (with_reducible refine (M0 _ HS).mono ?_) | (with_reducible refine (M1 _ HS).mono ?_) | (with_reducible refine (M2 _ HS).mono ?_) | (with_reducible refine (M3 _ HS).mono ?_) | (with_reducible refine (M4 _ HS).mono ?_) | (with_reducible refine (M5 _ HS).mono ?_) | (with_reducible refine (M6 _ HS).mono ?_) | (with_reducible refine (M7 _ HS).mono ?_) | (with_reducible refine (M8 _ HS).mono ?_) | (with_reducible refine (M9 _ HS).mono ?_) | (with_reducible refine (M10 _ HS).mono ?_) | (with_reducible refine (M11 _ HS).mono ?_)); rintro e w1 ⟨rfl, HN⟩; clear HS; have HS := HN; clear HN)
      | (go_at_call 9; (first | (with_reducible refine (D0 _ HS).mono ?_)); rintro e w1 ⟨rfl, HN⟩; clear HS; have HS := HN; clear HN)
      | (go_at_call 17; (with_reducible refine (works_calls _).mono ?_); rintro e w1 ⟨rfl, HN⟩; have HS' := HS.below HN; clear HS HN; have HS := HS'; clear HS'))
    go_ret
    exact ⟨rfl, HS.bel⟩

theorem walk (w : World) (a : Nat) (ha : a < 256) (b : Nat) (hb : b < 256) (c : Nat) (hc : c < 256) :
    Calls Try.prog 5 #[.int .u8 (a : Nat), .int .u8 (b : Nat), .int .u8 (c : Nat)] w fun e w' => e = .returned (.bool true) ∧ Below w.heap.size w w' := by
  have hr : Rc [w.heap.size] (some ⟨w.heap.size, 0, none⟩) := Rc.of (by simp)
  by_cases b0 : b = 0
  · have hp : gm a b = 0 := by rw [b0, gm_zero]
    exact core w a b c (a ^^^ b) ((a ^^^ b) ^^^ c) (b ^^^ c) (gm a b) (gm (gm a b) c) (gm b c) (gm a (b ^^^ c)) (gm a c) (gm (a ^^^ b) (a ^^^ b)) (gm a a) (gm b b) true (!(decide (a = 0))) 0 false (by simp [hp]) (by by_cases h : a = 0 <;> simp [h]) (by simp [b0]) (by simp) (fun _ => rfl)
          (addS a b (a ^^^ b) ha hb rfl)
          (addS b a (a ^^^ b) hb ha (Nat.xor_comm b a))
          (addS (a ^^^ b) c ((a ^^^ b) ^^^ c) (xor_lt ha hb) hc rfl)
          (addS b c (b ^^^ c) hb hc rfl)
          (addS a (b ^^^ c) ((a ^^^ b) ^^^ c) ha (xor_lt hb hc) (Nat.xor_assoc a b c).symm)
          (addS a a 0 ha ha (Nat.xor_self a))
          (addS a 0 a ha (by decide) (Nat.xor_zero a))
          (addS (gm a b) (gm a c) (gm a (b ^^^ c)) (gm_lt _ _) (gm_lt _ _) (gm_add ha hb hc).symm)
          (addS (gm a a) (gm b b) (gm (a ^^^ b) (a ^^^ b)) (gm_lt _ _) (gm_lt _ _) (sq_add ha hb).symm)
          (fun v hv => mulS _ v hv hr a b (gm a b) ha hb rfl)
          (fun v hv => mulS _ v hv hr b a (gm a b) hb ha (gm_comm b a))
          (fun v hv => mulS _ v hv hr (gm a b) c (gm (gm a b) c) (gm_lt _ _) hc rfl)
          (fun v hv => mulS _ v hv hr b c (gm b c) hb hc rfl)
          (fun v hv => mulS _ v hv hr a (gm b c) (gm (gm a b) c) ha (gm_lt _ _) (gm_assoc ha hb hc).symm)
          (fun v hv => mulS _ v hv hr a 1 a ha (by decide) (gm_one ha))
          (fun v hv => mulS _ v hv hr a 0 0 ha (by decide) (gm_zero a))
          (fun v hv => mulS _ v hv hr a (b ^^^ c) (gm a (b ^^^ c)) ha (xor_lt hb hc) rfl)
          (fun v hv => mulS _ v hv hr a c (gm a c) ha hc rfl)
          (fun v hv => mulS _ v hv hr (a ^^^ b) (a ^^^ b) (gm (a ^^^ b) (a ^^^ b)) (xor_lt ha hb) (xor_lt ha hb) rfl)
          (fun v hv => mulS _ v hv hr a a (gm a a) ha ha rfl)
          (fun v hv => mulS _ v hv hr b b (gm b b) hb hb rfl)
          (fun v hv => by rw [b0]; exact (div_zero _ _ v).mono fun e v' ⟨h1, h2⟩ => ⟨h1, by rw [← h2]; exact hv⟩)
  · by_cases a0 : a = 0
    · have hp : gm a b = 0 := by rw [a0, zero_gm]
      exact core w a b c (a ^^^ b) ((a ^^^ b) ^^^ c) (b ^^^ c) (gm a b) (gm (gm a b) c) (gm b c) (gm a (b ^^^ c)) (gm a c) (gm (a ^^^ b) (a ^^^ b)) (gm a a) (gm b b) true false a true (by simp [hp]) (by simp [a0]) (by simp [b0]) (by simp) (by simp)
          (addS a b (a ^^^ b) ha hb rfl)
          (addS b a (a ^^^ b) hb ha (Nat.xor_comm b a))
          (addS (a ^^^ b) c ((a ^^^ b) ^^^ c) (xor_lt ha hb) hc rfl)
          (addS b c (b ^^^ c) hb hc rfl)
          (addS a (b ^^^ c) ((a ^^^ b) ^^^ c) ha (xor_lt hb hc) (Nat.xor_assoc a b c).symm)
          (addS a a 0 ha ha (Nat.xor_self a))
          (addS a 0 a ha (by decide) (Nat.xor_zero a))
          (addS (gm a b) (gm a c) (gm a (b ^^^ c)) (gm_lt _ _) (gm_lt _ _) (gm_add ha hb hc).symm)
          (addS (gm a a) (gm b b) (gm (a ^^^ b) (a ^^^ b)) (gm_lt _ _) (gm_lt _ _) (sq_add ha hb).symm)
          (fun v hv => mulS _ v hv hr a b (gm a b) ha hb rfl)
          (fun v hv => mulS _ v hv hr b a (gm a b) hb ha (gm_comm b a))
          (fun v hv => mulS _ v hv hr (gm a b) c (gm (gm a b) c) (gm_lt _ _) hc rfl)
          (fun v hv => mulS _ v hv hr b c (gm b c) hb hc rfl)
          (fun v hv => mulS _ v hv hr a (gm b c) (gm (gm a b) c) ha (gm_lt _ _) (gm_assoc ha hb hc).symm)
          (fun v hv => mulS _ v hv hr a 1 a ha (by decide) (gm_one ha))
          (fun v hv => mulS _ v hv hr a 0 0 ha (by decide) (gm_zero a))
          (fun v hv => mulS _ v hv hr a (b ^^^ c) (gm a (b ^^^ c)) ha (xor_lt hb hc) rfl)
          (fun v hv => mulS _ v hv hr a c (gm a c) ha hc rfl)
          (fun v hv => mulS _ v hv hr (a ^^^ b) (a ^^^ b) (gm (a ^^^ b) (a ^^^ b)) (xor_lt ha hb) (xor_lt ha hb) rfl)
          (fun v hv => mulS _ v hv hr a a (gm a a) ha ha rfl)
          (fun v hv => mulS _ v hv hr b b (gm b b) hb hb rfl)
          (fun v hv => divS _ v hv hr _ b a (gm_lt _ _) hb b0 (gq_gm ha hb b0))
    · have hp : gm a b ≠ 0 := fun h => by rcases gm_eq_zero.1 h with h | h; exact a0 h; exact b0 h
      exact core w a b c (a ^^^ b) ((a ^^^ b) ^^^ c) (b ^^^ c) (gm a b) (gm (gm a b) c) (gm b c) (gm a (b ^^^ c)) (gm a c) (gm (a ^^^ b) (a ^^^ b)) (gm a a) (gm b b) false true a true (by simp [hp]) (by simp [a0]) (by simp [b0]) (by simp) (by simp)
          (addS a b (a ^^^ b) ha hb rfl)
          (addS b a (a ^^^ b) hb ha (Nat.xor_comm b a))
          (addS (a ^^^ b) c ((a ^^^ b) ^^^ c) (xor_lt ha hb) hc rfl)
          (addS b c (b ^^^ c) hb hc rfl)
          (addS a (b ^^^ c) ((a ^^^ b) ^^^ c) ha (xor_lt hb hc) (Nat.xor_assoc a b c).symm)
          (addS a a 0 ha ha (Nat.xor_self a))
          (addS a 0 a ha (by decide) (Nat.xor_zero a))
          (addS (gm a b) (gm a c) (gm a (b ^^^ c)) (gm_lt _ _) (gm_lt _ _) (gm_add ha hb hc).symm)
          (addS (gm a a) (gm b b) (gm (a ^^^ b) (a ^^^ b)) (gm_lt _ _) (gm_lt _ _) (sq_add ha hb).symm)
          (fun v hv => mulS _ v hv hr a b (gm a b) ha hb rfl)
          (fun v hv => mulS _ v hv hr b a (gm a b) hb ha (gm_comm b a))
          (fun v hv => mulS _ v hv hr (gm a b) c (gm (gm a b) c) (gm_lt _ _) hc rfl)
          (fun v hv => mulS _ v hv hr b c (gm b c) hb hc rfl)
          (fun v hv => mulS _ v hv hr a (gm b c) (gm (gm a b) c) ha (gm_lt _ _) (gm_assoc ha hb hc).symm)
          (fun v hv => mulS _ v hv hr a 1 a ha (by decide) (gm_one ha))
          (fun v hv => mulS _ v hv hr a 0 0 ha (by decide) (gm_zero a))
          (fun v hv => mulS _ v hv hr a (b ^^^ c) (gm a (b ^^^ c)) ha (xor_lt hb hc) rfl)
          (fun v hv => mulS _ v hv hr a c (gm a c) ha hc rfl)
          (fun v hv => mulS _ v hv hr (a ^^^ b) (a ^^^ b) (gm (a ^^^ b) (a ^^^ b)) (xor_lt ha hb) (xor_lt ha hb) rfl)
          (fun v hv => mulS _ v hv hr a a (gm a a) ha ha rfl)
          (fun v hv => mulS _ v hv hr b b (gm b b) hb hb rfl)
          (fun v hv => divS _ v hv hr _ b a (gm_lt _ _) hb b0 (gq_gm ha hb b0))
end Go.Proofs.Ytofpeglfooofhaa.fieldLaws
