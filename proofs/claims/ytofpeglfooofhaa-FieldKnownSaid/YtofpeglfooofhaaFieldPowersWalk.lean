/- The walk of FieldPowers. -/
import Derived.Test.YtofpeglfooofhaaGfSt
import Derived.Test.YtofpeglfooofhaaGfMath2
namespace Go.Proofs.Ytofpeglfooofhaa.fieldPowers
open Go.RowKit GF
set_option maxRecDepth 100000 in
set_option maxHeartbeats 4000000 in
theorem core (w : World) (a l p x o : Nat) (n : Int) (lb : Bool)
    (L0 : ∀ v, St w.heap.size w [w.heap.size] v → Calls Try.prog 18 #[.pointer (some ⟨w.heap.size, 0, none⟩), .int .u8 a] v fun e w' => e = .returned (.tuple #[.int .i64 l, .bool lb]) ∧ St w.heap.size w [w.heap.size] w')
    (RL : ∀ v, Calls Try.prog 19 #[.int .u8 a] v fun e w' => e = .returned (.tuple #[.int .i64 l, .bool lb]) ∧ v = w')
    (RP : ∀ v, Calls Try.prog 20 #[.int .u8 a, .int .i64 n] v fun e w' => e = .returned (.int .u8 p) ∧ v = w')
    (RT : ∀ v, Calls Try.prog 20 #[.int .u8 2, .int .i64 n] v fun e w' => e = .returned (.int .u8 x) ∧ v = w')
    (P0 : ∀ v, St w.heap.size w [w.heap.size] v → Calls Try.prog 21 #[.pointer (some ⟨w.heap.size, 0, none⟩), .int .u8 a, .int .i64 n] v fun e w' => e = .returned (.int .u8 p) ∧ St w.heap.size w [w.heap.size] w')
    (P1 : ∀ v, St w.heap.size w [w.heap.size] v → Calls Try.prog 21 #[.pointer none, .int .u8 a, .int .i64 n] v fun e w' => e = .returned (.int .u8 p) ∧ St w.heap.size w [w.heap.size] w')
    (E0 : ∀ v, St w.heap.size w [w.heap.size] v → Calls Try.prog 22 #[.pointer (some ⟨w.heap.size, 0, none⟩), .int .i64 n] v fun e w' => e = .returned (.int .u8 x) ∧ St w.heap.size w [w.heap.size] w')
    (O0 : ∀ v, St w.heap.size w [w.heap.size] v → Calls Try.prog 23 #[.pointer (some ⟨w.heap.size, 0, none⟩), .int .u8 a] v fun e w' => e = .returned (.int .i64 o) ∧ St w.heap.size w [w.heap.size] w')
    (RO : ∀ v, Calls Try.prog 24 #[.int .u8 a] v fun e w' => e = .returned (.int .i64 o) ∧ v = w') :
    Calls Try.prog 4 #[.int .u8 (a : Nat), .int .i64 n] w fun e w' => e = .returned (.bool true) ∧ Below w.heap.size w w' := by
  have HS := St.refl w
  go_enter Try.func4, Try.ntmps4
  go_wp2_with (first
    | (go_at_call 8; (with_reducible refine (newS _ HS).mono ?_); rintro e w1 ⟨rfl, HN⟩; clear HS; have HS := HN; clear HN)
    | (go_at_call 18; (first | (with_reducible refine (L0 _ HS).mono ?_)); rintro e w1 ⟨rfl, HN⟩; clear HS; have HS := HN; clear HN)
    | (go_at_call 19; (first | (with_reducible refine (RL _).mono ?_)); rintro e w1 ⟨rfl, rfl⟩)
    | (go_at_call 20; (first | (with_reducible refine (RP _).mono ?_) | (with_reducible refine (RT _).mono ?_)); rintro e w1 ⟨rfl, rfl⟩)
    | (go_at_call 21; (first | (with_reducible refine (P0 _ HS).mono ?_) | (with_reducible refine (P1 _ HS).mono ?_)); rintro e w1 ⟨rfl, HN⟩; clear HS; have HS := HN; clear HN)
    | (go_at_call 22; (first | (with_reducible refine (E0 _ HS).mono ?_)); rintro e w1 ⟨rfl, HN⟩; clear HS; have HS := HN; clear HN)
    | (go_at_call 23; (first | (with_reducible refine (O0 _ HS).mono ?_)); rintro e w1 ⟨rfl, HN⟩; clear HS; have HS := HN; clear HN)
    | (go_at_call 24; (first | (with_reducible refine (RO _).mono ?_)); rintro e w1 ⟨rfl, rfl⟩)
    | (go_at_call 17; (with_reducible refine (works_calls _).mono ?_); rintro e w1 ⟨rfl, HN⟩; have HS' := HS.below HN; clear HS HN; have HS := HS'; clear HS'))
  go_ret
  exact ⟨rfl, HS.bel⟩
theorem zeroSt {B : Nat} {w0 v : World} {gs : List Nat} {F : FuncId} {args : Array Value} {r : Value} (hv : St B w0 gs v) (h : Calls Try.prog F args v fun e w' => e = .returned r ∧ v = w') : Calls Try.prog F args v fun e w' => e = .returned r ∧ St B w0 gs w' :=
  h.mono fun _ _ ⟨h1, h2⟩ => ⟨h1, by rw [← h2]; exact hv⟩
theorem walk (w : World) (a : Nat) (ha : a < 256) (n : Int) (hl : -9223372036854775808 ≤ n) (hh : n < 9223372036854775808) :
    Calls Try.prog 4 #[.int .u8 (a : Nat), .int .i64 n] w fun e w' => e = .returned (.bool true) ∧ Below w.heap.size w w' := by
  have r0 : Rc [w.heap.size] (some ⟨w.heap.size, 0, none⟩) := Rc.of (by simp)
  have r2 : Rc [w.heap.size] none := Rc.nil
  have RT : ∀ v, Calls Try.prog 20 #[.int .u8 2, .int .i64 n] v fun e w' => e = .returned (.int .u8 (ge n : Nat)) ∧ v = w' := fun v => by
    rw [← gpow_two]; exact refPow_calls 2 (by decide) n hl hh v
  by_cases a0 : a = 0
  · exact core w a 0 (gpow a n) (ge n) 0 n false (fun v hv => by rw [a0]; exact zeroSt hv (log_zero _ v)) (fun v => by rw [a0]; exact refLog_zero v) (fun v => refPow_calls a ha n hl hh v) RT
      (fun v hv => powS _ v hv r0 a n _ ha hl hh rfl) (fun v hv => powS _ v hv r2 a n _ ha hl hh rfl) (fun v hv => expS _ v hv r0 n _ hl hh rfl) (fun v hv => by rw [a0]; exact zeroSt hv (order_zero _ v)) (fun v => by rw [a0]; exact refOrder_zero v)
  · exact core w a (gl a) (gpow a n) (ge n) (gord a) n true (fun v hv => logS _ v hv r0 a _ ha a0 rfl) (fun v => refLog_calls a ha a0 v) (fun v => refPow_calls a ha n hl hh v) RT
      (fun v hv => powS _ v hv r0 a n _ ha hl hh rfl) (fun v hv => powS _ v hv r2 a n _ ha hl hh rfl) (fun v hv => expS _ v hv r0 n _ hl hh rfl) (fun v hv => orderS _ v hv r0 a _ ha a0 rfl) (fun v => refOrder_calls a ha a0 v)
end Go.Proofs.Ytofpeglfooofhaa.fieldPowers
