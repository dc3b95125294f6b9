/- The walk of FieldTwo. -/
import Derived.Test.YtofpeglfooofhaaGfSt
namespace Go.Proofs.Ytofpeglfooofhaa.fieldTwo
open Go.RowKit GF
set_option maxRecDepth 100000 in
set_option maxHeartbeats 4000000 in
theorem core (w : World) (a b s p dq iq : Nat) (db ib : Bool)
    (D0 : ∀ v, St w.heap.size w [w.heap.size + 1, w.heap.size] v → Calls Try.prog 9 #[.pointer (some ⟨w.heap.size + 1, 0, none⟩), .int .u8 a, .int .u8 b] v fun e w' => e = .returned (.tuple #[.int .u8 dq, .bool db]) ∧ St w.heap.size w [w.heap.size + 1, w.heap.size] w')
    (D1 : ∀ v, St w.heap.size w [w.heap.size + 1, w.heap.size] v → Calls Try.prog 9 #[.pointer none, .int .u8 a, .int .u8 b] v fun e w' => e = .returned (.tuple #[.int .u8 dq, .bool db]) ∧ St w.heap.size w [w.heap.size + 1, w.heap.size] w')
    (RD : ∀ v, Calls Try.prog 10 #[.int .u8 a, .int .u8 b] v fun e w' => e = .returned (.tuple #[.int .u8 dq, .bool db]) ∧ v = w')
    (I0 : ∀ v, St w.heap.size w [w.heap.size + 1, w.heap.size] v → Calls Try.prog 11 #[.pointer (some ⟨w.heap.size + 1, 0, none⟩), .int .u8 a] v fun e w' => e = .returned (.tuple #[.int .u8 iq, .bool ib]) ∧ St w.heap.size w [w.heap.size + 1, w.heap.size] w')
    (RI : ∀ v, Calls Try.prog 12 #[.int .u8 a] v fun e w' => e = .returned (.tuple #[.int .u8 iq, .bool ib]) ∧ v = w')
    (RM : ∀ v, Calls Try.prog 13 #[.int .u8 a, .int .u8 b] v fun e w' => e = .returned (.int .u8 p) ∧ v = w')
    (M0 : ∀ v, St w.heap.size w [w.heap.size + 1, w.heap.size] v → Calls Try.prog 16 #[.pointer (some ⟨w.heap.size + 1, 0, none⟩), .int .u8 a, .int .u8 b] v fun e w' => e = .returned (.int .u8 p) ∧ St w.heap.size w [w.heap.size + 1, w.heap.size] w')
    (M1 : ∀ v, St w.heap.size w [w.heap.size + 1, w.heap.size] v → Calls Try.prog 16 #[.pointer none, .int .u8 a, .int .u8 b] v fun e w' => e = .returned (.int .u8 p) ∧ St w.heap.size w [w.heap.size + 1, w.heap.size] w')
    (M2 : ∀ v, St w.heap.size w [w.heap.size + 1, w.heap.size] v → Calls Try.prog 16 #[.pointer (some ⟨w.heap.size, 0, none⟩), .int .u8 a, .int .u8 b] v fun e w' => e = .returned (.int .u8 p) ∧ St w.heap.size w [w.heap.size + 1, w.heap.size] w')
    (A0 : ∀ v, Calls Try.prog 14 #[.int .u8 a, .int .u8 b] v fun e w' => e = .returned (.int .u8 s) ∧ v = w')
    (RA : ∀ v, Calls Try.prog 15 #[.int .u8 a, .int .u8 b] v fun e w' => e = .returned (.int .u8 s) ∧ v = w') :
    Calls Try.prog 3 #[.int .u8 (a : Nat), .int .u8 (b : Nat)] w fun e w' => e = .returned (.bool true) ∧ Below w.heap.size w w' := by
  have hz := zero_field
  have HS := (St.refl w).new
  have N0 : Calls Try.prog 8 #[] (w.alloc (.cells (fcells 0 0 0) 38)) fun e w' => e = .returned (.pointer (some ⟨w.heap.size + 1, 0, none⟩)) ∧ St w.heap.size w [w.heap.size + 1, w.heap.size] w' := by
    have := newS _ HS
    simpa using this
  clear HS
  have HS : True := trivial
  go_enter Try.func3, Try.ntmps3
  go_wp2_with (first
    | (go_at_call 8; (with_reducible refine N0.mono ?_); rintro e w1 ⟨rfl, HN⟩; clear HS; have HS := HN; clear HN)
    | (go_at_call 9; (first | (with_reducible refine (D0 _ HS).mono ?_) | (with_reducible refine (D1 _ HS).mono ?_)); rintro e w1 ⟨rfl, HN⟩; clear HS; have HS := HN; clear HN)
    | (go_at_call 10; (first | (with_reducible refine (RD _).mono ?_)); rintro e w1 ⟨rfl, rfl⟩)
    | (go_at_call 11; (first | (with_reducible refine (I0 _ HS).mono ?_)); rintro e w1 ⟨rfl, HN⟩; clear HS; have HS := HN; clear HN)
    | (go_at_call 12; (first | (with_reducible refine (RI _).mono ?_)); rintro e w1 ⟨rfl, rfl⟩)
    | (go_at_call 13; (first | (with_reducible refine (RM _).mono ?_)); rintro e w1 ⟨rfl, rfl⟩)
    | (go_at_call 16; (first | (with_reducible refine (M0 _ HS).mono ?_) | (with_reducible refine (M1 _ HS).mono ?_) | (with_reducible refine (M2 _ HS).mono ?_)); rintro e w1 ⟨rfl, HN⟩; clear HS; have HS := HN; clear HN)
    | (go_at_call 14; (first | (with_reducible refine (A0 _).mono ?_)); rintro e w1 ⟨rfl, rfl⟩)
    | (go_at_call 15; (first | (with_reducible refine (RA _).mono ?_)); rintro e w1 ⟨rfl, rfl⟩)
    | (go_at_call 17; (with_reducible refine (works_calls _).mono ?_); rintro e w1 ⟨rfl, HN⟩; have HS' := HS.below HN; clear HS HN; have HS := HS'; clear HS'))
  go_ret
  exact ⟨rfl, HS.bel⟩
theorem zeroSt {B : Nat} {w0 v : World} {gs : List Nat} {F : FuncId} {args : Array Value} {r : Value} (hv : St B w0 gs v) (h : Calls Try.prog F args v fun e w' => e = .returned r ∧ v = w') : Calls Try.prog F args v fun e w' => e = .returned r ∧ St B w0 gs w' :=
  h.mono fun _ _ ⟨h1, h2⟩ => ⟨h1, by rw [← h2]; exact hv⟩
theorem flip {v : World} {F : FuncId} {args : Array Value} {r : Value} (h : Calls Try.prog F args v fun e w' => e = .returned r ∧ w' = v) : Calls Try.prog F args v fun e w' => e = .returned r ∧ v = w' :=
  h.mono fun _ _ ⟨h1, h2⟩ => ⟨h1, h2.symm⟩
theorem walk (w : World) (a : Nat) (ha : a < 256) (b : Nat) (hb : b < 256) :
    Calls Try.prog 3 #[.int .u8 (a : Nat), .int .u8 (b : Nat)] w fun e w' => e = .returned (.bool true) ∧ Below w.heap.size w w' := by
  have r0 : Rc [w.heap.size + 1, w.heap.size] (some ⟨w.heap.size + 1, 0, none⟩) := Rc.of (by simp)
  have r1 : Rc [w.heap.size + 1, w.heap.size] (some ⟨w.heap.size, 0, none⟩) := Rc.of (by simp)
  have r2 : Rc [w.heap.size + 1, w.heap.size] none := Rc.nil
  obtain ⟨dq, db, d0, d1, rd⟩ : ∃ (dq : Nat) (db : Bool), (∀ p, Rc [w.heap.size + 1, w.heap.size] p → ∀ v, St w.heap.size w [w.heap.size + 1, w.heap.size] v → Calls Try.prog 9 #[.pointer p, .int .u8 a, .int .u8 b] v fun e w' => e = .returned (.tuple #[.int .u8 dq, .bool db]) ∧ St w.heap.size w [w.heap.size + 1, w.heap.size] w') ∧ True ∧ ∀ v, Calls Try.prog 10 #[.int .u8 a, .int .u8 b] v fun e w' => e = .returned (.tuple #[.int .u8 dq, .bool db]) ∧ v = w' := by
    by_cases b0 : b = 0
    · exact ⟨0, false, fun p hp v hv => by rw [b0]; exact zeroSt hv (div_zero p a v), trivial, fun v => by rw [b0]; exact refDiv_zero a v⟩
    · exact ⟨gq a b, true, fun p hp v hv => divS p v hv hp a b _ ha hb b0 rfl, trivial, fun v => refDiv_calls a b ha hb b0 v⟩
  obtain ⟨iq, ib, i0, ri⟩ : ∃ (iq : Nat) (ib : Bool), (∀ p, Rc [w.heap.size + 1, w.heap.size] p → ∀ v, St w.heap.size w [w.heap.size + 1, w.heap.size] v → Calls Try.prog 11 #[.pointer p, .int .u8 a] v fun e w' => e = .returned (.tuple #[.int .u8 iq, .bool ib]) ∧ St w.heap.size w [w.heap.size + 1, w.heap.size] w') ∧ ∀ v, Calls Try.prog 12 #[.int .u8 a] v fun e w' => e = .returned (.tuple #[.int .u8 iq, .bool ib]) ∧ v = w' := by
    by_cases a0 : a = 0
    · exact ⟨0, false, fun p hp v hv => by rw [a0]; exact zeroSt hv (inv_zero p v), fun v => by rw [a0]; exact refInv_zero v⟩
    · exact ⟨gq 1 a, true, fun p hp v hv => invS p v hv hp a _ ha a0 rfl, fun v => refInv_calls a ha a0 v⟩
  exact core w a b (a ^^^ b) (gm a b) dq iq db ib (d0 _ r0) (d0 _ r2) rd (i0 _ r0) ri (fun v => flip (refMul_calls a b ha hb v))
    (fun v hv => mulS _ v hv r0 a b _ ha hb rfl) (fun v hv => mulS _ v hv r2 a b _ ha hb rfl) (fun v hv => mulS _ v hv r1 a b _ ha hb rfl) (addS a b _ ha hb rfl) (refAdd_calls a b ha hb)
end Go.Proofs.Ytofpeglfooofhaa.fieldTwo
