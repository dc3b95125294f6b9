/- The walk of FieldLogs. -/
import Derived.Test.YtofpeglfooofhaaGfSt
import Derived.Test.YtofpeglfooofhaaGfMath2
namespace Go.Proofs.Ytofpeglfooofhaa.fieldLogs
open Go.RowKit GF
set_option maxRecDepth 100000 in
set_option maxHeartbeats 4000000 in
theorem core (w : World) (a b x y z p e1 e2 e3 q1 q2 q3 o : Nat) (m n : Int) (hm : -32768 ≤ m) (hm' : m < 32768) (hn : -32768 ≤ n) (hn' : n < 32768) (xb yb : Bool) (hx : x < 255) (hy : y < 255)
    (ha0 : ((a : Int) != 0) = xb) (ha1 : ((a : Int) == 0) = !xb) (hz : xb = true → yb = true → ((x : Int) + y) % 255 = z) (ho0 : xb = false → o = 0) (ho1 : xb = true → 0 < o ∧ 255 % o = 0)
    (LA : ∀ v, St w.heap.size w [w.heap.size] v → Calls Try.prog 18 #[.pointer (some ⟨w.heap.size, 0, none⟩), .int .u8 a] v fun e w' => e = .returned (.tuple #[.int .i64 x, .bool xb]) ∧ St w.heap.size w [w.heap.size] w')
    (LB : ∀ v, St w.heap.size w [w.heap.size] v → Calls Try.prog 18 #[.pointer (some ⟨w.heap.size, 0, none⟩), .int .u8 b] v fun e w' => e = .returned (.tuple #[.int .i64 y, .bool yb]) ∧ St w.heap.size w [w.heap.size] w')
    (MP : ∀ v, St w.heap.size w [w.heap.size] v → Calls Try.prog 16 #[.pointer (some ⟨w.heap.size, 0, none⟩), .int .u8 a, .int .u8 b] v fun e w' => e = .returned (.int .u8 p) ∧ St w.heap.size w [w.heap.size] w')
    (E1 : ∀ v, St w.heap.size w [w.heap.size] v → Calls Try.prog 22 #[.pointer (some ⟨w.heap.size, 0, none⟩), .int .i64 m] v fun e w' => e = .returned (.int .u8 e1) ∧ St w.heap.size w [w.heap.size] w')
    (E2 : ∀ v, St w.heap.size w [w.heap.size] v → Calls Try.prog 22 #[.pointer (some ⟨w.heap.size, 0, none⟩), .int .i64 n] v fun e w' => e = .returned (.int .u8 e2) ∧ St w.heap.size w [w.heap.size] w')
    (E3 : ∀ v, St w.heap.size w [w.heap.size] v → Calls Try.prog 22 #[.pointer (some ⟨w.heap.size, 0, none⟩), .int .i64 (m + n)] v fun e w' => e = .returned (.int .u8 e3) ∧ St w.heap.size w [w.heap.size] w')
    (M1 : ∀ v, St w.heap.size w [w.heap.size] v → Calls Try.prog 16 #[.pointer (some ⟨w.heap.size, 0, none⟩), .int .u8 e1, .int .u8 e2] v fun e w' => e = .returned (.int .u8 e3) ∧ St w.heap.size w [w.heap.size] w')
    (OA : ∀ v, St w.heap.size w [w.heap.size] v → Calls Try.prog 23 #[.pointer (some ⟨w.heap.size, 0, none⟩), .int .u8 a] v fun e w' => e = .returned (.int .i64 o) ∧ St w.heap.size w [w.heap.size] w')
    (LPE : xb = true → yb = true → (∀ v, St w.heap.size w [w.heap.size] v → Calls Try.prog 18 #[.pointer (some ⟨w.heap.size, 0, none⟩), .int .u8 p] v fun e w' => e = .returned (.tuple #[.int .i64 z, .bool true]) ∧ St w.heap.size w [w.heap.size] w') ∧ (∀ v, St w.heap.size w [w.heap.size] v → Calls Try.prog 22 #[.pointer (some ⟨w.heap.size, 0, none⟩), .int .i64 x] v fun e w' => e = .returned (.int .u8 a) ∧ St w.heap.size w [w.heap.size] w'))
    (PS : xb = true → (∀ v, St w.heap.size w [w.heap.size] v → Calls Try.prog 21 #[.pointer (some ⟨w.heap.size, 0, none⟩), .int .u8 a, .int .i64 m] v fun e w' => e = .returned (.int .u8 q1) ∧ St w.heap.size w [w.heap.size] w') ∧ (∀ v, St w.heap.size w [w.heap.size] v → Calls Try.prog 21 #[.pointer (some ⟨w.heap.size, 0, none⟩), .int .u8 a, .int .i64 n] v fun e w' => e = .returned (.int .u8 q2) ∧ St w.heap.size w [w.heap.size] w') ∧ (∀ v, St w.heap.size w [w.heap.size] v → Calls Try.prog 21 #[.pointer (some ⟨w.heap.size, 0, none⟩), .int .u8 a, .int .i64 (m + n)] v fun e w' => e = .returned (.int .u8 q3) ∧ St w.heap.size w [w.heap.size] w') ∧ (∀ v, St w.heap.size w [w.heap.size] v → Calls Try.prog 16 #[.pointer (some ⟨w.heap.size, 0, none⟩), .int .u8 q1, .int .u8 q2] v fun e w' => e = .returned (.int .u8 q3) ∧ St w.heap.size w [w.heap.size] w') ∧ (∀ v, St w.heap.size w [w.heap.size] v → Calls Try.prog 21 #[.pointer (some ⟨w.heap.size, 0, none⟩), .int .u8 a, .int .i64 255] v fun e w' => e = .returned (.int .u8 1) ∧ St w.heap.size w [w.heap.size] w') ∧ (∀ v, St w.heap.size w [w.heap.size] v → Calls Try.prog 21 #[.pointer (some ⟨w.heap.size, 0, none⟩), .int .u8 a, .int .i64 o] v fun e w' => e = .returned (.int .u8 1) ∧ St w.heap.size w [w.heap.size] w') ∧ (∀ v, St w.heap.size w [w.heap.size] v → Calls Try.prog 21 #[.pointer (some ⟨w.heap.size, 0, none⟩), .int .u8 q1, .int .i64 o] v fun e w' => e = .returned (.int .u8 1) ∧ St w.heap.size w [w.heap.size] w')) :
    Calls Try.prog 6 #[.int .u8 (a : Nat), .int .u8 (b : Nat), .int .i16 m, .int .i16 n] w fun e w' => e = .returned (.bool true) ∧ Below w.heap.size w w' := by
  have HS := St.refl w
  have hne : ∀ x : Int, (x != x) = false := fun x => by simp
  cases xb
  · obtain rfl := ho0 rfl
    clear ho0 ho1 hz LPE PS
    cases yb
    all_goals
      go_enter Try.func6, Try.ntmps6
      go_wp2_with (first
        | (go_at_call 8; (with_reducible refine (newS _ HS).mono ?_); rintro e w1 ⟨rfl, HN⟩; clear HS; have HS := HN; clear HN)
        | (go_at_call 18; (first | (with_reducible refine (LA _ HS).mono ?_) | (with_reducible refine (LB _ HS).mono ?_) | (with_reducible refine (LP _ HS).mono ?_)); rintro e w1 ⟨rfl, HN⟩; clear HS; have HS := HN; clear HN)
        | (go_at_call 16; (first | (with_reducible refine (MP _ HS).mono ?_) | (with_reducible refine (M1 _ HS).mono ?_) | (with_reducible refine (M2 _ HS).mono ?_)); rintro e w1 ⟨rfl, HN⟩; clear HS; have HS := HN; clear HN)
        | (go_at_call 22; (first | (with_reducible refine (E3 _ HS).mono ?_) | (with_reducible refine (E1 _ HS).mono ?_) | (with_reducible refine (E2 _ HS).mono ?_) | (with_reducible refine (EX _ HS).mono ?_)); rintro e w1 ⟨rfl, HN⟩; clear HS; have HS := HN; clear HN)
        | (go_at_call 21; (first | (with_reducible refine (P3 _ HS).mono ?_) | (with_reducible refine (P1 _ HS).mono ?_) | (with_reducible refine (P2 _ HS).mono ?_) | (with_reducible refine (P4 _ HS).mono ?_) | (with_reducible refine (P5 _ HS).mono ?_) | (with_reducible refine (P6 _ HS).mono ?_)); rintro e w1 ⟨rfl, HN⟩; clear HS; have HS := HN; clear HN)
        | (go_at_call 23; (first | (with_reducible refine (OA _ HS).mono ?_)); rintro e w1 ⟨rfl, HN⟩; clear HS; have HS := HN; clear HN)
        | (go_at_call 17; (with_reducible refine (works_calls _).mono ?_); rintro e w1 ⟨rfl, HN⟩; have HS' := HS.below HN; clear HS HN; have HS := HS'; clear HS'))
      go_ret
      exact ⟨rfl, HS.bel⟩
  · obtain ⟨o1, o2⟩ := ho1 rfl
    obtain ⟨P1, P2, P3, M2, P4, P5, P6⟩ := PS rfl
    have o3 : (o : Int) ≠ 0 := by omega
    have o4 : (0 : Int) < (o : Int) := by omega
    have o5 : (255 : Int) % (o : Int) = 0 := by rw [show (255 : Int) = ((255 : Nat) : Int) from rfl, ← Int.natCast_emod, o2]; rfl
    clear ho0 ho1 PS o1 o2
    cases yb
    · clear hz LPE
      go_enter Try.func6, Try.ntmps6
      go_wp2_with (first
        | (go_at_call 8; (with_reducible refine (newS _ HS).mono ?_); rintro e w1 ⟨rfl, HN⟩; clear HS; have HS := HN; clear HN)
        | (go_at_call 18; (first | (with_reducible refine (LA _ HS).mono ?_) | (with_reducible refine (LB _ HS).mono ?_) | (with_reducible refine (LP _ HS).mono ?_)); rintro e w1 ⟨rfl, HN⟩; clear HS; have HS := HN; clear HN)
        | (go_at_call 16; (first | (with_reducible refine (MP _ HS).mono ?_) | (with_reducible refine (M1 _ HS).mono ?_) | (with_reducible refine (M2 _ HS).mono ?_)); rintro e w1 ⟨rfl, HN⟩; clear HS; have HS := HN; clear HN)
        | (go_at_call 22; (first | (with_reducible refine (E3 _ HS).mono ?_) | (with_reducible refine (E1 _ HS).mono ?_) | (with_reducible refine (E2 _ HS).mono ?_) | (with_reducible refine (EX _ HS).mono ?_)); rintro e w1 ⟨rfl, HN⟩; clear HS; have HS := HN; clear HN)
        | (go_at_call 21; (first | (with_reducible refine (P3 _ HS).mono ?_) | (with_reducible refine (P1 _ HS).mono ?_) | (with_reducible refine (P2 _ HS).mono ?_) | (with_reducible refine (P4 _ HS).mono ?_) | (with_reducible refine (P5 _ HS).mono ?_) | (with_reducible refine (P6 _ HS).mono ?_)); rintro e w1 ⟨rfl, HN⟩; clear HS; have HS := HN; clear HN)
        | (go_at_call 23; (first | (with_reducible refine (OA _ HS).mono ?_)); rintro e w1 ⟨rfl, HN⟩; clear HS; have HS := HN; clear HN)
        | (go_at_call 17; (with_reducible refine (works_calls _).mono ?_); rintro e w1 ⟨rfl, HN⟩; have HS' := HS.below HN; clear HS HN; have HS := HS'; clear HS'))
      go_ret
      exact ⟨rfl, HS.bel⟩
    · have hz1 := hz rfl rfl
      obtain ⟨LP, EX⟩ := LPE rfl rfl
      clear hz LPE
      go_enter Try.func6, Try.ntmps6
      go_wp2_with (first
        | (go_at_call 8; (with_reducible refine (newS _ HS).mono ?_); rintro e w1 ⟨rfl, HN⟩; clear HS; have HS := HN; clear HN)
        | (go_at_call 18; (first | (with_reducible refine (LA _ HS).mono ?_) | (with_reducible refine (LB _ HS).mono ?_) | (with_reducible refine (LP _ HS).mono ?_)); rintro e w1 ⟨rfl, HN⟩; clear HS; have HS := HN; clear HN)
        | (go_at_call 16; (first | (with_reducible refine (MP _ HS).mono ?_) | (with_reducible refine (M1 _ HS).mono ?_) | (with_reducible refine (M2 _ HS).mono ?_)); rintro e w1 ⟨rfl, HN⟩; clear HS; have HS := HN; clear HN)
        | (go_at_call 22; (first | (with_reducible refine (E3 _ HS).mono ?_) | (with_reducible refine (E1 _ HS).mono ?_) | (with_reducible refine (E2 _ HS).mono ?_) | (with_reducible refine (EX _ HS).mono ?_)); rintro e w1 ⟨rfl, HN⟩; clear HS; have HS := HN; clear HN)
        | (go_at_call 21; (first | (with_reducible refine (P3 _ HS).mono ?_) | (with_reducible refine (P1 _ HS).mono ?_) | (with_reducible refine (P2 _ HS).mono ?_) | (with_reducible refine (P4 _ HS).mono ?_) | (with_reducible refine (P5 _ HS).mono ?_) | (with_reducible refine (P6 _ HS).mono ?_)); rintro e w1 ⟨rfl, HN⟩; clear HS; have HS := HN; clear HN)
        | (go_at_call 23; (first | (with_reducible refine (OA _ HS).mono ?_)); rintro e w1 ⟨rfl, HN⟩; clear HS; have HS := HN; clear HN)
        | (go_at_call 17; (with_reducible refine (works_calls _).mono ?_); rintro e w1 ⟨rfl, HN⟩; have HS' := HS.below HN; clear HS HN; have HS := HS'; clear HS'))
      go_ret
      exact ⟨rfl, HS.bel⟩
theorem zeroSt {B : Nat} {w0 v : World} {gs : List Nat} {F : FuncId} {args : Array Value} {r : Value} (hv : St B w0 gs v) (h : Calls Try.prog F args v fun e w' => e = .returned r ∧ v = w') : Calls Try.prog F args v fun e w' => e = .returned r ∧ St B w0 gs w' :=
  h.mono fun _ _ ⟨h1, h2⟩ => ⟨h1, by rw [← h2]; exact hv⟩
theorem log_any {B : Nat} {w0 : World} {gs : List Nat} {p : Option Addr} (hr : Rc gs p) (a : Nat) (ha : a < 256) (v : World) (hv : St B w0 gs v) :
    Calls Try.prog 18 #[.pointer p, .int .u8 a] v fun e w' => e = .returned (.tuple #[.int .i64 ((if a = 0 then 0 else gl a : Nat) : Int), .bool (decide (a ≠ 0))]) ∧ St B w0 gs w' := by
  by_cases a0 : a = 0
  · subst a0; exact zeroSt hv (log_zero _ v)
  · rw [if_neg a0, decide_eq_true a0]; exact logS _ v hv hr a _ ha a0 rfl
theorem order_any {B : Nat} {w0 : World} {gs : List Nat} {p : Option Addr} (hr : Rc gs p) (a : Nat) (ha : a < 256) (v : World) (hv : St B w0 gs v) :
    Calls Try.prog 23 #[.pointer p, .int .u8 a] v fun e w' => e = .returned (.int .i64 (gord a : Nat)) ∧ St B w0 gs w' := by
  by_cases a0 : a = 0
  · subst a0; exact zeroSt hv (order_zero _ v)
  · exact orderS _ v hv hr a _ ha a0 rfl
theorem walk (w : World) (a : Nat) (ha : a < 256) (b : Nat) (hb : b < 256) (m : Int) (hm : -32768 ≤ m) (hm' : m < 32768) (n : Int) (hn : -32768 ≤ n) (hn' : n < 32768) :
    Calls Try.prog 6 #[.int .u8 (a : Nat), .int .u8 (b : Nat), .int .i16 m, .int .i16 n] w fun e w' => e = .returned (.bool true) ∧ Below w.heap.size w w' := by
  have r0 : Rc [w.heap.size] (some ⟨w.heap.size, 0, none⟩) := Rc.of (by simp)
  have la := gl_lt ha
  have lb := gl_lt hb
  refine core w a b (if a = 0 then 0 else gl a) (if b = 0 then 0 else gl b) (gl (gm a b)) (gm a b) (ge m) (ge n) (ge (m + n)) (gpow a m) (gpow a n) (gpow a (m + n)) (gord a) m n hm hm' hn hn' (decide (a ≠ 0)) (decide (b ≠ 0))
    (by split <;> omega) (by split <;> omega) ?_ ?_ ?_ ?_ ?_ (log_any r0 a ha) (log_any r0 b hb) (fun v hv => mulS _ v hv r0 a b _ ha hb rfl) (fun v hv => expS _ v hv r0 m _ (by omega) (by omega) rfl) (fun v hv => expS _ v hv r0 n _ (by omega) (by omega) rfl)
    (fun v hv => expS _ v hv r0 (m + n) _ (by omega) (by omega) rfl) (fun v hv => mulS _ v hv r0 _ _ _ (ge_lt _) (ge_lt _) (ge_add m n).symm) (order_any r0 a ha) ?_ ?_
  · by_cases h : a = 0 <;> simp [h]
  · by_cases h : a = 0 <;> simp [h]
  · intro h1 h2
    have a0 : a ≠ 0 := of_decide_eq_true h1
    have b0 : b ≠ 0 := of_decide_eq_true h2
    rw [if_neg a0, if_neg b0, gl_gm ha hb a0 b0]; omega
  · intro h1
    have a0 : a = 0 := by simpa using h1
    rw [a0]; rfl
  · intro h1
    obtain ⟨h2, _, h3, _⟩ := ord_spec ha (of_decide_eq_true h1)
    exact ⟨h2, h3⟩
  · intro h1 h2
    have a0 : a ≠ 0 := of_decide_eq_true h1
    have b0 : b ≠ 0 := of_decide_eq_true h2
    rw [if_neg a0]
    have hp : gm a b ≠ 0 := fun h => by rcases gm_eq_zero.1 h with h | h; exact a0 h; exact b0 h
    exact ⟨fun v hv => logS _ v hv r0 _ _ (gm_lt _ _) hp rfl, fun v hv => expS _ v hv r0 _ _ (by omega) (by omega) (ge_log ha a0)⟩
  · intro h1
    have a0 : a ≠ 0 := of_decide_eq_true h1
    have ho := (ord_spec ha a0).2.1
    exact ⟨fun v hv => powS _ v hv r0 a m _ ha (by omega) (by omega) rfl, fun v hv => powS _ v hv r0 a n _ ha (by omega) (by omega) rfl, fun v hv => powS _ v hv r0 a (m + n) _ ha (by omega) (by omega) rfl,
      fun v hv => mulS _ v hv r0 _ _ _ (gpow_lt _ _) (gpow_lt _ _) (gpow_add a0 m n).symm, fun v hv => powS _ v hv r0 a 255 1 ha (by omega) (by omega) (gpow_255 a0), fun v hv => powS _ v hv r0 a _ 1 ha (by omega) (by omega) (gpow_ord ha a0),
      fun v hv => powS _ v hv r0 _ _ 1 (gpow_lt _ _) (by omega) (by omega) (gpow_pow_ord ha a0 m)⟩
end Go.Proofs.Ytofpeglfooofhaa.fieldLogs
