/- Matrices in memory: what is valid, rows of integers, what a call gives. What the program's small calls on matrices do: sizes, zeros, one row. -/
import Derived.Test.YtjpbdbgihakpmaaPolyKit
import Derived.Test.YtjpbdbgihakpmaaMatMath
import Derived.Test.YtjpbdbgihakpmaaGfOps
import Derived.Test.YtjpbdbgihakpmaaTurn
import Derived.Deep.QuietTactic
import Derived.BigQuiet
namespace Go.Proofs.Ytjpbdbgihakpmaa.Mat
open Go.RowKit F8 Poly

/-- Numbers as values of int, and the slice that reads as them. -/
def iv (l : List Nat) : List Value := l.map fun n : Nat => Value.int .i64 (n : Int)
theorem iv_length (l : List Nat) : (iv l).length = l.length := by simp [iv]
theorem iv_one (l : List Nat) : ∀ u ∈ iv l, u.oneCell' = true := by
  intro u hu; obtain ⟨n, _, rfl⟩ := List.mem_map.1 hu; rfl
theorem iv_get (l : List Nat) (k : Nat) (hk : k < l.length) : (iv l)[k]? = some (.int .i64 (l[k] : Nat)) := by simp [iv, hk]
theorem iv_set (l : List Nat) (k x : Nat) : (iv l).set k (.int .i64 (x : Int)) = iv (l.set k x) := by simp [iv, List.map_set]
theorem info_int : (Try.prog.info? 3).map (fun i => (i.zero, i.size, i.bytes)) = some (some (.int .i64 0), 1, 8) := by kernel_rfl
/-- A cell of a row of integers. -/
theorem intAt {w : World} {A : Option Addr} {l : List Nat} (h : Row w A (iv l)) (k : Nat) (hk : k < l.length) : ∃ b off, A = some ⟨b, off, none⟩ ∧ w.cell? ⟨b, off + k, none⟩ = some (.int .i64 (l[k] : Nat)) := h k _ (iv_get l k hk)

/-- Is it valid? -/
def RightB (R C : Int) (n : Nat) : Bool := decide (0 ≤ R) && decide (R ≤ 65536) && decide (0 ≤ C) && decide (C ≤ 65536) && decide ((n : Int) = R * C)
theorem rightB_iff {R C : Int} {n : Nat} : RightB R C n = true ↔ ∃ r c : Nat, R = r ∧ C = c ∧ r ≤ 65536 ∧ c ≤ 65536 ∧ n = r * c := by
  unfold RightB
  simp only [Bool.and_eq_true, decide_eq_true_eq]
  constructor
  · rintro ⟨⟨⟨⟨h1, h2⟩, h3⟩, h4⟩, h5⟩
    obtain ⟨r, rfl⟩ := Int.eq_ofNat_of_zero_le h1
    obtain ⟨c, rfl⟩ := Int.eq_ofNat_of_zero_le h3
    exact ⟨r, c, rfl, rfl, by omega, by omega, by rw [← Int.natCast_mul] at h5; omega⟩
  · rintro ⟨r, c, rfl, rfl, h1, h2, rfl⟩
    exact ⟨⟨⟨⟨by omega, by omega⟩, by omega⟩, by omega⟩, by simp⟩
theorem mul_bound {r c a b : Nat} (h1 : r ≤ a) (h2 : c ≤ b) : r * c ≤ a * b := Nat.mul_le_mul h1 h2
theorem mul_bound16 {r c : Nat} (h1 : r ≤ 65536) (h2 : c ≤ 65536) : r * c ≤ 4294967296 := mul_bound h1 h2
end Go.Proofs.Ytjpbdbgihakpmaa.Mat
namespace Go.Proofs.Ytjpbdbgihakpmaa.Mat
open Go.RowKit Go.Shelf F8 Poly

theorem area_calls (R C : Int) (h : -9223372036854775808 ≤ R * C ∧ R * C ≤ 9223372036854775807) (w : World) :
    Calls Try.prog 68 #[.int .i64 R, .int .i64 C] w fun e w' => e = .returned (.int .i64 (R * C)) ∧ w = w' := by
  have hw : IntKind.i64.wrap (R * C) = R * C := IntWalk.i64_in _ h
  go_enter Try.func68, Try.ntmps68
  go_wp2
  go_ret
  exact ⟨rfl, rfl⟩
theorem area_nat (r c : Nat) (h : r * c ≤ 9223372036854775807) (w : World) :
    Calls Try.prog 68 #[.int .i64 r, .int .i64 c] w fun e w' => e = .returned (.int .i64 (r * c : Nat)) ∧ w = w' := by
  have e : ((r * c : Nat) : Int) = (r : Int) * (c : Int) := Int.natCast_mul r c
  rw [e]
  exact area_calls r c (by rw [← e]; omega) w
/-- May there be as many rows, or columns? -/
def sideB (n : Int) : Bool := decide (0 ≤ n) && decide (n ≤ 65536)
theorem sideB_true {n : Nat} (h : n ≤ 65536) : sideB n = true := by unfold sideB; simp; omega
theorem sideB_false {n : Int} (h : n < 0 ∨ 65536 < n) : sideB n = false := by unfold sideB; simp; omega
theorem sideB_iff {n : Int} : sideB n = true ↔ 0 ≤ n ∧ n ≤ 65536 := by unfold sideB; simp
theorem isSide_calls (n : Int) (w : World) :
    Calls Try.prog 67 #[.int .i64 n] w fun e w' => e = .returned (.bool (sideB n)) ∧ w = w' := by
  by_cases h0 : 0 ≤ n
  · by_cases h1 : n ≤ 65536
    · have HB : Hid (sideB n = true) := Lib.hid (sideB_iff.2 ⟨h0, h1⟩)
      have k1 : decide (n ≤ 65536) = true := by simp; omega
      have k2 : decide (0 ≤ n) = true := by simp; omega
      go_enter Try.func67, Try.ntmps67
      go_wp2
      go_ret
      exact ⟨by rw [HB.out]; rfl, rfl⟩
    · have HB : Hid (sideB n = false) := Lib.hid (sideB_false (by omega))
      have k1 : decide (n ≤ 65536) = false := by simp; omega
      have k2 : decide (0 ≤ n) = true := by simp; omega
      go_enter Try.func67, Try.ntmps67
      go_wp2
      go_ret
      exact ⟨by rw [HB.out]; rfl, rfl⟩
  · have HB : Hid (sideB n = false) := Lib.hid (sideB_false (by omega))
    have k2 : decide (0 ≤ n) = false := by simp; omega
    go_enter Try.func67, Try.ntmps67
    go_wp2
    go_ret
    exact ⟨by rw [HB.out]; rfl, rfl⟩

theorem rightB_false1 {R C : Int} {n : Nat} (h : R < 0 ∨ 65536 < R) : RightB R C n = false := by
  rw [Bool.eq_false_iff]; intro e
  obtain ⟨r, c, rfl, rfl, h1, h2, _⟩ := rightB_iff.1 e; omega
theorem rightB_false2 {R C : Int} {n : Nat} (h : C < 0 ∨ 65536 < C) : RightB R C n = false := by
  rw [Bool.eq_false_iff]; intro e
  obtain ⟨r, c, rfl, rfl, h1, h2, _⟩ := rightB_iff.1 e; omega
theorem rightB_area {r c n : Nat} (h1 : r ≤ 65536) (h2 : c ≤ 65536) : RightB r c n = ((n : Int) == ((r * c : Nat) : Int)) := by
  rw [Bool.eq_iff_iff, rightB_iff, beq_iff_eq]
  constructor
  · rintro ⟨r', c', e1, e2, _, _, rfl⟩
    obtain rfl : r = r' := by omega
    obtain rfl : c = c' := by omega
    rfl
  · intro e; exact ⟨r, c, rfl, rfl, h1, h2, by omega⟩
set_option maxHeartbeats 1000000 in
theorem right_calls (R C : Int) (A : Option Addr) (n cap : Nat) (w : World) :
    Calls Try.prog 19 #[.agg #[.int .i64 R, .int .i64 C, .slice A n cap]] w fun e w' => e = .returned (.bool (RightB R C n)) ∧ Below w.heap.size w w' := by
  by_cases hR : R < 0 ∨ 65536 < R
  · have s1 : ∀ w, Calls Try.prog 67 #[.int .i64 R] w fun e w' => e = .returned (.bool false) ∧ w' = w := fun w => (isSide_calls R w).mono fun _ _ h => ⟨by rw [h.1, sideB_false hR], h.2.symm⟩
    rw [rightB_false1 hR]
    clear hR
    go_enter Try.func19, Try.ntmps19
    go_wp2
    go_quiet ((go_at_call 67; (with_reducible exact Calls.quiet_of_same (s1 _))))
    go_wp2
    go_ret
    exact ⟨rfl, Below.drewN' ((Below.refl _ _).alloc (Nat.le_refl _) _) _⟩
  have s1 : ∀ w, Calls Try.prog 67 #[.int .i64 R] w fun e w' => e = .returned (.bool true) ∧ w' = w := fun w => (isSide_calls R w).mono fun _ _ h => ⟨by rw [h.1, sideB_iff.2 (by omega)], h.2.symm⟩
  by_cases hC : C < 0 ∨ 65536 < C
  · have s2 : ∀ w, Calls Try.prog 67 #[.int .i64 C] w fun e w' => e = .returned (.bool false) ∧ w' = w := fun w => (isSide_calls C w).mono fun _ _ h => ⟨by rw [h.1, sideB_false hC], h.2.symm⟩
    rw [rightB_false2 hC]
    clear hC hR
    go_enter Try.func19, Try.ntmps19
    go_wp2
    go_quiet ((go_at_call 67; first | (with_reducible exact Calls.quiet_of_same (s1 _)) | (with_reducible exact Calls.quiet_of_same (s2 _))))
    go_wp2
    go_ret
    exact ⟨rfl, Below.drewN' ((Below.refl _ _).alloc (Nat.le_refl _) _) _⟩
  have s2 : ∀ w, Calls Try.prog 67 #[.int .i64 C] w fun e w' => e = .returned (.bool true) ∧ w' = w := fun w => (isSide_calls C w).mono fun _ _ h => ⟨by rw [h.1, sideB_iff.2 (by omega)], h.2.symm⟩
  obtain ⟨x, hx⟩ : ∃ x : Int, R * C = x := ⟨_, rfl⟩
  have HX : Hid (RightB R C n = ((n : Int) == x)) := by
    obtain ⟨r, rfl⟩ : ∃ r : Nat, R = r := ⟨R.toNat, by omega⟩
    obtain ⟨c, rfl⟩ : ∃ c : Nat, C = c := ⟨C.toNat, by omega⟩
    exact Lib.hid (by rw [rightB_area (by omega) (by omega), ← hx, Int.natCast_mul])
  have ha : ∀ w, Calls Try.prog 68 #[.int .i64 R, .int .i64 C] w fun e w' => e = .returned (.int .i64 x) ∧ w' = w := fun w => by
    rw [← hx]
    refine (area_calls R C ?_ w).mono fun _ _ h => ⟨h.1, h.2.symm⟩
    obtain ⟨r, rfl⟩ : ∃ r : Nat, R = r := ⟨R.toNat, by omega⟩
    obtain ⟨c, rfl⟩ : ∃ c : Nat, C = c := ⟨C.toNat, by omega⟩
    rw [← Int.natCast_mul]
    have := mul_bound16 (show r ≤ 65536 by omega) (show c ≤ 65536 by omega)
    omega
  clear hx hR hC
  go_enter Try.func19, Try.ntmps19
  go_wp2
  go_quiet ((first | (go_at_call 67; first | (with_reducible exact Calls.quiet_of_same (s1 _)) | (with_reducible exact Calls.quiet_of_same (s2 _))) | (go_at_call 68; (with_reducible exact Calls.quiet_of_same (ha _)))))
  go_wp2
  go_ret
  exact ⟨by rw [HX.out]; rfl, Below.drewN' ((Below.refl _ _).alloc (Nat.le_refl _) _) _⟩

/-- Where a row begins. -/
def rowA (A : Option Addr) (o c : Nat) : Option Addr := if c = 0 then A else A.map (·.add (o * 1))
theorem rowA_some (b off o c : Nat) (hc : 0 < c) : rowA (some ⟨b, off, none⟩) o c = some ⟨b, off + o, none⟩ := by
  unfold rowA; rw [if_neg (by omega), Nat.mul_one]; simp only [Option.map_some, addr_add]
theorem rowA_block {A : Option Addr} {o c : Nat} {a : Addr} (h : rowA A o c = some a) : ∃ a0, A = some a0 ∧ a0.block = a.block := by
  unfold rowA at h
  split at h
  · exact ⟨a, h, rfl⟩
  · obtain ⟨a0, e, rfl⟩ := Option.map_eq_some_iff.1 h
    exact ⟨a0, e, by unfold Addr.add; split <;> rfl⟩
/-- A row of a matrix. -/
def rowL (s : List F8) (c i : Nat) : List F8 := (s.drop (i * c)).take c
theorem rowL_length {s : List F8} {c i : Nat} (h : (i + 1) * c ≤ s.length) : (rowL s c i).length = c := by
  rw [Nat.succ_mul] at h
  simp only [rowL, List.length_take, List.length_drop]; omega
theorem coef_rowL {s : List F8} {c i j : Nat} (hj : j < c) : coef (rowL s c i) j = ent s c i j := by
  unfold rowL ent coef
  rw [List.getD_eq_getElem?_getD, List.getD_eq_getElem?_getD, List.getElem?_take, if_pos hj, List.getElem?_drop]
theorem rowA_bytes {w : World} {A : Option Addr} {s : List F8} {c i : Nat} (h : Bytes w A (bs s)) : Bytes w (rowA A (i * c) c) (bs (rowL s c i)) := by
  by_cases hc : c = 0
  · subst hc
    have : rowL s 0 i = [] := by simp [rowL]
    rw [this]; exact Bytes.nil _ _
  · by_cases hs : s.length = 0
    · have e : s = [] := List.length_eq_zero_iff.1 hs
      subst e
      simp only [rowL, List.drop_nil, List.take_nil]; exact Bytes.nil _ _
    · obtain ⟨b, off, rfl⟩ := where_ h (by omega)
      rw [rowA_some _ _ _ _ (by omega)]
      exact bytes_take (bytes_drop h _) _
/-- 's[lo:hi:hi]'. -/
theorem slice3_run (A : Option Addr) (N cap lo hi c : Nat) (h1 : lo + c = hi) (h2 : hi ≤ cap) (w : World) :
    (Instr.slice 22 (.slice A N cap) (some (.int .i64 (lo : Nat))) (some (.int .i64 (hi : Nat))) (some (.int .i64 (hi : Nat)))).run Try.prog w = .ok (.slice (rowA A lo c) c c) w := by
  obtain ⟨i, hi', _, hi2, _⟩ := info_parts info_u8
  have h3 : lo ≤ hi := by omega
  have e : hi - lo = c := by omega
  have e2 : (hi = lo) = (c = 0) := by rw [eq_iff_iff]; omega
  simp [Instr.slice, Instr.sliceBounds, Instr.sliceBound, run_underlying Try.underlying22, asIntOf, sizeOf, typeInfo, Sem.run_bind, hi', hi2, h2, h3, e, e2, rowA]
set_option maxHeartbeats 1000000 in
theorem rowAt_calls (R : Int) (A : Option Addr) (N cap i c : Nat) (hN : N ≤ 140737488355328) (hi : (i + 1) * c ≤ N) (hc : N ≤ cap) (hc16 : c ≤ 1000000) (hi16 : i ≤ 65536) (w : World) :
    Calls Try.prog 89 #[.agg #[.int .i64 R, .int .i64 c, .slice A N cap], .int .i64 i] w fun e w' => e = .returned (.slice (rowA A (i * c) c) c c) ∧ ∃ n, w' = (w.alloc (.cells #[.int .i64 R, .int .i64 c, .slice A N cap] 24)).drewN n := by
  have hs := slice3_run A N cap (i * c) ((i + 1) * c) c (by rw [Nat.succ_mul]) (by omega)
  have h1 : IntKind.i64.wrap ((i : Int) * c) = ((i * c : Nat) : Int) := by rw [Int.natCast_mul]; exact IntWalk.i64_in _ (by rw [← Int.natCast_mul]; have := mul_bound hi16 hc16; omega)
  have h2 : IntKind.i64.wrap (((i : Int) + 1) * c) = (((i + 1) * c : Nat) : Int) := by
    have e : ((i : Int) + 1) * c = (((i + 1) * c : Nat) : Int) := by rw [Int.natCast_mul]; rfl
    rw [e]; exact IntWalk.i64_in _ (by omega)
  have h3 : IntKind.i64.wrap ((i : Int) + 1) = (i : Int) + 1 := IntWalk.i64_in _ (by omega)
  obtain ⟨x, hx⟩ : ∃ x, i * c = x := ⟨_, rfl⟩
  obtain ⟨y, hy⟩ : ∃ y, (i + 1) * c = y := ⟨_, rfl⟩
  rw [hx] at h1 hs ⊢
  rw [hy] at h2 hs
  clear hx hy hi
  go_enter Try.func89, Try.ntmps89
  go_wp2
  go_quiet (fail)
  go_wp2
  go_ret
  exact ⟨rfl, _, rfl⟩
end Go.Proofs.Ytjpbdbgihakpmaa.Mat
