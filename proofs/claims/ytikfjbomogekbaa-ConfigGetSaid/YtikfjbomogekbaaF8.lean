/- The field's elements as a type of their own, its laws, and lists of them as bytes. -/
import Derived.Test.YtikfjbomogekbaaGfMath2
namespace Go.Proofs.Ytikfjbomogekbaa

/-- A byte as an element of the field. -/
structure F8 where
  n : Nat
  h : n < 256
namespace F8
theorem ext {a b : F8} (h : a.n = b.n) : a = b := by
  obtain ⟨a, ha⟩ := a; obtain ⟨b, hb⟩ := b; cases h; rfl
theorem n_inj {a b : F8} : a.n = b.n ↔ a = b := ⟨ext, fun h => by rw [h]⟩
instance : DecidableEq F8 := fun a b => if h : a.n = b.n then isTrue (ext h) else isFalse (fun e => h (by rw [e]))
instance : Zero F8 := ⟨⟨0, by decide⟩⟩
instance : One F8 := ⟨⟨1, by decide⟩⟩
instance : Add F8 := ⟨fun a b => ⟨a.n ^^^ b.n, GF.xor_lt a.h b.h⟩⟩
instance : Mul F8 := ⟨fun a b => ⟨GF.gm a.n b.n, GF.gm_lt _ _⟩⟩
instance : Div F8 := ⟨fun a b => ⟨GF.gq a.n b.n, GF.gq_lt _ _⟩⟩
instance : Inhabited F8 := ⟨0⟩
def inv (a : F8) : F8 := 1 / a
def pow (a : F8) (k : Int) : F8 := ⟨GF.gpow a.n k, GF.gpow_lt _ _⟩
theorem n_zero : (0 : F8).n = 0 := rfl
theorem n_one : (1 : F8).n = 1 := rfl
theorem n_add (a b : F8) : (a + b).n = a.n ^^^ b.n := rfl
theorem n_mul (a b : F8) : (a * b).n = GF.gm a.n b.n := rfl
theorem n_div (a b : F8) : (a / b).n = GF.gq a.n b.n := rfl
theorem n_eq_zero {a : F8} : a.n = 0 ↔ a = 0 := n_inj (b := 0)
theorem n_ne_zero {a : F8} : a.n ≠ 0 ↔ a ≠ 0 := not_congr n_eq_zero
theorem add_comm (a b : F8) : a + b = b + a := ext (Nat.xor_comm _ _)
theorem add_assoc (a b c : F8) : a + b + c = a + (b + c) := ext (Nat.xor_assoc _ _ _)
theorem add_left_comm (a b c : F8) : a + (b + c) = b + (a + c) := by rw [← add_assoc, add_comm a b, add_assoc]
theorem add_zero (a : F8) : a + 0 = a := ext (Nat.xor_zero _)
theorem zero_add (a : F8) : 0 + a = a := ext (Nat.zero_xor _)
theorem add_self (a : F8) : a + a = 0 := ext (Nat.xor_self _)
theorem add_add_self (a b : F8) : a + b + b = a := by rw [add_assoc, add_self, add_zero]
theorem add_self_add (a b : F8) : a + (a + b) = b := by rw [← add_assoc, add_self, zero_add]
theorem add_eq_zero {a b : F8} : a + b = 0 ↔ a = b := ⟨fun h => by rw [← add_add_self a b, h, zero_add], fun h => by rw [h, add_self]⟩
theorem add_right_inj {a b c : F8} : a + c = b + c ↔ a = b := ⟨fun h => by rw [← add_add_self a c, h, add_add_self], fun h => by rw [h]⟩
theorem add_left_inj {a b c : F8} : c + a = c + b ↔ a = b := by rw [add_comm c, add_comm c, add_right_inj]
theorem eq_add {a b c : F8} : a = b + c ↔ a + b = c := ⟨fun h => by rw [h, add_comm b, add_add_self], fun h => by rw [← h, add_comm a, add_self_add]⟩
theorem mul_comm (a b : F8) : a * b = b * a := ext (GF.gm_comm _ _)
theorem mul_assoc (a b c : F8) : a * b * c = a * (b * c) := ext (GF.gm_assoc a.h b.h c.h)
theorem mul_left_comm (a b c : F8) : a * (b * c) = b * (a * c) := by rw [← mul_assoc, mul_comm a b, mul_assoc]
theorem mul_one (a : F8) : a * 1 = a := ext (GF.gm_one a.h)
theorem one_mul (a : F8) : 1 * a = a := ext (GF.one_gm a.h)
theorem mul_zero (a : F8) : a * 0 = 0 := ext (GF.gm_zero _)
theorem zero_mul (a : F8) : 0 * a = 0 := ext (GF.zero_gm a.n)
theorem mul_add (a b c : F8) : a * (b + c) = a * b + a * c := ext (GF.gm_add a.h b.h c.h)
theorem add_mul (a b c : F8) : (a + b) * c = a * c + b * c := ext (GF.add_gm a.h b.h c.h)
theorem mul_eq_zero {a b : F8} : a * b = 0 ↔ a = 0 ∨ b = 0 := by
  rw [← n_eq_zero, ← n_eq_zero, ← n_eq_zero, n_mul, GF.gm_eq_zero]
theorem mul_ne_zero {a b : F8} (ha : a ≠ 0) (hb : b ≠ 0) : a * b ≠ 0 := fun h => (mul_eq_zero.1 h).elim ha hb
theorem one_ne_zero : (1 : F8) ≠ 0 := by decide
theorem zero_div (b : F8) : 0 / b = 0 := ext (show GF.gq 0 b.n = 0 from rfl)
theorem div_mul {b : F8} (a : F8) (hb : b ≠ 0) : a / b * b = a := ext (GF.gm_gq a.h b.h (n_ne_zero.2 hb))
theorem mul_div {b : F8} (a : F8) (hb : b ≠ 0) : a * b / b = a := ext (GF.gq_gm a.h b.h (n_ne_zero.2 hb))
theorem mul_div' {b : F8} (a : F8) (hb : b ≠ 0) : b * (a / b) = a := by rw [mul_comm, div_mul a hb]
theorem mul_right_cancel {a b c : F8} (hc : c ≠ 0) (h : a * c = b * c) : a = b := by rw [← mul_div a hc, h, mul_div b hc]
theorem mul_left_cancel {a b c : F8} (hc : c ≠ 0) (h : c * a = c * b) : a = b := mul_right_cancel hc (by rw [mul_comm a, mul_comm b, h])
theorem div_eq {a b c : F8} (hb : b ≠ 0) : a / b = c ↔ a = c * b := ⟨fun h => by rw [← h, div_mul a hb], fun h => by rw [h, mul_div c hb]⟩
theorem inv_mul {a : F8} (ha : a ≠ 0) : inv a * a = 1 := div_mul 1 ha
theorem mul_inv {a : F8} (ha : a ≠ 0) : a * inv a = 1 := by rw [mul_comm, inv_mul ha]
theorem inv_ne {a : F8} (ha : a ≠ 0) : inv a ≠ 0 := fun h => by have := inv_mul ha; rw [h, zero_mul] at this; exact one_ne_zero this.symm
theorem div_eq_mul_inv {b : F8} (a : F8) (hb : b ≠ 0) : a / b = a * inv b := by rw [div_eq hb, mul_assoc, inv_mul hb, mul_one]
instance : Std.Associative (α := F8) (· + ·) := ⟨add_assoc⟩
instance : Std.Commutative (α := F8) (· + ·) := ⟨add_comm⟩
instance : Std.Associative (α := F8) (· * ·) := ⟨mul_assoc⟩
instance : Std.Commutative (α := F8) (· * ·) := ⟨mul_comm⟩

/-- A list of elements as bytes, and back. -/
def bs (l : List F8) : List Nat := l.map F8.n
theorem bs_lt (l : List F8) : ∀ c ∈ bs l, c < 256 := by
  intro c hc; obtain ⟨x, _, rfl⟩ := List.mem_map.1 hc; exact x.h
theorem bs_length (l : List F8) : (bs l).length = l.length := by simp [bs]
theorem bs_append (a b : List F8) : bs (a ++ b) = bs a ++ bs b := by simp [bs]
theorem bs_inj {a b : List F8} : bs a = bs b ↔ a = b := by
  constructor
  · intro h
    induction a generalizing b with
    | nil => cases b with
      | nil => rfl
      | cons y b => simp [bs] at h
    | cons x a ih => cases b with
      | nil => simp [bs] at h
      | cons y b =>
        simp only [bs, List.map_cons, List.cons.injEq] at h
        rw [ext h.1, ih h.2]
  · intro h; rw [h]
theorem of_bytes (l : List Nat) (h : ∀ c ∈ l, c < 256) : ∃ p : List F8, l = bs p := by
  induction l with
  | nil => exact ⟨[], rfl⟩
  | cons x l ih =>
    obtain ⟨p, rfl⟩ := ih (fun c hc => h c (by simp [hc]))
    exact ⟨⟨x, h x (by simp)⟩ :: p, rfl⟩
theorem of_byte (x : Nat) (h : x < 256) : ∃ y : F8, x = y.n := ⟨⟨x, h⟩, rfl⟩
end F8
end Go.Proofs.Ytikfjbomogekbaa
