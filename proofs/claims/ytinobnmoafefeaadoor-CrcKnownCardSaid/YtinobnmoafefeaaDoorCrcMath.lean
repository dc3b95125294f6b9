/- What the checks promise, as plain mathematics: steps are one to one and linear. -/
import Derived.Test.YtinobnmoafefeaaDoorCrcRefSumFns
namespace Go.Proofs.YtinobnmoafefeaaDoor.Crc

/-- The lowest k bytes of a number. -/
def le (n k : Nat) : List Nat := (List.range k).map fun i => n / 256 ^ i % 256
theorem le_succ (n k : Nat) : le n (k + 1) = le n k ++ [n / 256 ^ k % 256] := by simp [le, List.range_succ]
theorem le_length (n k : Nat) : (le n k).length = k := by simp [le]
theorem le_lt (n k : Nat) : ∀ c ∈ le n k, c < 256 := by
  intro c hc; obtain ⟨i, _, rfl⟩ := List.mem_map.1 hc; omega

theorem xor_rc {a b c : Nat} (h : a ^^^ c = b ^^^ c) : a = b := by
  have := congrArg (· ^^^ c) h
  simpa [Nat.xor_assoc] using this
theorem xor_lc {a b c : Nat} (h : c ^^^ a = c ^^^ b) : a = b := xor_rc (c := c) (by rw [Nat.xor_comm a, Nat.xor_comm b]; exact h)
theorem xor_eq_zero {a b : Nat} (h : a ^^^ b = 0) : a = b := xor_rc (c := b) (by rw [Nat.xor_self]; exact h)
theorem lf_zero {z : Nat} (hz : z < 4294967296) (h : lf z = 0) : z = 0 := by
  unfold lf at h
  rcases Nat.mod_two_eq_zero_or_one z with h0 | h0
  · rw [h0] at h; simp at h; omega
  · rw [h0, Nat.mul_one] at h
    have h1 : z / 2 = P := xor_eq_zero h
    unfold P at h1
    omega
theorem lfs_inj (i : Nat) {x y : Nat} (hx : x < 4294967296) (hy : y < 4294967296) (h : lfs i x = lfs i y) : x = y := by
  induction i with
  | zero => exact h
  | succ i ih =>
    apply ih
    simp only [lfs] at h
    apply xor_eq_zero
    apply lf_zero (xor_lt (lfs_lt _ _ hx) (lfs_lt _ _ hy))
    rw [lf_xor, h, Nat.xor_self]
theorem step_inj {r s c : Nat} (hr : r < 4294967296) (hs : s < 4294967296) (hc : c < 256) (h : step r c = step s c) : r = s := by
  rw [step_eq, step_eq] at h
  have := lfs_inj 8 (xor_lt hr (by omega)) (xor_lt hs (by omega)) h
  exact xor_rc this
theorem run_inj : ∀ (l : List Nat) {r s : Nat}, r < 4294967296 → s < 4294967296 → (∀ c ∈ l, c < 256) → run r l = run s l → r = s
  | [], _, _, _, _, _, h => h
  | c :: l, r, s, hr, hs, hl, h => step_inj hr hs (hl c (by simp)) (run_inj l (step_lt r c hr (hl c (by simp))) (step_lt s c hs (hl c (by simp))) (fun x hx => hl x (by simp [hx])) h)
theorem run_iff (l : List Nat) {r s : Nat} (hr : r < 4294967296) (hs : s < 4294967296) (hl : ∀ c ∈ l, c < 256) : run r l = run s l ↔ r = s :=
  ⟨run_inj l hr hs hl, fun h => by rw [h]⟩
theorem sum_iff (a b : List Nat) : sum a = sum b ↔ run 4294967295 a = run 4294967295 b :=
  ⟨fun h => xor_rc h, fun h => by unfold sum; rw [h]⟩
theorem sum_ends (a b e : List Nat) (ha : ∀ c ∈ a, c < 256) (hb : ∀ c ∈ b, c < 256) (he : ∀ c ∈ e, c < 256) : sum (a ++ e) = sum (b ++ e) ↔ sum a = sum b := by
  rw [sum_iff, sum_iff, run_append, run_append]
  exact run_iff e (run_lt _ _ (by decide) ha) (run_lt _ _ (by decide) hb) he
/-- Four bytes at once. -/
theorem split_bytes (n k : Nat) : n % 256 ^ (k + 1) = (n % 256 ^ k) ^^^ (2 ^ (8 * k) * (n / 256 ^ k % 256)) := by
  have e : 256 ^ k = 2 ^ (8 * k) := by rw [Nat.pow_mul]
  have h1 : n % 256 ^ k < 2 ^ (8 * k) := by rw [← e]; exact Nat.mod_lt _ (Nat.pow_pos (by decide))
  rw [Nat.mod_pow_succ, e] at *
  have h2 := Nat.two_pow_add_eq_or_of_lt h1 (n / 2 ^ (8 * k) % 256)
  have h3 : (2 ^ (8 * k) * (n / 2 ^ (8 * k) % 256)) ||| (n % 2 ^ (8 * k)) = (n % 2 ^ (8 * k)) ^^^ (2 ^ (8 * k) * (n / 2 ^ (8 * k) % 256)) := by
    apply Nat.eq_of_testBit_eq
    intro i
    rw [Nat.testBit_or, Nat.testBit_xor, Nat.testBit_two_pow_mul]
    by_cases hi : 8 * k ≤ i
    · have : (n % 2 ^ (8 * k)).testBit i = false := Nat.testBit_lt_two_pow (Nat.lt_of_lt_of_le h1 (Nat.pow_le_pow_right (by decide) hi))
      simp [this]
    · simp [hi]
  omega
theorem run_le (r n k : Nat) : run r (le n k) = lfs (8 * k) (r ^^^ (n % 256 ^ k)) := by
  induction k with
  | zero => simp [le, run, lfs, Nat.mod_one]
  | succ k ih =>
    rw [le_succ, run_append, ih]
    show step _ _ = _
    rw [step_eq, split_bytes, ← Nat.xor_assoc, show 8 * (k + 1) = 8 + 8 * k by omega, lfs_add, lfs_xor (8 * k) (r ^^^ n % 256 ^ k), lfs_pow]
theorem run_le4 (r n : Nat) (hn : n < 4294967296) : run r (le n 4) = lfs 32 (r ^^^ n) := by
  rw [run_le, show (256 : Nat) ^ 4 = 4294967296 from rfl, Nat.mod_eq_of_lt hn]
theorem ones : lfs 32 4294967295 ^^^ 4294967295 = 1214729159 := by decide
theorem sum_behind (l : List Nat) (n : Nat) (hn : n < 4294967296) (hl : ∀ c ∈ l, c < 256) : sum (l ++ le n 4) = 1214729159 ↔ n = sum l := by
  have hr := run_lt l 4294967295 (by decide) hl
  unfold sum
  rw [run_append, run_le4 _ _ hn, ← ones]
  constructor
  · intro h
    have h1 := lfs_inj 32 (y := 4294967295) (xor_lt hr hn) (by decide) (xor_rc h)
    have h2 : n = run 4294967295 l ^^^ (run 4294967295 l ^^^ n) := by rw [← Nat.xor_assoc, Nat.xor_self, Nat.zero_xor]
    rw [h1] at h2; exact h2
  · intro h
    rw [h, ← Nat.xor_assoc, Nat.xor_self, Nat.zero_xor]
theorem sum_amid (a b : List Nat) (m n : Nat) (hm : m < 4294967296) (hn : n < 4294967296) (ha : ∀ c ∈ a, c < 256) (hb : ∀ c ∈ b, c < 256) :
    sum ((a ++ le m 4) ++ b) = sum ((a ++ le n 4) ++ b) ↔ m = n := by
  have hr := run_lt a 4294967295 (by decide) ha
  rw [sum_iff, run_append _ (a ++ le m 4) b, run_append _ (a ++ le n 4) b, run_iff b (run_lt _ _ (by decide) (by intro c hc; rcases List.mem_append.1 hc with h | h; exact ha c h; exact le_lt _ _ c h)) (run_lt _ _ (by decide) (by intro c hc; rcases List.mem_append.1 hc with h | h; exact ha c h; exact le_lt _ _ c h)) hb]
  rw [run_append, run_append, run_le4 _ _ hm, run_le4 _ _ hn]
  constructor
  · intro h; exact xor_lc (lfs_inj 32 (xor_lt hr hm) (xor_lt hr hn) h)
  · intro h; rw [h]
/-- Two registers, the same bytes. -/
theorem run_xor : ∀ (l : List Nat) (r s : Nat), run r l ^^^ run s l = lfs (8 * l.length) (r ^^^ s)
  | [], r, s => by simp [run, lfs]
  | c :: l, r, s => by
    show run (step r c) l ^^^ run (step s c) l = _
    rw [run_xor l, step_eq, step_eq, ← lfs_xor, show (r ^^^ c) ^^^ (s ^^^ c) = r ^^^ s by rw [xor_swap, Nat.xor_self, Nat.xor_zero], List.length_cons, show 8 * (l.length + 1) = 8 * l.length + 8 by omega, lfs_add]
theorem sum_turned (a b : List Nat) (c d : Nat) : sum (a ++ c :: b) ^^^ sum (a ++ (c ^^^ d) :: b) = lfs (8 * b.length + 8) d := by
  unfold sum
  rw [xor_swap, Nat.xor_self, Nat.xor_zero, run_append, run_append]
  show run (step _ c) b ^^^ run (step _ (c ^^^ d)) b = _
  rw [run_xor, step_eq, step_eq, ← lfs_xor, lfs_add]
  congr 2
  rw [xor_swap, Nat.xor_self, Nat.zero_xor, ← Nat.xor_assoc, Nat.xor_self, Nat.zero_xor]
theorem turned_ne (k d : Nat) (hd : d < 4294967296) (h0 : d ≠ 0) : lfs k d ≠ 0 := by
  intro h
  have hz : ∀ k, lfs k 0 = 0 := by
    intro k; induction k with
    | zero => rfl
    | succ k ih => simp only [lfs]; rw [ih]; rfl
  exact h0 (lfs_inj k hd (by decide) (by rw [h, hz]))
theorem set_turned (a : List Nat) (k d : Nat) (hk : k < a.length) : sum a ^^^ sum (a.set k (a[k] ^^^ d)) = lfs (8 * (a.length - k)) d := by
  have h1 : a = a.take k ++ a[k] :: a.drop (k + 1) := by rw [List.getElem_cons_drop, List.take_append_drop]
  have h2 : a.set k (a[k] ^^^ d) = a.take k ++ (a[k] ^^^ d) :: a.drop (k + 1) := by rw [List.set_eq_take_append_cons_drop, if_pos hk]
  rw [h2]
  conv => lhs; lhs; rw [h1]
  rw [sum_turned, List.length_drop]
  congr 1
  omega
end Go.Proofs.YtinobnmoafefeaaDoor.Crc
