/- The plain mathematics of layer 1: the register's steps as functions on natural numbers, each step linear over xor. -/
import Derived.Laws.BitsAllLaws
namespace Go.Proofs.YtinobnmoafefeaaDoor.Crc

/-- The table of four multiples. -/
def tab : Nat → Nat
  | 0 => 274646895
  | 1 => 549293790
  | 2 => 1098587580
  | 3 => 2197175160
  | _ => 0
def halfTo (r : Nat) : Nat → Nat
  | 0 => r / 16
  | k + 1 => halfTo r k ^^^ (tab k * (r / 2 ^ k % 2))
def half (r : Nat) : Nat := halfTo r 4
def step (r c : Nat) : Nat := half (half (r ^^^ c))
def run (r : Nat) (l : List Nat) : Nat := l.foldl step r
def sum (l : List Nat) : Nat := run 4294967295 l ^^^ 4294967295

theorem tab_lt (k : Nat) : tab k < 4294967296 := by
  unfold tab; split <;> decide
theorem mulbit_lt (k b : Nat) : tab k * (b % 2) < 4294967296 := by
  rcases Nat.mod_two_eq_zero_or_one b with h | h <;> rw [h] <;> have := tab_lt k <;> omega
theorem xor_lt {a b : Nat} (ha : a < 4294967296) (hb : b < 4294967296) : a ^^^ b < 4294967296 := Nat.xor_lt_two_pow (n := 32) ha hb
theorem halfTo_lt (r : Nat) (h : r < 4294967296) : ∀ k, halfTo r k < 4294967296
  | 0 => by unfold halfTo; omega
  | k + 1 => xor_lt (halfTo_lt r h k) (mulbit_lt k _)
theorem half_lt (r : Nat) (h : r < 4294967296) : half r < 4294967296 := halfTo_lt r h 4
theorem step_lt (r c : Nat) (h : r < 4294967296) (hc : c < 256) : step r c < 4294967296 := half_lt _ (half_lt _ (xor_lt h (by omega)))
theorem run_lt : ∀ (l : List Nat) (r : Nat), r < 4294967296 → (∀ c ∈ l, c < 256) → run r l < 4294967296
  | [], r, h, _ => h
  | c :: l, r, h, hl => run_lt l (step r c) (step_lt r c h (hl c (by simp))) (fun x hx => hl x (by simp [hx]))
theorem sum_lt (l : List Nat) (hl : ∀ c ∈ l, c < 256) : sum l < 4294967296 := xor_lt (run_lt l _ (by decide) hl) (by decide)
theorem run_append (r : Nat) (a b : List Nat) : run r (a ++ b) = run (run r a) b := by simp [run, List.foldl_append]

/-- The walk's own spelling of one round of divideHalf. -/
theorem bits_round (r k : Nat) (hr : r < 4294967296) (e : Nat) (he : e < 4294967296) :
    bits .xor .u32 (e : Int) (IntKind.u32.wrap ((tab k : Int) * bits .and .u32 ((r : Int) / 2 ^ k) 1)) = ((e ^^^ (tab k * (r / 2 ^ k % 2)) : Nat) : Int) := by
  have h1 : ((r : Int) / 2 ^ k) = ((r / 2 ^ k : Nat) : Int) := by simp
  have h2 : r / 2 ^ k < 4294967296 := Nat.lt_of_le_of_lt (Nat.div_le_self _ _) hr
  have h3 : bits .and .u32 ((r / 2 ^ k : Nat) : Int) 1 = ((r / 2 ^ k % 2 : Nat) : Int) := by
    have := u32_and_nat (r / 2 ^ k) 1 h2 (by decide)
    rw [Nat.and_one_is_mod] at this
    simpa using this
  have h4 : ((tab k : Int) * ((r / 2 ^ k % 2 : Nat) : Int)) = ((tab k * (r / 2 ^ k % 2) : Nat) : Int) := by simp
  have h5 := mulbit_lt k (r / 2 ^ k)
  rw [h1, h3, h4, IntKind.wrap_u32']
  rw [show (((tab k * (r / 2 ^ k % 2) : Nat) : Int) % 4294967296) = ((tab k * (r / 2 ^ k % 2) : Nat) : Int) from by omega]
  exact u32_xor_nat e _ he h5
end Go.Proofs.YtinobnmoafefeaaDoor.Crc
