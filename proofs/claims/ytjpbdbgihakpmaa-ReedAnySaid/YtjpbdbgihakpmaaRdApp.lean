/- An append of noughts: append(s, make([]byte, k)...), s of the call's own. -/
import Derived.Test.YtjpbdbgihakpmaaPolyKit
import Derived.Test.YtjpbdbgihakpmaaStr
import Derived.Lib.AppendZeros
import Derived.Lib.AppendStr
namespace Go.Proofs.Ytjpbdbgihakpmaa.Rd
open Go.RowKit F8 Poly

/-- So many noughts as a string. -/
def nuls (k : Nat) : ByteArray := str (List.replicate k 0)
theorem nuls_size (k : Nat) : (nuls k).size = k := by rw [nuls, str_size, List.length_replicate]
theorem nuls_cells (k : Nat) : Lib.strCells (nuls k) = bv (List.replicate k 0) := by
  simp [Lib.strCells, nuls, str, bv]
theorem nuls_zero (k : Nat) : (Lib.strCells (nuls k)).toArray = Builtin.zeroCells (Value.int .u8 0).cells k := by
  rw [nuls_cells]
  apply Array.ext
  · simp [bv, size_zeroCells, Value.cells]
  · intro i h1 h2
    simp [bv, Builtin.zeroCells, Value.cells, Nat.mod_one]
theorem app_zeros_eq (w : World) (ty : TypeId) (base : Option Addr) (n cap k : Nat) (hk : k ≤ 1000000000) (hn : n ≤ 1000000000) (hc : n ≤ cap) :
    (Builtin.append_ #[22, 3] ty #[.slice base n cap, .int .i64 (k : Int)]).run Try.prog w =
    (Builtin.append_ #[22, 9] ty #[.slice base n cap, .string (nuls k)]).run Try.prog w := by
  obtain ⟨i, hi, hi1, hi2, hi3⟩ := info_parts info_u8
  have hw : IntKind.i64.wrap (k : Int) = k := by rw [IntKind.wrap_i64]; omega
  have hneg : ¬ ((k : Int) < 0) := by omega
  have h48i : ¬ (281474976710656 < (k : Int)) := by omega
  have h63 : ¬ (9223372036854775807 < (n : Int) + (k : Int)) := by omega
  have hf : ∀ w, (Builtin.firstCells 1 k (.string (nuls k))).run Try.prog w = .ok (Builtin.zeroCells (Value.int .u8 0).cells k) w := fun w => by
    have := Lib.run_firstCells_string (P := Try.prog) w 1 (nuls k)
    rw [nuls_size, nuls_zero] at this; exact this
  by_cases hroom : n + k ≤ cap
  · by_cases h0 : k = 0
    · subst h0
      have hw0 : IntKind.i64.wrap 0 = 0 := rfl
      have hr0 : n ≤ cap := hroom
      have hs0 := nuls_size 0
      simp [Builtin.append_, run_underlying Try.underlying22, run_underlying Try.underlying3, run_underlying Try.underlying9, sizeOf, typeInfo, zeroValue, hi, hi1, hi2, hi3, asInt, asIntOf, hw0, hr0, Builtin.lenOf, hs0, hf, Builtin.zeroCells]
    · simp [Builtin.append_, run_underlying Try.underlying22, run_underlying Try.underlying3, run_underlying Try.underlying9, sizeOf, typeInfo, zeroValue, hi, hi1, hi2, hi3, asInt, asIntOf, hw, hneg, h48i, Builtin.lenOf, nuls_size, hroom, hf, h0]
  · have h0 : k ≠ 0 := by omega
    have hfit : Builtin.nextslicecap (n + k) cap * 1 ≤ 281474976710656 := growslice_fits (by omega) (by omega)
    have h48' : ¬ (281474976710656 < Builtin.nextslicecap (n + k) cap) := by omega
    simp [Builtin.append_, run_underlying Try.underlying22, run_underlying Try.underlying3, run_underlying Try.underlying9, sizeOf, typeInfo, zeroValue, hi, hi1, hi2, hi3, asInt, asIntOf, hw, hneg, h48i, h48', h63, Builtin.lenOf, nuls_size, hroom, hf, h0, Question.forced]
/-- Noughts behind what is one's own. -/
theorem run_app_zeros (w : World) (ty : TypeId) (B : Nat) (v : Value) (xs : List Value) (hown : Own w B 5 v xs) (k : Nat) (hk : k ≤ 1000000000) (hn : xs.length ≤ 1000000000) (hB : B ≤ w.heap.size) :
    ∃ v' w', (Builtin.append_ #[22, 3] ty #[v, .int .i64 (k : Int)]).run Try.prog w = .ok v' w' ∧ Own w' B 5 v' (xs ++ bv (List.replicate k 0)) ∧ w.grownBy w' v.ownBlock := by
  obtain ⟨i, hi, hi1, hi2, hi3⟩ := info_parts info_u8
  obtain ⟨v', w', hr, h2, h3, _⟩ := Lib.run_append_own_string (P := Try.prog) w B 22 9 ty 5 i Try.underlying22 Try.underlying9 hi hi1 hi2 hi3 v xs.length xs hown (nuls k) (by rw [nuls_size]; simp only [maxLen]; omega) (by rw [nuls_size]; omega) hB
  have he : (Builtin.append_ #[22, 3] ty #[v, .int .i64 (k : Int)]).run Try.prog w = (Builtin.append_ #[22, 9] ty #[v, .string (nuls k)]).run Try.prog w := by
    rcases hown.2 with ⟨rfl, h0⟩ | ⟨g, cap, cur, rfl, _, _, hnc, _⟩
    · exact app_zeros_eq w ty none 0 0 k hk (by omega) (Nat.le_refl _)
    · exact app_zeros_eq w ty _ xs.length cap k hk hn hnc
  refine ⟨v', w', he.trans hr, ?_, h3⟩
  rw [nuls_size, nuls_cells] at h2
  unfold Own
  rw [List.length_append, bv_length, List.length_replicate]
  exact h2
end Go.Proofs.Ytjpbdbgihakpmaa.Rd
