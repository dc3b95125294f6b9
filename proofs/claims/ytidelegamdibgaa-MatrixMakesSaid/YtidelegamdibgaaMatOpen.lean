/- Opening an argument that is a matrix. -/
import Derived.Test.YtidelegamdibgaaOpen
import Derived.Test.YtidelegamdibgaaMatCode1
import Derived.SizedLaws
import Derived.ProofKit
import Derived.Deep.Slices
import Derived.Deep.Fields
import Derived.ChangeSame
import Derived.Lib.SmallJoins
namespace Go.Proofs.Ytidelegamdibgaa.Mat
open Go.RowKit Go.ChangeShapes Go.WideShapes Go.Deep Go.Joins
set_option linter.unusedVariables false
set_option linter.unusedSimpArgs false

theorem cells_matrix : Try.prog.cellsOf 24 = 3 := by kernel_rfl
section
variable {H : Type} {enc : TypeId × Value → H} {W : World}
theorem row_open {fuel : Nat} {v : Value} {x : DataW H × List MemPlace} {base : Nat} (h : DataW.trod enc Try.prog W base (fun _ => true) true fuel 22 [v] = some x) :
    ∃ (A : Option Addr) (l : List Nat) (c : Nat), v = .slice A l.length c ∧ Bytes W A l ∧ l.length ≤ c ∧ c ≤ 9223372036854775807 := by
  rcases open_ints Try.underlying22 Try.underlying5 (by kernel_rfl) h with ⟨hcs, _⟩ | ⟨y, l, c, zs, hcs, _, hl, hm, hz, _, hcell, hwz⟩
  · obtain rfl : v = .slice none 0 0 := by simpa using hcs
    exact ⟨none, [], 0, rfl, Bytes.nil _ _, by simp, by simp⟩
  · obtain rfl : v = .slice (some y) l c := by simpa using hcs
    obtain ⟨h1, h2⟩ := bytes_of hl (by simpa using hz) hcell hwz
    exact ⟨some y, _, c, by rw [h2], h1, by rw [h2]; exact hl, by simp only [maxLen] at hm; omega⟩
set_option maxRecDepth 100000 in
theorem open_matrix {v : Value} {d : DataW H} {p : List MemPlace} {b0 base : Nat} (hv : Value.okWide Try.prog W .any b0 24 v) (h : DataW.Trod enc Try.prog W base (fun _ => true) true 24 v d p) :
    ∃ (R C : Int) (A : Option Addr) (l : List Nat) (c : Nat), v = .agg #[.int .i64 R, .int .i64 C, .slice A l.length c] ∧ (-9223372036854775808 ≤ R ∧ R < 9223372036854775808) ∧ (-9223372036854775808 ≤ C ∧ C < 9223372036854775808) ∧ Bytes W A l ∧ l.length ≤ c ∧ c ≤ 9223372036854775807 := by
  obtain ⟨v0, v1, v2, y0, y1, y2, m, rfl, -, -, h0, h1, h2⟩ := open_agg3 (P := Try.prog) (w := W) (enc := enc) Try.underlying24 (by kernel_rfl) cells_matrix hv h
  obtain ⟨R, e0, -, w0⟩ := DataW.trod_int Try.underlying3 h0
  obtain ⟨C, e1, -, w1⟩ := DataW.trod_int Try.underlying3 h1
  obtain ⟨A, l, c, rfl, k1, k2, k3⟩ := row_open h2
  simp at e0 e1
  subst e0 e1
  exact ⟨R, C, A, l, c, rfl, wf_bounds_i64 w0, wf_bounds_i64 w1, k1, k2, k3⟩
end
end Go.Proofs.Ytidelegamdibgaa.Mat
