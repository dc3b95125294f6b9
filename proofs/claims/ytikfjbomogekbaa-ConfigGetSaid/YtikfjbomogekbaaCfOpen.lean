/- Opening an argument that is a code. -/
import Derived.Test.YtikfjbomogekbaaOpen
import Derived.Test.YtikfjbomogekbaaCfCode1
import Derived.SizedLaws
import Derived.ProofKit
import Derived.Deep.Slices
import Derived.Deep.Fields
import Derived.ChangeSame
import Derived.Lib.SmallJoins
namespace Go.Proofs.Ytikfjbomogekbaa.Cf
open Go.RowKit Go.ChangeShapes Go.WideShapes Go.Deep Go.Joins
set_option linter.unusedVariables false
set_option linter.unusedSimpArgs false

theorem cells_config : Try.prog.cellsOf 23 = 7 := by kernel_rfl
theorem list7 {α : Type} : ∀ {l : List α}, l.length = 7 → ∃ a b c d e f g, l = [a, b, c, d, e, f, g]
  | [a, b, c, d, e, f, g], _ => ⟨a, b, c, d, e, f, g, rfl⟩
section
variable {H : Type} {enc : TypeId × Value → H} {W : World}
theorem cells_int : Try.prog.cellsOf 3 = 1 := by kernel_rfl
theorem cells_u8 : Try.prog.cellsOf 5 = 1 := by kernel_rfl
set_option maxRecDepth 100000 in
theorem open_config {v : Value} {d : DataW H} {p : List MemPlace} {b0 base : Nat} (hv : Value.okWide Try.prog W .any b0 23 v) (h : DataW.Trod enc Try.prog W base (fun _ => true) true 23 v d p) :
    ∃ c : C, c.Ok ∧ v = .agg (cV c) := by
  obtain ⟨cs, rfl, hsz⟩ := okWide_struct Try.underlying23 hv
  obtain ⟨l⟩ := cs
  obtain ⟨v0, v1, v2, v3, v4, v5, v6, rfl⟩ := list7 (hsz.trans cells_config)
  obtain ⟨fuel, hf⟩ := h
  obtain ⟨xs, n, _, -, hl, hlen, hf⟩ := DataW.trod_struct Try.underlying23 hf
  obtain ⟨y0, y1, y2, y3, y4, y5, y6, rfl⟩ := list7 hlen
  have h0 : DataW.trod enc Try.prog W base (fun _ => true) true n 5 [v0] = some y0 := by simpa [Value.cells, cells_u8] using hf 0 _ rfl
  have h1 : DataW.trod enc Try.prog W base (fun _ => true) true n 3 [v1] = some y1 := by simpa [Value.cells, cells_int] using hf 1 _ rfl
  have h2 : DataW.trod enc Try.prog W base (fun _ => true) true n 3 [v2] = some y2 := by simpa [Value.cells, cells_int] using hf 2 _ rfl
  have h3 : DataW.trod enc Try.prog W base (fun _ => true) true n 3 [v3] = some y3 := by simpa [Value.cells, cells_int] using hf 3 _ rfl
  have h4 : DataW.trod enc Try.prog W base (fun _ => true) true n 3 [v4] = some y4 := by simpa [Value.cells, cells_int] using hf 4 _ rfl
  have h5 : DataW.trod enc Try.prog W base (fun _ => true) true n 3 [v5] = some y5 := by simpa [Value.cells, cells_int] using hf 5 _ rfl
  have h6 : DataW.trod enc Try.prog W base (fun _ => true) true n 3 [v6] = some y6 := by simpa [Value.cells, cells_int] using hf 6 _ rfl
  obtain ⟨n0, e0, -, w0⟩ := DataW.trod_int Try.underlying5 h0
  obtain ⟨n1, e1, -, w1⟩ := DataW.trod_int Try.underlying3 h1
  obtain ⟨n2, e2, -, w2⟩ := DataW.trod_int Try.underlying3 h2
  obtain ⟨n3, e3, -, w3⟩ := DataW.trod_int Try.underlying3 h3
  obtain ⟨n4, e4, -, w4⟩ := DataW.trod_int Try.underlying3 h4
  obtain ⟨n5, e5, -, w5⟩ := DataW.trod_int Try.underlying3 h5
  obtain ⟨n6, e6, -, w6⟩ := DataW.trod_int Try.underlying3 h6
  simp at e0 e1 e2 e3 e4 e5 e6
  subst e0 e1 e2 e3 e4 e5 e6
  have b0 := wf_bounds_u8 w0
  obtain ⟨m, rfl⟩ := Int.eq_ofNat_of_zero_le b0.1
  have b1 := wf_bounds_i64 w1
  have b2 := wf_bounds_i64 w2
  have b3 := wf_bounds_i64 w3
  have b4 := wf_bounds_i64 w4
  have b5 := wf_bounds_i64 w5
  have b6 := wf_bounds_i64 w6
  refine ⟨⟨m, n1, n2, n3, n4, n5, n6⟩, ?_, rfl⟩
  unfold C.Ok
  dsimp only
  omega
end
end Go.Proofs.Ytikfjbomogekbaa.Cf
