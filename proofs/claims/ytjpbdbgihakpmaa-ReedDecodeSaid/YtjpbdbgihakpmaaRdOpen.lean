/- Opening an argument that is a slice of ints. -/
import Derived.Test.YtjpbdbgihakpmaaOpen
import Derived.Test.YtjpbdbgihakpmaaRdCode
import Derived.SizedLaws
import Derived.ProofKit
import Derived.Deep.Slices
import Derived.Deep.Fields
import Derived.ChangeSame
import Derived.Lib.SmallJoins
namespace Go.Proofs.Ytjpbdbgihakpmaa.Rd
open Go.RowKit Go.ChangeShapes Go.WideShapes Go.Deep Go.Joins
set_option linter.unusedVariables false
set_option linter.unusedSimpArgs false
theorem addr_plus (b off i : Nat) : (⟨b, off, none⟩ : Addr).add i = ⟨b, off + i, none⟩ := by unfold Addr.add; split <;> simp_all
section
variable {H : Type} {enc : TypeId × Value → H} {W : World}
theorem open_zs {A : Option Addr} {len cap : Nat} {d : DataW H} {pl : List MemPlace}
    (h : DataW.Trod enc Try.prog W 0 (fun _ => true) true 30 (.slice A len cap) d pl) : ∃ l : List Int, len = l.length ∧ Row W A (zs l) := by
  obtain ⟨fuel, hf⟩ := h
  rcases open_ints Try.underlying30 Try.underlying3 (by kernel_rfl) hf with ⟨hcs, _⟩ | ⟨x, l, c, us, hcs, _, hl, hm, hz, _, hcell, hwz⟩
  · simp [Value.cells] at hcs
    obtain ⟨rfl, rfl, rfl⟩ := hcs
    exact ⟨[], rfl, Row.nil _ _⟩
  · simp [Value.cells] at hcs
    obtain ⟨rfl, rfl, rfl⟩ := hcs
    simp only [if_true] at hz
    refine ⟨us.take len, by simp; omega, fun i u hu => ?_⟩
    have hil : i < len := by have := (List.getElem?_eq_some_iff.1 hu).1; simp [zs] at this; omega
    have hsp : x.spot = none := by
      have := World.cell?_spot (hcell 0 (by omega))
      simpa [Addr.add] using this
    obtain ⟨b, off, spot⟩ := x
    obtain rfl : spot = none := hsp
    have hc := hcell i (by omega)
    simp only [zs, List.getElem?_map, List.getElem?_take, if_pos hil] at hu
    obtain ⟨z, hzi, rfl⟩ := Option.map_eq_some_iff.1 hu
    rw [addr_plus, List.getD_eq_getElem?_getD, hzi] at hc
    exact ⟨b, off, rfl, hc⟩
end
end Go.Proofs.Ytjpbdbgihakpmaa.Rd
