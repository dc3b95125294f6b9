/- The table of layer 1 as the row lists it: what it gives the walks, and a world for the witness. -/
import Derived.Test.YtinobnmoafefeaaDoorCards
import Derived.Test.YtinobnmoafefeaaDoorTie
import Derived.Test.YtinobnmoafefeaaDoorCrcWalks
import Derived.ProofKit
import Derived.OpenShut
import Derived.ChangeOld
import Derived.Deep.DeepHandedRow
import Derived.Lib.LaidTab
namespace Go.Proofs.YtinobnmoafefeaaDoor.CrcLaid
open Go.ChangeShapes Go.WideShapes Go.ChangeAt Go.RowKit

theorem own : ownKnob Tryd.prog.godebug = none := by kernel_rfl
theorem laidOut : laidOutB Tryd.prog = true := by kernel_rfl
theorem gTab : Tryd.prog.globalNamed "starfish/crc.multiples" = some 0 := by kernel_rfl
theorem gTabType : (Tryd.prog.globals[0]?).map (·.type) = some 39 := by kernel_rfl
theorem cellsT : Tryd.prog.cellsOf 39 = 4 := by kernel_rfl
theorem cellsE : Tryd.prog.cellsOf 22 = 1 := by kernel_rfl

theorem table {W : World} (h : laidMetH Tryd.prog [("starfish/crc.multiples", Rows.laid_starfish_crc_multiples)] W) : Lib.TabIs Tryd.prog W "starfish/crc.multiples" .u32 [274646895, 549293790, 1098587580, 2197175160] :=
  Lib.tabIs_of_head (rest := []) gTab gTabType Tryd.underlying39 Tryd.underlying22 cellsE cellsT h
theorem tab_of {W : World} (h : laidMetH Tryd.prog [("starfish/crc.multiples", Rows.laid_starfish_crc_multiples)] W) : Crc.Tab W := by
  have c0 := (table h).cell gTab 0 (by decide)
  have c1 := (table h).cell gTab 1 (by decide)
  have c2 := (table h).cell gTab 2 (by decide)
  have c3 := (table h).cell gTab 3 (by decide)
  intro k hk
  rcases (by omega : k = 0 ∨ k = 1 ∨ k = 2 ∨ k = 3) with rfl | rfl | rfl | rfl
  · exact c0
  · exact c1
  · exact c2
  · exact c3

noncomputable def laidWorld (os : Os) : World :=
  { World.holding Tryd.prog os ⟨#[], #[], []⟩ with heap := (World.holding Tryd.prog os ⟨#[], #[], []⟩).heap.modify 0 fun
      | .cells _ t frozen => .cells #[.int .u32 274646895, .int .u32 549293790, .int .u32 1098587580, .int .u32 2197175160] t frozen
      | o => o }
end Go.Proofs.YtinobnmoafefeaaDoor.CrcLaid
