/-
  DERIVED. GIVEN WITH THE SEED: THE CARDS: each row of YtinobnmoafefeaaDoorRows.lean that lists a variable, with what it lists TIED to the program's text (the seventh form; the later family's looks); each row that meets fmt, with fmt's text TOLD by the authors' own Lean function (tested against real Go, not proved from fmt's source: count such statements apart). THE CARD IS WHAT COUNTS. Prove the row's statement (the work); the ties are given (YtinobnmoafefeaaDoorTie.lean); close each card by the builder's one call (the guide's Derived/Test/ToyasCard.lean, 'card_holds'). Laid BY PROGRAM, IN A SANDBOX (cutbox-door.mjs). By AI agents, Wed Nov 11 2026. No macro, syntax, notation, axiom, sorry.
-/
import Derived.Test.YtinobnmoafefeaaDoorRows
import GoSem.ClaimSeven
namespace Go.Proofs.YtinobnmoafefeaaDoor
namespace Rows

/-- THE TIED CARD OF 'starfishlaw01.CrcLeft'. -/
def crcLeftCard : Claim7 := { stood := { row := crcLeftRow, standIns := [], harness := (true, "60ddca112f6cfc77ba1a6f2347910945dbca1394efa7455195e7fdd3a1e77001"), looks := false }, kinds := [], alts := [], laidByText := true, laidKinds := [.data], laidTests := true, laidLooks := .later }
def CrcLeftCardSaid : Prop := Claim7.holds Tryd.pinned (.plain (OpenSpec.ofChange crcLeftSpec)) crcLeftCard

/-- THE TIED CARD OF 'starfishlaw01.CrcWhole'. -/
def crcWholeCard : Claim7 := { stood := { row := crcWholeRow, standIns := [], harness := (true, "60ddca112f6cfc77ba1a6f2347910945dbca1394efa7455195e7fdd3a1e77001"), looks := false }, kinds := [], alts := [], laidByText := true, laidKinds := [.data], laidTests := true, laidLooks := .later }
def CrcWholeCardSaid : Prop := Claim7.holds Tryd.pinned (.plain (OpenSpec.ofChange crcWholeSpec)) crcWholeCard

/-- THE TIED CARD OF 'starfishlaw01.CrcBehind'. -/
def crcBehindCard : Claim7 := { stood := { row := crcBehindRow, standIns := [], harness := (true, "60ddca112f6cfc77ba1a6f2347910945dbca1394efa7455195e7fdd3a1e77001"), looks := false }, kinds := [], alts := [], laidByText := true, laidKinds := [.data], laidTests := true, laidLooks := .later }
def CrcBehindCardSaid : Prop := Claim7.holds Tryd.pinned (.plain (OpenSpec.ofChange crcBehindSpec)) crcBehindCard

/-- THE TIED CARD OF 'starfishlaw01.CrcEnds'. -/
def crcEndsCard : Claim7 := { stood := { row := crcEndsRow, standIns := [], harness := (true, "60ddca112f6cfc77ba1a6f2347910945dbca1394efa7455195e7fdd3a1e77001"), looks := false }, kinds := [], alts := [], laidByText := true, laidKinds := [.data], laidTests := true, laidLooks := .later }
def CrcEndsCardSaid : Prop := Claim7.holds Tryd.pinned (.plain (OpenSpec.ofChange crcEndsSpec)) crcEndsCard

/-- THE TIED CARD OF 'starfishlaw01.CrcTurned'. -/
def crcTurnedCard : Claim7 := { stood := { row := crcTurnedRow, standIns := [], harness := (true, "60ddca112f6cfc77ba1a6f2347910945dbca1394efa7455195e7fdd3a1e77001"), looks := false }, kinds := [], alts := [], laidByText := true, laidKinds := [.data], laidTests := true, laidLooks := .later }
def CrcTurnedCardSaid : Prop := Claim7.holds Tryd.pinned (.plain (OpenSpec.ofChange crcTurnedSpec)) crcTurnedCard

/-- THE TIED CARD OF 'starfishlaw01.CrcAmid'. -/
def crcAmidCard : Claim7 := { stood := { row := crcAmidRow, standIns := [], harness := (true, "60ddca112f6cfc77ba1a6f2347910945dbca1394efa7455195e7fdd3a1e77001"), looks := false }, kinds := [], alts := [], laidByText := true, laidKinds := [.data], laidTests := true, laidLooks := .later }
def CrcAmidCardSaid : Prop := Claim7.holds Tryd.pinned (.plain (OpenSpec.ofChange crcAmidSpec)) crcAmidCard

/-- THE TIED CARD OF 'starfishlaw01.CrcKnown'. -/
def crcKnownCard : Claim7 := { stood := { row := crcKnownRow, standIns := [], harness := (true, "60ddca112f6cfc77ba1a6f2347910945dbca1394efa7455195e7fdd3a1e77001"), looks := false }, kinds := [], alts := [], laidByText := true, laidKinds := [.data], laidTests := true, laidLooks := .later }
def CrcKnownCardSaid : Prop := Claim7.holds Tryd.pinned (.plain (OpenSpec.ofChange crcKnownSpec)) crcKnownCard

/-- THE SECOND FORM's CARD OF 'starfishlaw01.CrcLeft'. -/
def crcLeftUptoCard : Claim7 := { stood := { row := crcLeftUptoRow, standIns := [], harness := (true, "60ddca112f6cfc77ba1a6f2347910945dbca1394efa7455195e7fdd3a1e77001"), looks := false }, kinds := [], alts := [], laidByText := true, laidKinds := [.data], laidTests := true, laidLooks := .later }
def CrcLeftUptoCardSaid : Prop := Claim7.holds Tryd.pinned (.plain (OpenSpec.upto crcLeftSpec)) crcLeftUptoCard

/-- THE SECOND FORM's CARD OF 'starfishlaw01.CrcWhole'. -/
def crcWholeUptoCard : Claim7 := { stood := { row := crcWholeUptoRow, standIns := [], harness := (true, "60ddca112f6cfc77ba1a6f2347910945dbca1394efa7455195e7fdd3a1e77001"), looks := false }, kinds := [], alts := [], laidByText := true, laidKinds := [.data], laidTests := true, laidLooks := .later }
def CrcWholeUptoCardSaid : Prop := Claim7.holds Tryd.pinned (.plain (OpenSpec.upto crcWholeSpec)) crcWholeUptoCard

/-- THE SECOND FORM's CARD OF 'starfishlaw01.CrcBehind'. -/
def crcBehindUptoCard : Claim7 := { stood := { row := crcBehindUptoRow, standIns := [], harness := (true, "60ddca112f6cfc77ba1a6f2347910945dbca1394efa7455195e7fdd3a1e77001"), looks := false }, kinds := [], alts := [], laidByText := true, laidKinds := [.data], laidTests := true, laidLooks := .later }
def CrcBehindUptoCardSaid : Prop := Claim7.holds Tryd.pinned (.plain (OpenSpec.upto crcBehindSpec)) crcBehindUptoCard

/-- THE SECOND FORM's CARD OF 'starfishlaw01.CrcEnds'. -/
def crcEndsUptoCard : Claim7 := { stood := { row := crcEndsUptoRow, standIns := [], harness := (true, "60ddca112f6cfc77ba1a6f2347910945dbca1394efa7455195e7fdd3a1e77001"), looks := false }, kinds := [], alts := [], laidByText := true, laidKinds := [.data], laidTests := true, laidLooks := .later }
def CrcEndsUptoCardSaid : Prop := Claim7.holds Tryd.pinned (.plain (OpenSpec.upto crcEndsSpec)) crcEndsUptoCard

/-- THE SECOND FORM's CARD OF 'starfishlaw01.CrcTurned'. -/
def crcTurnedUptoCard : Claim7 := { stood := { row := crcTurnedUptoRow, standIns := [], harness := (true, "60ddca112f6cfc77ba1a6f2347910945dbca1394efa7455195e7fdd3a1e77001"), looks := false }, kinds := [], alts := [], laidByText := true, laidKinds := [.data], laidTests := true, laidLooks := .later }
def CrcTurnedUptoCardSaid : Prop := Claim7.holds Tryd.pinned (.plain (OpenSpec.upto crcTurnedSpec)) crcTurnedUptoCard

/-- THE SECOND FORM's CARD OF 'starfishlaw01.CrcAmid'. -/
def crcAmidUptoCard : Claim7 := { stood := { row := crcAmidUptoRow, standIns := [], harness := (true, "60ddca112f6cfc77ba1a6f2347910945dbca1394efa7455195e7fdd3a1e77001"), looks := false }, kinds := [], alts := [], laidByText := true, laidKinds := [.data], laidTests := true, laidLooks := .later }
def CrcAmidUptoCardSaid : Prop := Claim7.holds Tryd.pinned (.plain (OpenSpec.upto crcAmidSpec)) crcAmidUptoCard

/-- THE SECOND FORM's CARD OF 'starfishlaw01.CrcKnown'. -/
def crcKnownUptoCard : Claim7 := { stood := { row := crcKnownUptoRow, standIns := [], harness := (true, "60ddca112f6cfc77ba1a6f2347910945dbca1394efa7455195e7fdd3a1e77001"), looks := false }, kinds := [], alts := [], laidByText := true, laidKinds := [.data], laidTests := true, laidLooks := .later }
def CrcKnownUptoCardSaid : Prop := Claim7.holds Tryd.pinned (.plain (OpenSpec.upto crcKnownSpec)) crcKnownUptoCard
end Rows
end Go.Proofs.YtinobnmoafefeaaDoor
