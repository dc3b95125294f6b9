/-
  No cell of these rows narrows 'for every input' (looked for: loops, veiled, ifaces, maps, wideKeys, modest, calm, conditions, laid).
  DERIVED. THE GIVEN ROWS OF THIS SEAT. 9 by the template 'for every input the law returns true; each argument reads behind the call as it read before'; 0 by the template 'total and deterministic' (their statements: YtimcmdnlhallmaaGreatTotals.lean).
  GIVEN WITH THE SEED: the statements are not yours to turn. If you find one false, say at which input.
  Laid BY PROGRAM, IN A SANDBOX (cutbox-rows.mjs): the forced cells as the released guide's own fill.sh prints them over the translation 22d8fca9ec01019d… (all of the seat's roots in one cut). By AI agents, Wed Nov 11 2026. No macro, syntax, notation, axiom, sorry.
-/
import Derived.Test.YtimcmdnlhallmaaGreatChecked
import GoSem.Claim
import GoSem.ClaimJoined
import GoSem.ClaimMapViews
import Derived.JoinedTies
import Derived.KernelRfl
namespace Go.Proofs.YtimcmdnlhallmaaGreat
/- THE CELL 'sum', in the pinned program and in every row, IS THE sha256 OF THE DUMP (.gsa) THAT YtimcmdnlhallmaaGreatProg.lean LOADS. Nothing in Lean hashes anything: it is a label: what it is worth is what the hold of that sum in a sandbox is worth. -/
noncomputable def Tryz.pinned : Pinned := { name := "ytimcmdnlhallmaagreat", sum := "22d8fca9ec01019d56911af624160b3a2223ac07d15a3f6b2af068e1e390fe45", checked := Tryz.checked }
namespace Rows
def none {H : Type} : Left H := { results := [], args := [] }

/-- 'starfishlaw09.MsrNew': WHATEVER THE INPUT: true; the input reads as it did. -/
def msrNewSpec : ChangeSpec := { name := "msrNew", fn := fun _ => fun
  | [d1, d2, d3] => { results := [.lit (.bool true)], args := [d1, d2, d3] }
  | _ => none }
def msrNewRow : OpenClaim := { program := "ytimcmdnlhallmaagreat", sum := "22d8fca9ec01019d56911af624160b3a2223ac07d15a3f6b2af068e1e390fe45", func := "starfish/starfishlaw09.MsrNew", spec := "msrNew", inPlace := ["sync/atomic.LoadUint32", "(*internal/sync.Mutex).Lock", "internal/race.Disable", "sync/atomic.CompareAndSwapInt32", "internal/race.Enable", "internal/race.Acquire", "(*internal/sync.Mutex).lockSlow", "internal/sync.runtime_canSpin", "internal/sync.runtime_doSpin", "internal/sync.throw", "internal/sync.runtime_nanotime", "internal/sync.runtime_SemacquireMutex", "sync/atomic.AddInt32", "(*internal/sync.Mutex).Unlock", "internal/race.ReleaseMerge", "(*internal/sync.Mutex).unlockSlow", "internal/sync.fatal", "internal/sync.runtime_Semrelease", "sync/atomic.StoreUint32"], unfollowed := true, recurses := true, apart := false }
def MsrNewSaid : Prop := msrNewRow.holds Tryz.pinned (OpenSpec.ofChange msrNewSpec)

/-- ITS FALSE NEIGHBOUR: 'it returns false'. Refute it at one input. -/
def msrNewWrong : ChangeSpec := { name := "msrNew", fn := fun _ => fun
  | [d1, d2, d3] => { results := [.lit (.bool false)], args := [d1, d2, d3] }
  | _ => none }
def MsrNewWrongFalsely : Prop := msrNewRow.holds Tryz.pinned (OpenSpec.ofChange msrNewWrong)

/-- 'starfishlaw09.MsrEncode': WHATEVER THE INPUT: true; the input reads as it did. -/
def msrEncodeSpec : ChangeSpec := { name := "msrEncode", fn := fun _ => fun
  | [d1, d2, d3, d4, d5, d6, d7] => { results := [.lit (.bool true)], args := [d1, d2, d3, d4, d5, d6, d7] }
  | _ => none }
def msrEncodeRow : OpenClaim := { program := "ytimcmdnlhallmaagreat", sum := "22d8fca9ec01019d56911af624160b3a2223ac07d15a3f6b2af068e1e390fe45", func := "starfish/starfishlaw09.MsrEncode", spec := "msrEncode", inPlace := ["sync/atomic.LoadUint32", "(*internal/sync.Mutex).Lock", "internal/race.Disable", "sync/atomic.CompareAndSwapInt32", "internal/race.Enable", "internal/race.Acquire", "(*internal/sync.Mutex).lockSlow", "internal/sync.runtime_canSpin", "internal/sync.runtime_doSpin", "internal/sync.throw", "internal/sync.runtime_nanotime", "internal/sync.runtime_SemacquireMutex", "sync/atomic.AddInt32", "(*internal/sync.Mutex).Unlock", "internal/race.ReleaseMerge", "(*internal/sync.Mutex).unlockSlow", "internal/sync.fatal", "internal/sync.runtime_Semrelease", "sync/atomic.StoreUint32"], unfollowed := true, recurses := true, apart := false }
def MsrEncodeSaid : Prop := msrEncodeRow.holds Tryz.pinned (OpenSpec.ofChange msrEncodeSpec)

/-- ITS FALSE NEIGHBOUR: 'it returns false'. Refute it at one input. -/
def msrEncodeWrong : ChangeSpec := { name := "msrEncode", fn := fun _ => fun
  | [d1, d2, d3, d4, d5, d6, d7] => { results := [.lit (.bool false)], args := [d1, d2, d3, d4, d5, d6, d7] }
  | _ => none }
def MsrEncodeWrongFalsely : Prop := msrEncodeRow.holds Tryz.pinned (OpenSpec.ofChange msrEncodeWrong)

/-- 'starfishlaw09.MsrRepair': WHATEVER THE INPUT: true; the input reads as it did. -/
def msrRepairSpec : ChangeSpec := { name := "msrRepair", fn := fun _ => fun
  | [d1, d2, d3, d4, d5, d6] => { results := [.lit (.bool true)], args := [d1, d2, d3, d4, d5, d6] }
  | _ => none }
def msrRepairRow : OpenClaim := { program := "ytimcmdnlhallmaagreat", sum := "22d8fca9ec01019d56911af624160b3a2223ac07d15a3f6b2af068e1e390fe45", func := "starfish/starfishlaw09.MsrRepair", spec := "msrRepair", inPlace := ["sync/atomic.LoadUint32", "(*internal/sync.Mutex).Lock", "internal/race.Disable", "sync/atomic.CompareAndSwapInt32", "internal/race.Enable", "internal/race.Acquire", "(*internal/sync.Mutex).lockSlow", "internal/sync.runtime_canSpin", "internal/sync.runtime_doSpin", "internal/sync.throw", "internal/sync.runtime_nanotime", "internal/sync.runtime_SemacquireMutex", "sync/atomic.AddInt32", "(*internal/sync.Mutex).Unlock", "internal/race.ReleaseMerge", "(*internal/sync.Mutex).unlockSlow", "internal/sync.fatal", "internal/sync.runtime_Semrelease", "sync/atomic.StoreUint32"], unfollowed := true, recurses := true, apart := false }
def MsrRepairSaid : Prop := msrRepairRow.holds Tryz.pinned (OpenSpec.ofChange msrRepairSpec)

/-- ITS FALSE NEIGHBOUR: 'it returns false'. Refute it at one input. -/
def msrRepairWrong : ChangeSpec := { name := "msrRepair", fn := fun _ => fun
  | [d1, d2, d3, d4, d5, d6] => { results := [.lit (.bool false)], args := [d1, d2, d3, d4, d5, d6] }
  | _ => none }
def MsrRepairWrongFalsely : Prop := msrRepairRow.holds Tryz.pinned (OpenSpec.ofChange msrRepairWrong)

/-- 'starfishlaw09.MsrDecode': WHATEVER THE INPUT: true; the input reads as it did. -/
def msrDecodeSpec : ChangeSpec := { name := "msrDecode", fn := fun _ => fun
  | [d1, d2, d3, d4, d5] => { results := [.lit (.bool true)], args := [d1, d2, d3, d4, d5] }
  | _ => none }
def msrDecodeRow : OpenClaim := { program := "ytimcmdnlhallmaagreat", sum := "22d8fca9ec01019d56911af624160b3a2223ac07d15a3f6b2af068e1e390fe45", func := "starfish/starfishlaw09.MsrDecode", spec := "msrDecode", inPlace := ["sync/atomic.LoadUint32", "(*internal/sync.Mutex).Lock", "internal/race.Disable", "sync/atomic.CompareAndSwapInt32", "internal/race.Enable", "internal/race.Acquire", "(*internal/sync.Mutex).lockSlow", "internal/sync.runtime_canSpin", "internal/sync.runtime_doSpin", "internal/sync.throw", "internal/sync.runtime_nanotime", "internal/sync.runtime_SemacquireMutex", "sync/atomic.AddInt32", "(*internal/sync.Mutex).Unlock", "internal/race.ReleaseMerge", "(*internal/sync.Mutex).unlockSlow", "internal/sync.fatal", "internal/sync.runtime_Semrelease", "sync/atomic.StoreUint32"], unfollowed := true, recurses := true, apart := false }
def MsrDecodeSaid : Prop := msrDecodeRow.holds Tryz.pinned (OpenSpec.ofChange msrDecodeSpec)

/-- ITS FALSE NEIGHBOUR: 'it returns false'. Refute it at one input. -/
def msrDecodeWrong : ChangeSpec := { name := "msrDecode", fn := fun _ => fun
  | [d1, d2, d3, d4, d5] => { results := [.lit (.bool false)], args := [d1, d2, d3, d4, d5] }
  | _ => none }
def MsrDecodeWrongFalsely : Prop := msrDecodeRow.holds Tryz.pinned (OpenSpec.ofChange msrDecodeWrong)

/-- 'starfishlaw09.MsrTells': WHATEVER THE INPUT: true; the input reads as it did. -/
def msrTellsSpec : ChangeSpec := { name := "msrTells", fn := fun _ => fun
  | [d1, d2, d3, d4, d5, d6, d7, d8, d9] => { results := [.lit (.bool true)], args := [d1, d2, d3, d4, d5, d6, d7, d8, d9] }
  | _ => none }
def msrTellsRow : OpenClaim := { program := "ytimcmdnlhallmaagreat", sum := "22d8fca9ec01019d56911af624160b3a2223ac07d15a3f6b2af068e1e390fe45", func := "starfish/starfishlaw09.MsrTells", spec := "msrTells", inPlace := ["sync/atomic.LoadUint32", "(*internal/sync.Mutex).Lock", "internal/race.Disable", "sync/atomic.CompareAndSwapInt32", "internal/race.Enable", "internal/race.Acquire", "(*internal/sync.Mutex).lockSlow", "internal/sync.runtime_canSpin", "internal/sync.runtime_doSpin", "internal/sync.throw", "internal/sync.runtime_nanotime", "internal/sync.runtime_SemacquireMutex", "sync/atomic.AddInt32", "(*internal/sync.Mutex).Unlock", "internal/race.ReleaseMerge", "(*internal/sync.Mutex).unlockSlow", "internal/sync.fatal", "internal/sync.runtime_Semrelease", "sync/atomic.StoreUint32"], unfollowed := true, recurses := true, apart := false }
def MsrTellsSaid : Prop := msrTellsRow.holds Tryz.pinned (OpenSpec.ofChange msrTellsSpec)

/-- ITS FALSE NEIGHBOUR: 'it returns false'. Refute it at one input. -/
def msrTellsWrong : ChangeSpec := { name := "msrTells", fn := fun _ => fun
  | [d1, d2, d3, d4, d5, d6, d7, d8, d9] => { results := [.lit (.bool false)], args := [d1, d2, d3, d4, d5, d6, d7, d8, d9] }
  | _ => none }
def MsrTellsWrongFalsely : Prop := msrTellsRow.holds Tryz.pinned (OpenSpec.ofChange msrTellsWrong)

/-- 'starfishlaw09.MsrMends': WHATEVER THE INPUT: true; the input reads as it did. -/
def msrMendsSpec : ChangeSpec := { name := "msrMends", fn := fun _ => fun
  | [d1, d2, d3, d4, d5, d6, d7, d8, d9] => { results := [.lit (.bool true)], args := [d1, d2, d3, d4, d5, d6, d7, d8, d9] }
  | _ => none }
def msrMendsRow : OpenClaim := { program := "ytimcmdnlhallmaagreat", sum := "22d8fca9ec01019d56911af624160b3a2223ac07d15a3f6b2af068e1e390fe45", func := "starfish/starfishlaw09.MsrMends", spec := "msrMends", inPlace := ["sync/atomic.LoadUint32", "(*internal/sync.Mutex).Lock", "internal/race.Disable", "sync/atomic.CompareAndSwapInt32", "internal/race.Enable", "internal/race.Acquire", "(*internal/sync.Mutex).lockSlow", "internal/sync.runtime_canSpin", "internal/sync.runtime_doSpin", "internal/sync.throw", "internal/sync.runtime_nanotime", "internal/sync.runtime_SemacquireMutex", "sync/atomic.AddInt32", "(*internal/sync.Mutex).Unlock", "internal/race.ReleaseMerge", "(*internal/sync.Mutex).unlockSlow", "internal/sync.fatal", "internal/sync.runtime_Semrelease", "sync/atomic.StoreUint32"], unfollowed := true, recurses := true, apart := false }
def MsrMendsSaid : Prop := msrMendsRow.holds Tryz.pinned (OpenSpec.ofChange msrMendsSpec)

/-- ITS FALSE NEIGHBOUR: 'it returns false'. Refute it at one input. -/
def msrMendsWrong : ChangeSpec := { name := "msrMends", fn := fun _ => fun
  | [d1, d2, d3, d4, d5, d6, d7, d8, d9] => { results := [.lit (.bool false)], args := [d1, d2, d3, d4, d5, d6, d7, d8, d9] }
  | _ => none }
def MsrMendsWrongFalsely : Prop := msrMendsRow.holds Tryz.pinned (OpenSpec.ofChange msrMendsWrong)

/-- 'starfishlaw09.MsrFirst': WHATEVER THE INPUT: true; the input reads as it did. -/
def msrFirstSpec : ChangeSpec := { name := "msrFirst", fn := fun _ => fun
  | [d1, d2, d3, d4] => { results := [.lit (.bool true)], args := [d1, d2, d3, d4] }
  | _ => none }
def msrFirstRow : OpenClaim := { program := "ytimcmdnlhallmaagreat", sum := "22d8fca9ec01019d56911af624160b3a2223ac07d15a3f6b2af068e1e390fe45", func := "starfish/starfishlaw09.MsrFirst", spec := "msrFirst", inPlace := ["sync/atomic.LoadUint32", "(*internal/sync.Mutex).Lock", "internal/race.Disable", "sync/atomic.CompareAndSwapInt32", "internal/race.Enable", "internal/race.Acquire", "(*internal/sync.Mutex).lockSlow", "internal/sync.runtime_canSpin", "internal/sync.runtime_doSpin", "internal/sync.throw", "internal/sync.runtime_nanotime", "internal/sync.runtime_SemacquireMutex", "sync/atomic.AddInt32", "(*internal/sync.Mutex).Unlock", "internal/race.ReleaseMerge", "(*internal/sync.Mutex).unlockSlow", "internal/sync.fatal", "internal/sync.runtime_Semrelease", "sync/atomic.StoreUint32"], unfollowed := true, recurses := true, apart := false }
def MsrFirstSaid : Prop := msrFirstRow.holds Tryz.pinned (OpenSpec.ofChange msrFirstSpec)

/-- ITS FALSE NEIGHBOUR: 'it returns false'. Refute it at one input. -/
def msrFirstWrong : ChangeSpec := { name := "msrFirst", fn := fun _ => fun
  | [d1, d2, d3, d4] => { results := [.lit (.bool false)], args := [d1, d2, d3, d4] }
  | _ => none }
def MsrFirstWrongFalsely : Prop := msrFirstRow.holds Tryz.pinned (OpenSpec.ofChange msrFirstWrong)

/-- 'starfishlaw09.MsrAdds': WHATEVER THE INPUT: true; the input reads as it did. -/
def msrAddsSpec : ChangeSpec := { name := "msrAdds", fn := fun _ => fun
  | [d1, d2, d3, d4, d5] => { results := [.lit (.bool true)], args := [d1, d2, d3, d4, d5] }
  | _ => none }
def msrAddsRow : OpenClaim := { program := "ytimcmdnlhallmaagreat", sum := "22d8fca9ec01019d56911af624160b3a2223ac07d15a3f6b2af068e1e390fe45", func := "starfish/starfishlaw09.MsrAdds", spec := "msrAdds", inPlace := ["sync/atomic.LoadUint32", "(*internal/sync.Mutex).Lock", "internal/race.Disable", "sync/atomic.CompareAndSwapInt32", "internal/race.Enable", "internal/race.Acquire", "(*internal/sync.Mutex).lockSlow", "internal/sync.runtime_canSpin", "internal/sync.runtime_doSpin", "internal/sync.throw", "internal/sync.runtime_nanotime", "internal/sync.runtime_SemacquireMutex", "sync/atomic.AddInt32", "(*internal/sync.Mutex).Unlock", "internal/race.ReleaseMerge", "(*internal/sync.Mutex).unlockSlow", "internal/sync.fatal", "internal/sync.runtime_Semrelease", "sync/atomic.StoreUint32"], unfollowed := true, recurses := true, apart := false }
def MsrAddsSaid : Prop := msrAddsRow.holds Tryz.pinned (OpenSpec.ofChange msrAddsSpec)

/-- ITS FALSE NEIGHBOUR: 'it returns false'. Refute it at one input. -/
def msrAddsWrong : ChangeSpec := { name := "msrAdds", fn := fun _ => fun
  | [d1, d2, d3, d4, d5] => { results := [.lit (.bool false)], args := [d1, d2, d3, d4, d5] }
  | _ => none }
def MsrAddsWrongFalsely : Prop := msrAddsRow.holds Tryz.pinned (OpenSpec.ofChange msrAddsWrong)

/-- 'starfishlaw09.MsrKnown': WHATEVER THE INPUT: true; the input reads as it did. -/
def msrKnownSpec : ChangeSpec := { name := "msrKnown", fn := fun _ => fun
  | [] => { results := [.lit (.bool true)], args := [] }
  | _ => none }
def msrKnownRow : OpenClaim := { program := "ytimcmdnlhallmaagreat", sum := "22d8fca9ec01019d56911af624160b3a2223ac07d15a3f6b2af068e1e390fe45", func := "starfish/starfishlaw09.MsrKnown", spec := "msrKnown", inPlace := ["sync/atomic.LoadUint32", "(*internal/sync.Mutex).Lock", "internal/race.Disable", "sync/atomic.CompareAndSwapInt32", "internal/race.Enable", "internal/race.Acquire", "(*internal/sync.Mutex).lockSlow", "internal/sync.runtime_canSpin", "internal/sync.runtime_doSpin", "internal/sync.throw", "internal/sync.runtime_nanotime", "internal/sync.runtime_SemacquireMutex", "sync/atomic.AddInt32", "(*internal/sync.Mutex).Unlock", "internal/race.ReleaseMerge", "(*internal/sync.Mutex).unlockSlow", "internal/sync.fatal", "internal/sync.runtime_Semrelease", "sync/atomic.StoreUint32"], unfollowed := true, recurses := true, apart := false }
def MsrKnownSaid : Prop := msrKnownRow.holds Tryz.pinned (OpenSpec.ofChange msrKnownSpec)

/-- ITS FALSE NEIGHBOUR: 'it returns false'. Refute it at one input. -/
def msrKnownWrong : ChangeSpec := { name := "msrKnown", fn := fun _ => fun
  | [] => { results := [.lit (.bool false)], args := [] }
  | _ => none }
def MsrKnownWrongFalsely : Prop := msrKnownRow.holds Tryz.pinned (OpenSpec.ofChange msrKnownWrong)

/- THE SECOND FORM. 'bulk': how many values and letters a reading holds, each counted each time it is reached (what is shared counts as often as it is met; a slice's spare places count too). A statement '..UptoSaid' is the law's where the arguments, and the package variables that the reading takes, are together of bulk at most 1048576: NARROWER than '..Said'. Prove '..Said' where nothing that the law and all that it calls make is longer than what came in: it says more and counts as full. Else prove '..UptoSaid'. A law counts once. -/
mutual
def uptoBulk {H : Type} : DataW H → Nat
  | .lit (.string bytes) => bytes.length + 1
  | .lit _ => 1
  | .nil => 1
  | .ptr d => uptoBulk d + 1
  | .slice elems spare => uptoBulkAll elems + uptoBulkAll spare + 1
  | .agg parts => uptoBulkAll parts + 1
  | .iface _ d => uptoBulk d + 1
  | .map entries => uptoBulkEntries entries + 1
  | .held _ => 1
def uptoBulkAll {H : Type} : List (DataW H) → Nat
  | [] => 0
  | d :: r => uptoBulk d + uptoBulkAll r
def uptoBulkEntries {H : Type} : List (Lit × DataW H) → Nat
  | [] => 0
  | x :: r => uptoBulkEntry x + uptoBulkEntries r
def uptoBulkEntry {H : Type} : Lit × DataW H → Nat
  | (.string bytes, d) => bytes.length + uptoBulk d + 1
  | (_, d) => uptoBulk d + 1
 end
def uptoSmall : (H : Type) → List (DataW H) → Bool := fun _ ds => decide (uptoBulkAll ds ≤ 1048576)
def OpenSpec.upto (s : _root_.Go.ChangeSpec) : _root_.Go.OpenSpec := { _root_.Go.OpenSpec.ofChange s with cond := some uptoSmall }

/-- 'starfishlaw09.MsrNew', WHERE WHAT IT READS IS OF BULK AT MOST 1048576: true; the input reads as it did. -/
def msrNewUptoRow : OpenClaim := { program := "ytimcmdnlhallmaagreat", sum := "22d8fca9ec01019d56911af624160b3a2223ac07d15a3f6b2af068e1e390fe45", func := "starfish/starfishlaw09.MsrNew", spec := "msrNew", inPlace := ["sync/atomic.LoadUint32", "(*internal/sync.Mutex).Lock", "internal/race.Disable", "sync/atomic.CompareAndSwapInt32", "internal/race.Enable", "internal/race.Acquire", "(*internal/sync.Mutex).lockSlow", "internal/sync.runtime_canSpin", "internal/sync.runtime_doSpin", "internal/sync.throw", "internal/sync.runtime_nanotime", "internal/sync.runtime_SemacquireMutex", "sync/atomic.AddInt32", "(*internal/sync.Mutex).Unlock", "internal/race.ReleaseMerge", "(*internal/sync.Mutex).unlockSlow", "internal/sync.fatal", "internal/sync.runtime_Semrelease", "sync/atomic.StoreUint32"], unfollowed := true, recurses := true, apart := false, narrowed := true }
def MsrNewUptoSaid : Prop := msrNewUptoRow.holds Tryz.pinned (OpenSpec.upto msrNewSpec)

/-- 'starfishlaw09.MsrEncode', WHERE WHAT IT READS IS OF BULK AT MOST 1048576: true; the input reads as it did. -/
def msrEncodeUptoRow : OpenClaim := { program := "ytimcmdnlhallmaagreat", sum := "22d8fca9ec01019d56911af624160b3a2223ac07d15a3f6b2af068e1e390fe45", func := "starfish/starfishlaw09.MsrEncode", spec := "msrEncode", inPlace := ["sync/atomic.LoadUint32", "(*internal/sync.Mutex).Lock", "internal/race.Disable", "sync/atomic.CompareAndSwapInt32", "internal/race.Enable", "internal/race.Acquire", "(*internal/sync.Mutex).lockSlow", "internal/sync.runtime_canSpin", "internal/sync.runtime_doSpin", "internal/sync.throw", "internal/sync.runtime_nanotime", "internal/sync.runtime_SemacquireMutex", "sync/atomic.AddInt32", "(*internal/sync.Mutex).Unlock", "internal/race.ReleaseMerge", "(*internal/sync.Mutex).unlockSlow", "internal/sync.fatal", "internal/sync.runtime_Semrelease", "sync/atomic.StoreUint32"], unfollowed := true, recurses := true, apart := false, narrowed := true }
def MsrEncodeUptoSaid : Prop := msrEncodeUptoRow.holds Tryz.pinned (OpenSpec.upto msrEncodeSpec)

/-- 'starfishlaw09.MsrRepair', WHERE WHAT IT READS IS OF BULK AT MOST 1048576: true; the input reads as it did. -/
def msrRepairUptoRow : OpenClaim := { program := "ytimcmdnlhallmaagreat", sum := "22d8fca9ec01019d56911af624160b3a2223ac07d15a3f6b2af068e1e390fe45", func := "starfish/starfishlaw09.MsrRepair", spec := "msrRepair", inPlace := ["sync/atomic.LoadUint32", "(*internal/sync.Mutex).Lock", "internal/race.Disable", "sync/atomic.CompareAndSwapInt32", "internal/race.Enable", "internal/race.Acquire", "(*internal/sync.Mutex).lockSlow", "internal/sync.runtime_canSpin", "internal/sync.runtime_doSpin", "internal/sync.throw", "internal/sync.runtime_nanotime", "internal/sync.runtime_SemacquireMutex", "sync/atomic.AddInt32", "(*internal/sync.Mutex).Unlock", "internal/race.ReleaseMerge", "(*internal/sync.Mutex).unlockSlow", "internal/sync.fatal", "internal/sync.runtime_Semrelease", "sync/atomic.StoreUint32"], unfollowed := true, recurses := true, apart := false, narrowed := true }
def MsrRepairUptoSaid : Prop := msrRepairUptoRow.holds Tryz.pinned (OpenSpec.upto msrRepairSpec)

/-- 'starfishlaw09.MsrDecode', WHERE WHAT IT READS IS OF BULK AT MOST 1048576: true; the input reads as it did. -/
def msrDecodeUptoRow : OpenClaim := { program := "ytimcmdnlhallmaagreat", sum := "22d8fca9ec01019d56911af624160b3a2223ac07d15a3f6b2af068e1e390fe45", func := "starfish/starfishlaw09.MsrDecode", spec := "msrDecode", inPlace := ["sync/atomic.LoadUint32", "(*internal/sync.Mutex).Lock", "internal/race.Disable", "sync/atomic.CompareAndSwapInt32", "internal/race.Enable", "internal/race.Acquire", "(*internal/sync.Mutex).lockSlow", "internal/sync.runtime_canSpin", "internal/sync.runtime_doSpin", "internal/sync.throw", "internal/sync.runtime_nanotime", "internal/sync.runtime_SemacquireMutex", "sync/atomic.AddInt32", "(*internal/sync.Mutex).Unlock", "internal/race.ReleaseMerge", "(*internal/sync.Mutex).unlockSlow", "internal/sync.fatal", "internal/sync.runtime_Semrelease", "sync/atomic.StoreUint32"], unfollowed := true, recurses := true, apart := false, narrowed := true }
def MsrDecodeUptoSaid : Prop := msrDecodeUptoRow.holds Tryz.pinned (OpenSpec.upto msrDecodeSpec)

/-- 'starfishlaw09.MsrTells', WHERE WHAT IT READS IS OF BULK AT MOST 1048576: true; the input reads as it did. -/
def msrTellsUptoRow : OpenClaim := { program := "ytimcmdnlhallmaagreat", sum := "22d8fca9ec01019d56911af624160b3a2223ac07d15a3f6b2af068e1e390fe45", func := "starfish/starfishlaw09.MsrTells", spec := "msrTells", inPlace := ["sync/atomic.LoadUint32", "(*internal/sync.Mutex).Lock", "internal/race.Disable", "sync/atomic.CompareAndSwapInt32", "internal/race.Enable", "internal/race.Acquire", "(*internal/sync.Mutex).lockSlow", "internal/sync.runtime_canSpin", "internal/sync.runtime_doSpin", "internal/sync.throw", "internal/sync.runtime_nanotime", "internal/sync.runtime_SemacquireMutex", "sync/atomic.AddInt32", "(*internal/sync.Mutex).Unlock", "internal/race.ReleaseMerge", "(*internal/sync.Mutex).unlockSlow", "internal/sync.fatal", "internal/sync.runtime_Semrelease", "sync/atomic.StoreUint32"], unfollowed := true, recurses := true, apart := false, narrowed := true }
def MsrTellsUptoSaid : Prop := msrTellsUptoRow.holds Tryz.pinned (OpenSpec.upto msrTellsSpec)

/-- 'starfishlaw09.MsrMends', WHERE WHAT IT READS IS OF BULK AT MOST 1048576: true; the input reads as it did. -/
def msrMendsUptoRow : OpenClaim := { program := "ytimcmdnlhallmaagreat", sum := "22d8fca9ec01019d56911af624160b3a2223ac07d15a3f6b2af068e1e390fe45", func := "starfish/starfishlaw09.MsrMends", spec := "msrMends", inPlace := ["sync/atomic.LoadUint32", "(*internal/sync.Mutex).Lock", "internal/race.Disable", "sync/atomic.CompareAndSwapInt32", "internal/race.Enable", "internal/race.Acquire", "(*internal/sync.Mutex).lockSlow", "internal/sync.runtime_canSpin", "internal/sync.runtime_doSpin", "internal/sync.throw", "internal/sync.runtime_nanotime", "internal/sync.runtime_SemacquireMutex", "sync/atomic.AddInt32", "(*internal/sync.Mutex).Unlock", "internal/race.ReleaseMerge", "(*internal/sync.Mutex).unlockSlow", "internal/sync.fatal", "internal/sync.runtime_Semrelease", "sync/atomic.StoreUint32"], unfollowed := true, recurses := true, apart := false, narrowed := true }
def MsrMendsUptoSaid : Prop := msrMendsUptoRow.holds Tryz.pinned (OpenSpec.upto msrMendsSpec)

/-- 'starfishlaw09.MsrFirst', WHERE WHAT IT READS IS OF BULK AT MOST 1048576: true; the input reads as it did. -/
def msrFirstUptoRow : OpenClaim := { program := "ytimcmdnlhallmaagreat", sum := "22d8fca9ec01019d56911af624160b3a2223ac07d15a3f6b2af068e1e390fe45", func := "starfish/starfishlaw09.MsrFirst", spec := "msrFirst", inPlace := ["sync/atomic.LoadUint32", "(*internal/sync.Mutex).Lock", "internal/race.Disable", "sync/atomic.CompareAndSwapInt32", "internal/race.Enable", "internal/race.Acquire", "(*internal/sync.Mutex).lockSlow", "internal/sync.runtime_canSpin", "internal/sync.runtime_doSpin", "internal/sync.throw", "internal/sync.runtime_nanotime", "internal/sync.runtime_SemacquireMutex", "sync/atomic.AddInt32", "(*internal/sync.Mutex).Unlock", "internal/race.ReleaseMerge", "(*internal/sync.Mutex).unlockSlow", "internal/sync.fatal", "internal/sync.runtime_Semrelease", "sync/atomic.StoreUint32"], unfollowed := true, recurses := true, apart := false, narrowed := true }
def MsrFirstUptoSaid : Prop := msrFirstUptoRow.holds Tryz.pinned (OpenSpec.upto msrFirstSpec)

/-- 'starfishlaw09.MsrAdds', WHERE WHAT IT READS IS OF BULK AT MOST 1048576: true; the input reads as it did. -/
def msrAddsUptoRow : OpenClaim := { program := "ytimcmdnlhallmaagreat", sum := "22d8fca9ec01019d56911af624160b3a2223ac07d15a3f6b2af068e1e390fe45", func := "starfish/starfishlaw09.MsrAdds", spec := "msrAdds", inPlace := ["sync/atomic.LoadUint32", "(*internal/sync.Mutex).Lock", "internal/race.Disable", "sync/atomic.CompareAndSwapInt32", "internal/race.Enable", "internal/race.Acquire", "(*internal/sync.Mutex).lockSlow", "internal/sync.runtime_canSpin", "internal/sync.runtime_doSpin", "internal/sync.throw", "internal/sync.runtime_nanotime", "internal/sync.runtime_SemacquireMutex", "sync/atomic.AddInt32", "(*internal/sync.Mutex).Unlock", "internal/race.ReleaseMerge", "(*internal/sync.Mutex).unlockSlow", "internal/sync.fatal", "internal/sync.runtime_Semrelease", "sync/atomic.StoreUint32"], unfollowed := true, recurses := true, apart := false, narrowed := true }
def MsrAddsUptoSaid : Prop := msrAddsUptoRow.holds Tryz.pinned (OpenSpec.upto msrAddsSpec)

/-- 'starfishlaw09.MsrKnown', WHERE WHAT IT READS IS OF BULK AT MOST 1048576: true; the input reads as it did. -/
def msrKnownUptoRow : OpenClaim := { program := "ytimcmdnlhallmaagreat", sum := "22d8fca9ec01019d56911af624160b3a2223ac07d15a3f6b2af068e1e390fe45", func := "starfish/starfishlaw09.MsrKnown", spec := "msrKnown", inPlace := ["sync/atomic.LoadUint32", "(*internal/sync.Mutex).Lock", "internal/race.Disable", "sync/atomic.CompareAndSwapInt32", "internal/race.Enable", "internal/race.Acquire", "(*internal/sync.Mutex).lockSlow", "internal/sync.runtime_canSpin", "internal/sync.runtime_doSpin", "internal/sync.throw", "internal/sync.runtime_nanotime", "internal/sync.runtime_SemacquireMutex", "sync/atomic.AddInt32", "(*internal/sync.Mutex).Unlock", "internal/race.ReleaseMerge", "(*internal/sync.Mutex).unlockSlow", "internal/sync.fatal", "internal/sync.runtime_Semrelease", "sync/atomic.StoreUint32"], unfollowed := true, recurses := true, apart := false, narrowed := true }
def MsrKnownUptoSaid : Prop := msrKnownUptoRow.holds Tryz.pinned (OpenSpec.upto msrKnownSpec)

end Rows
end Go.Proofs.YtimcmdnlhallmaaGreat
