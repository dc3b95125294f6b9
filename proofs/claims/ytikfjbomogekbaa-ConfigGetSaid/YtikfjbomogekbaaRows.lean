/-
  No cell of these rows narrows 'for every input' (looked for: loops, veiled, ifaces, maps, wideKeys, modest, calm, conditions, laid).
  DERIVED. THE GIVEN ROWS OF THIS SEAT. 5 by the template 'for every input the law returns true; each argument reads behind the call as it read before'; 0 by the template 'total and deterministic' (their statements: YtikfjbomogekbaaTotals.lean).
  GIVEN WITH THE SEED: the statements are not yours to turn. If you find one false, say at which input.
  Laid BY PROGRAM, IN A SANDBOX (cutbox-rows.mjs): the forced cells as the released guide's own fill.sh prints them over the translation 4222376b9c49254c… (all of the seat's roots in one cut). By AI agents, Wed Nov 11 2026. No macro, syntax, notation, axiom, sorry.
-/
import Derived.Test.YtikfjbomogekbaaChecked
import GoSem.Claim
import GoSem.ClaimJoined
import GoSem.ClaimMapViews
import Derived.JoinedTies
import Derived.KernelRfl
namespace Go.Proofs.Ytikfjbomogekbaa
/- THE CELL 'sum', in the pinned program and in every row, IS THE sha256 OF THE DUMP (.gsa) THAT YtikfjbomogekbaaProg.lean LOADS. Nothing in Lean hashes anything: it is a label: what it is worth is what the hold of that sum in a sandbox is worth. -/
noncomputable def Try.pinned : Pinned := { name := "ytikfjbomogekbaa", sum := "4222376b9c49254c534d0d57b7d7998613331aa65be845db08d9607c0fa82493", checked := Try.checked }
namespace Rows
def none {H : Type} : Left H := { results := [], args := [] }

/-- 'starfishlaw13.ConfigCheck': WHATEVER THE INPUT: true; the input reads as it did. -/
def configCheckSpec : ChangeSpec := { name := "configCheck", fn := fun _ => fun
  | [d] => { results := [.lit (.bool true)], args := [d] }
  | _ => none }
def configCheckRow : OpenClaim := { program := "ytikfjbomogekbaa", sum := "4222376b9c49254c534d0d57b7d7998613331aa65be845db08d9607c0fa82493", func := "starfish/starfishlaw13.ConfigCheck", spec := "configCheck", unfollowed := true, recurses := true, plainKeys := false, apart := false }
def ConfigCheckSaid : Prop := configCheckRow.holds Try.pinned (OpenSpec.ofChange configCheckSpec)

/-- ITS FALSE NEIGHBOUR: 'it returns false'. Refute it at one input. -/
def configCheckWrong : ChangeSpec := { name := "configCheck", fn := fun _ => fun
  | [d] => { results := [.lit (.bool false)], args := [d] }
  | _ => none }
def ConfigCheckWrongFalsely : Prop := configCheckRow.holds Try.pinned (OpenSpec.ofChange configCheckWrong)

/-- 'starfishlaw13.ConfigGet': WHATEVER THE INPUT: true; the input reads as it did. -/
def configGetSpec : ChangeSpec := { name := "configGet", fn := fun _ => fun
  | [d1, d2] => { results := [.lit (.bool true)], args := [d1, d2] }
  | _ => none }
def configGetRow : OpenClaim := { program := "ytikfjbomogekbaa", sum := "4222376b9c49254c534d0d57b7d7998613331aa65be845db08d9607c0fa82493", func := "starfish/starfishlaw13.ConfigGet", spec := "configGet", unfollowed := true, recurses := true, plainKeys := false, apart := false }
def ConfigGetSaid : Prop := configGetRow.holds Try.pinned (OpenSpec.ofChange configGetSpec)

/-- ITS FALSE NEIGHBOUR: 'it returns false'. Refute it at one input. -/
def configGetWrong : ChangeSpec := { name := "configGet", fn := fun _ => fun
  | [d1, d2] => { results := [.lit (.bool false)], args := [d1, d2] }
  | _ => none }
def ConfigGetWrongFalsely : Prop := configGetRow.holds Try.pinned (OpenSpec.ofChange configGetWrong)

/-- 'starfishlaw13.ConfigCuts': WHATEVER THE INPUT: true; the input reads as it did. -/
def configCutsSpec : ChangeSpec := { name := "configCuts", fn := fun _ => fun
  | [d] => { results := [.lit (.bool true)], args := [d] }
  | _ => none }
def configCutsRow : OpenClaim := { program := "ytikfjbomogekbaa", sum := "4222376b9c49254c534d0d57b7d7998613331aa65be845db08d9607c0fa82493", func := "starfish/starfishlaw13.ConfigCuts", spec := "configCuts", unfollowed := true, recurses := true, plainKeys := false, apart := false }
def ConfigCutsSaid : Prop := configCutsRow.holds Try.pinned (OpenSpec.ofChange configCutsSpec)

/-- ITS FALSE NEIGHBOUR: 'it returns false'. Refute it at one input. -/
def configCutsWrong : ChangeSpec := { name := "configCuts", fn := fun _ => fun
  | [d] => { results := [.lit (.bool false)], args := [d] }
  | _ => none }
def ConfigCutsWrongFalsely : Prop := configCutsRow.holds Try.pinned (OpenSpec.ofChange configCutsWrong)

/-- 'starfishlaw13.ConfigMakes': WHATEVER THE INPUT: true; the input reads as it did. -/
def configMakesSpec : ChangeSpec := { name := "configMakes", fn := fun _ => fun
  | [d] => { results := [.lit (.bool true)], args := [d] }
  | _ => none }
def configMakesRow : OpenClaim := { program := "ytikfjbomogekbaa", sum := "4222376b9c49254c534d0d57b7d7998613331aa65be845db08d9607c0fa82493", func := "starfish/starfishlaw13.ConfigMakes", spec := "configMakes", inPlace := ["sync/atomic.LoadUint32", "(*internal/sync.Mutex).Lock", "internal/race.Disable", "sync/atomic.CompareAndSwapInt32", "internal/race.Enable", "internal/race.Acquire", "(*internal/sync.Mutex).lockSlow", "internal/sync.runtime_canSpin", "internal/sync.runtime_doSpin", "internal/sync.throw", "internal/sync.runtime_nanotime", "internal/sync.runtime_SemacquireMutex", "sync/atomic.AddInt32", "(*internal/sync.Mutex).Unlock", "internal/race.ReleaseMerge", "(*internal/sync.Mutex).unlockSlow", "internal/sync.fatal", "internal/sync.runtime_Semrelease", "sync/atomic.StoreUint32"], unfollowed := true, recurses := true, plainKeys := false, apart := false }
def ConfigMakesSaid : Prop := configMakesRow.holds Try.pinned (OpenSpec.ofChange configMakesSpec)

/-- ITS FALSE NEIGHBOUR: 'it returns false'. Refute it at one input. -/
def configMakesWrong : ChangeSpec := { name := "configMakes", fn := fun _ => fun
  | [d] => { results := [.lit (.bool false)], args := [d] }
  | _ => none }
def ConfigMakesWrongFalsely : Prop := configMakesRow.holds Try.pinned (OpenSpec.ofChange configMakesWrong)

/-- 'starfishlaw13.ConfigLess': WHATEVER THE INPUT: true; the input reads as it did. -/
def configLessSpec : ChangeSpec := { name := "configLess", fn := fun _ => fun
  | [d] => { results := [.lit (.bool true)], args := [d] }
  | _ => none }
def configLessRow : OpenClaim := { program := "ytikfjbomogekbaa", sum := "4222376b9c49254c534d0d57b7d7998613331aa65be845db08d9607c0fa82493", func := "starfish/starfishlaw13.ConfigLess", spec := "configLess", unfollowed := true, recurses := true, plainKeys := false, apart := false }
def ConfigLessSaid : Prop := configLessRow.holds Try.pinned (OpenSpec.ofChange configLessSpec)

/-- ITS FALSE NEIGHBOUR: 'it returns false'. Refute it at one input. -/
def configLessWrong : ChangeSpec := { name := "configLess", fn := fun _ => fun
  | [d] => { results := [.lit (.bool false)], args := [d] }
  | _ => none }
def ConfigLessWrongFalsely : Prop := configLessRow.holds Try.pinned (OpenSpec.ofChange configLessWrong)

/- THE SECOND FORM. 'bulk': how many values and letters a reading holds, each counted each time it is reached (what is shared counts as often as it is met; a slice's spare places count too). A statement '..UptoSaid' is the law's where the arguments, and the package variables that the reading takes, are together of bulk at most 1048576: NARROWER than '..Said'. Prove '..Said' where nothing that the law and all that it calls make is longer than what came in: it says more and counts as full. Else prove '..UptoSaid'. A law counts once. -/
mutual
def uptoBulk {H : Type} : DataW H → Nat
  | .lit (.string bytes) => bytes.length + 1
  | .lit _ => 1
  | .nil => 1
  | .ptr d => uptoBulk d + 1
  | .slice elems spare => uptoBulkAll elems + uptoBulkAll spare + 1
  | .agg parts => uptoBulkAll parts + 1
  | .iface _ d => uptoBulk d + 1
  | .map entries => uptoBulkEntries entries + 1
  | .held _ => 1
def uptoBulkAll {H : Type} : List (DataW H) → Nat
  | [] => 0
  | d :: r => uptoBulk d + uptoBulkAll r
def uptoBulkEntries {H : Type} : List (Lit × DataW H) → Nat
  | [] => 0
  | x :: r => uptoBulkEntry x + uptoBulkEntries r
def uptoBulkEntry {H : Type} : Lit × DataW H → Nat
  | (.string bytes, d) => bytes.length + uptoBulk d + 1
  | (_, d) => uptoBulk d + 1
 end
def uptoSmall : (H : Type) → List (DataW H) → Bool := fun _ ds => decide (uptoBulkAll ds ≤ 1048576)
def OpenSpec.upto (s : _root_.Go.ChangeSpec) : _root_.Go.OpenSpec := { _root_.Go.OpenSpec.ofChange s with cond := some uptoSmall }

/-- 'starfishlaw13.ConfigCheck', WHERE WHAT IT READS IS OF BULK AT MOST 1048576: true; the input reads as it did. -/
def configCheckUptoRow : OpenClaim := { program := "ytikfjbomogekbaa", sum := "4222376b9c49254c534d0d57b7d7998613331aa65be845db08d9607c0fa82493", func := "starfish/starfishlaw13.ConfigCheck", spec := "configCheck", unfollowed := true, recurses := true, plainKeys := false, apart := false, narrowed := true }
def ConfigCheckUptoSaid : Prop := configCheckUptoRow.holds Try.pinned (OpenSpec.upto configCheckSpec)

/-- 'starfishlaw13.ConfigGet', WHERE WHAT IT READS IS OF BULK AT MOST 1048576: true; the input reads as it did. -/
def configGetUptoRow : OpenClaim := { program := "ytikfjbomogekbaa", sum := "4222376b9c49254c534d0d57b7d7998613331aa65be845db08d9607c0fa82493", func := "starfish/starfishlaw13.ConfigGet", spec := "configGet", unfollowed := true, recurses := true, plainKeys := false, apart := false, narrowed := true }
def ConfigGetUptoSaid : Prop := configGetUptoRow.holds Try.pinned (OpenSpec.upto configGetSpec)

/-- 'starfishlaw13.ConfigCuts', WHERE WHAT IT READS IS OF BULK AT MOST 1048576: true; the input reads as it did. -/
def configCutsUptoRow : OpenClaim := { program := "ytikfjbomogekbaa", sum := "4222376b9c49254c534d0d57b7d7998613331aa65be845db08d9607c0fa82493", func := "starfish/starfishlaw13.ConfigCuts", spec := "configCuts", unfollowed := true, recurses := true, plainKeys := false, apart := false, narrowed := true }
def ConfigCutsUptoSaid : Prop := configCutsUptoRow.holds Try.pinned (OpenSpec.upto configCutsSpec)

/-- 'starfishlaw13.ConfigMakes', WHERE WHAT IT READS IS OF BULK AT MOST 1048576: true; the input reads as it did. -/
def configMakesUptoRow : OpenClaim := { program := "ytikfjbomogekbaa", sum := "4222376b9c49254c534d0d57b7d7998613331aa65be845db08d9607c0fa82493", func := "starfish/starfishlaw13.ConfigMakes", spec := "configMakes", inPlace := ["sync/atomic.LoadUint32", "(*internal/sync.Mutex).Lock", "internal/race.Disable", "sync/atomic.CompareAndSwapInt32", "internal/race.Enable", "internal/race.Acquire", "(*internal/sync.Mutex).lockSlow", "internal/sync.runtime_canSpin", "internal/sync.runtime_doSpin", "internal/sync.throw", "internal/sync.runtime_nanotime", "internal/sync.runtime_SemacquireMutex", "sync/atomic.AddInt32", "(*internal/sync.Mutex).Unlock", "internal/race.ReleaseMerge", "(*internal/sync.Mutex).unlockSlow", "internal/sync.fatal", "internal/sync.runtime_Semrelease", "sync/atomic.StoreUint32"], unfollowed := true, recurses := true, plainKeys := false, apart := false, narrowed := true }
def ConfigMakesUptoSaid : Prop := configMakesUptoRow.holds Try.pinned (OpenSpec.upto configMakesSpec)

/-- 'starfishlaw13.ConfigLess', WHERE WHAT IT READS IS OF BULK AT MOST 1048576: true; the input reads as it did. -/
def configLessUptoRow : OpenClaim := { program := "ytikfjbomogekbaa", sum := "4222376b9c49254c534d0d57b7d7998613331aa65be845db08d9607c0fa82493", func := "starfish/starfishlaw13.ConfigLess", spec := "configLess", unfollowed := true, recurses := true, plainKeys := false, apart := false, narrowed := true }
def ConfigLessUptoSaid : Prop := configLessUptoRow.holds Try.pinned (OpenSpec.upto configLessSpec)

end Rows
end Go.Proofs.Ytikfjbomogekbaa
