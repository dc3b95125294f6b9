/- The walks of layer 2: what the writer and the reader do. -/
import Derived.Test.YtggonoppdekilaaRows
import Derived.Test.YtggonoppdekilaaFldKit
import Derived.WalkKit
import Derived.BigQuiet
import Derived.Deep.QuietTactic
import Derived.RegionTactic
import Derived.BigRegion
import Derived.StillTailTactics
import Derived.Deep.RegionWith
import Derived.Deep.RegionHeld3
import Derived.Deep.RegionLaw
import Derived.Deep.AppendLies
import Derived.Lib.Hide
import Derived.WalkLawsBesides
import Derived.Lib.QuietBelow
namespace Go.Proofs.Ytggonoppdekilaa.Fld
open Go.RowKit
set_option linter.unusedVariables false
theorem info_u8 : (Try.prog.info? 5).map (fun i => (i.zero, i.size, i.bytes)) = some (some (.int .u8 0), 1, 1) := by kernel_rfl

theorem is1_0 (n : Int) (w : World) : (Instr.typeAssert (.iface 5 (.int .u8 n)) 20 5 true).run Try.prog w = .ok (.tuple #[.int .u8 n, .bool true]) w := by kernel_rfl
theorem size1 (n : Int) (w : World) : Calls Try.prog 47 #[.int .u8 n] w fun e w' => e = .returned (.int .i64 1) ∧ w = w' := by
  have h0 := is1_0 n w
  go_enter Try.func47, Try.ntmps47
  go_wp2
  go_ret
  exact ⟨rfl, rfl⟩
theorem is2_0 (n : Int) (w : World) : (Instr.typeAssert (.iface 57 (.int .u16 n)) 20 5 true).run Try.prog w = .ok (.tuple #[.int .u8 0, .bool false]) w := by kernel_rfl
theorem is2_1 (n : Int) (w : World) : (Instr.typeAssert (.iface 57 (.int .u16 n)) 20 57 true).run Try.prog w = .ok (.tuple #[.int .u16 n, .bool true]) w := by kernel_rfl
theorem size2 (n : Int) (w : World) : Calls Try.prog 46 #[.int .u16 n] w fun e w' => e = .returned (.int .i64 2) ∧ w = w' := by
  have h0 := is2_0 n w
  have h1 := is2_1 n w
  go_enter Try.func46, Try.ntmps46
  go_wp2
  go_ret
  exact ⟨rfl, rfl⟩
theorem is4_0 (n : Int) (w : World) : (Instr.typeAssert (.iface 54 (.int .u32 n)) 20 5 true).run Try.prog w = .ok (.tuple #[.int .u8 0, .bool false]) w := by kernel_rfl
theorem is4_1 (n : Int) (w : World) : (Instr.typeAssert (.iface 54 (.int .u32 n)) 20 57 true).run Try.prog w = .ok (.tuple #[.int .u16 0, .bool false]) w := by kernel_rfl
theorem is4_2 (n : Int) (w : World) : (Instr.typeAssert (.iface 54 (.int .u32 n)) 20 54 true).run Try.prog w = .ok (.tuple #[.int .u32 n, .bool true]) w := by kernel_rfl
theorem size4 (n : Int) (w : World) : Calls Try.prog 45 #[.int .u32 n] w fun e w' => e = .returned (.int .i64 4) ∧ w = w' := by
  have h0 := is4_0 n w
  have h1 := is4_1 n w
  have h2 := is4_2 n w
  go_enter Try.func45, Try.ntmps45
  go_wp2
  go_ret
  exact ⟨rfl, rfl⟩
theorem is8_0 (n : Int) (w : World) : (Instr.typeAssert (.iface 30 (.int .u64 n)) 20 5 true).run Try.prog w = .ok (.tuple #[.int .u8 0, .bool false]) w := by kernel_rfl
theorem is8_1 (n : Int) (w : World) : (Instr.typeAssert (.iface 30 (.int .u64 n)) 20 57 true).run Try.prog w = .ok (.tuple #[.int .u16 0, .bool false]) w := by kernel_rfl
theorem is8_2 (n : Int) (w : World) : (Instr.typeAssert (.iface 30 (.int .u64 n)) 20 54 true).run Try.prog w = .ok (.tuple #[.int .u32 0, .bool false]) w := by kernel_rfl
theorem size8 (n : Int) (w : World) : Calls Try.prog 44 #[.int .u64 n] w fun e w' => e = .returned (.int .i64 8) ∧ w = w' := by
  have h0 := is8_0 n w
  have h1 := is8_1 n w
  have h2 := is8_2 n w
  go_enter Try.func44, Try.ntmps44
  go_wp2
  go_ret
  exact ⟨rfl, rfl⟩

/-- 's == nil'. -/
theorem eql_nil (a : Option Addr) (l c : Nat) (w : World) : (binOp .eql 25 (.slice a l c) (.slice none 0 0)).run Try.prog w = .ok (.bool a.isNone) w := by
  simp only [binOp]
  simp [run_equal_slice_nil w 25 5 a l c Try.underlying25]
/-- 'wp_app' at a step of a region that draws its order. -/
theorem step_app {P : Program} (w : World) {ops : Array Oper} {o : Oper} {a : Act} {K : Act → World → Prop} {Q : Exit → Act → World → Prop} {E : Prop} (hgd : o.guard = none) (s x : Operand) (t : TypeId)
    (ho : o.op = .call { callee := .builtin .append, args := #[s, x], argTypes := #[t, t] })
    (B : Nat) (e : TypeId) (z : Value) (bytes : Nat) (ht : P.underlying t = some (.slice e)) (hinfo : (P.info? e).map (fun i => (i.zero, i.size, i.bytes)) = some (some z, 1, bytes)) (hz : z.cells.size = 1) (hb : 0 < bytes)
    (v : Value) (xs : List Value) (hs : a.eval s = v) (hown : Own w B e v xs) (A : Option Addr) (m c : Nat) (ys : List Value) (hx : a.eval x = .slice A m c) (hm : ys.length = m) (hr : Row w A ys) (h1 : ∀ u ∈ ys, u.oneCell' = true)
    (hlen : (xs.length + m) * bytes ≤ 140737488355328) (hB : B ≤ w.heap.size)
    (h : ∀ v' w', Own w' B e v' (xs ++ ys) → w.grownBy w' v.ownBlock → (v'.ownBlock = v.ownBlock ∨ v'.ownBlock = some w.heap.size) → K (a.put o.dst v') w') :
    if Region.wanted o (yielded ops a.tmps) = true then Oper.wp P o a w K Q else E := by
  have hw : Region.wanted o (yielded ops a.tmps) = true := by simp [Region.wanted, hgd]
  rw [if_pos hw]
  exact wp_app w s x t ho B e z bytes ht hinfo hz hb v xs hs hown A m c ys hx hm hr h1 hlen hB h
theorem byte_at (n k : Nat) : ((n : Int) / 2 ^ (8 * k) % 256) = ((n / 256 ^ k % 256 : Nat) : Int) := by
  rw [show (256 : Nat) = 2 ^ 8 by rfl, ← Nat.pow_mul]
  simp

/-- A writer's bytes, a round of 'write' later. -/
theorem Wr.app {w w' w2 : World} {B g : Nat} {l : List Nat} {v v' : Value} {x : Nat} (hb : Block w g 27 #[v]) (ho : Own w B 5 v (bv l)) (hl : ∀ c ∈ l, c < 256) (hB : B ≤ w.heap.size) (hx : x < 256)
    (h1 : Below w.heap.size w w2) (ho' : Own w' B 5 v' (bv l ++ bv [x])) (hg : w2.grownBy w' v.ownBlock) :
    Wr (w'.setCell ⟨g, 0, none⟩ v') B g (l ++ [x]) ∧ Past B g w (w'.setCell ⟨g, 0, none⟩ v') := by
  have hne := ho.block_ne hb (by decide)
  have hb2 : Block w2 g 27 #[v] := hb.below h1 hb.lt
  have hb' : Block w' g 27 #[v] := (hg.block g hb2.lt (fun e => hne e.symm)).trans hb2
  have hB' : B ≤ w'.heap.size := Nat.le_trans hB (Nat.le_trans h1.size hg.size)
  have hp : Past B g w w' := (Past.of_below (h1.mono hB) g).grown hg (Nat.le_trans hB h1.size) (fun k hk => (ho.lt k hk).1)
  refine ⟨⟨v', ?_, ?_, ?_, by simpa [World.setCell] using hB'⟩, hp.setCell (.inl rfl) _⟩
  · have := hb'.set_ 0 v'
    exact this
  · rw [bv_append]
    exact ho'.far (ho'.block_ne hb' (by decide)) _
  · intro c hc
    rcases List.mem_append.1 hc with h | h
    · exact hl c h
    · simp at h; omega
end Go.Proofs.Ytggonoppdekilaa.Fld
