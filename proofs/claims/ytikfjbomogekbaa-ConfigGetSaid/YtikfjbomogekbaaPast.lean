/- A frame: below a bound nothing but one block has turned. -/
import Derived.Test.YtikfjbomogekbaaKit2
namespace Go.Proofs.Ytikfjbomogekbaa
open Go.RowKit

/-- Below B nothing but the block g has turned. -/
structure Past (B g : Nat) (w w' : World) : Prop where
  os : w'.os = w.os
  tape : w'.tape = w.tape
  output : w'.output = w.output
  size : w.heap.size ≤ w'.heap.size
  block : ∀ k, k < B → k ≠ g → w'.heap[k]? = w.heap[k]?
section
variable {B g : Nat} {a w w' : World}
theorem Past.refl (B g : Nat) (w : World) : Past B g w w := ⟨rfl, rfl, rfl, Nat.le_refl _, fun _ _ _ => rfl⟩
theorem Past.trans (h : Past B g a w) (k : Past B g w w') : Past B g a w' :=
  ⟨k.os.trans h.os, k.tape.trans h.tape, k.output.trans h.output, Nat.le_trans h.size k.size, fun i hi hn => (k.block i hi hn).trans (h.block i hi hn)⟩
theorem Past.of_below (h : Below B a w) (g : Nat) : Past B g a w := ⟨h.os, h.tape, h.output, h.size, fun i hi _ => h.block i hi⟩
theorem Past.mono {B' : Nat} (h : Past B g a w) (hB : B' ≤ B) : Past B' g a w := ⟨h.os, h.tape, h.output, h.size, fun i hi hn => h.block i (by omega) hn⟩
theorem Past.drew (h : Past B g a w) : Past B g a w.drew := ⟨h.os, h.tape, h.output, h.size, h.block⟩
theorem Past.drewN (h : Past B g a w) (n : Nat) : Past B g a (w.drewN n) := ⟨h.os, h.tape, h.output, h.size, h.block⟩
theorem Past.alloc (h : Past B g a w) (hB : B ≤ w.heap.size) (o : Obj) : Past B g a (w.alloc o) := h.trans (Past.of_below ((Below.refl B w).alloc hB o) g)
theorem Past.setCell (h : Past B g a w) {p : Addr} (hp : p.block = g ∨ B ≤ p.block) (u : Value) : Past B g a (w.setCell p u) :=
  h.trans ⟨rfl, rfl, rfl, by simp [World.setCell], fun k hk hn => Below.heap_setCell _ _ _ _ (by intro e; subst e; rcases hp with rfl | hp <;> omega)⟩
theorem Past.below (h : Past B g a w) (hB : B ≤ g) : Below B a w := ⟨h.os, h.tape, h.output, h.size, fun i hi => h.block i hi (by omega)⟩
theorem Past.grown {row : Option Nat} (h : Past B g a w) (hw : w.grownBy w' row) (hB : B ≤ w.heap.size) (hr : ∀ k, row = some k → B ≤ k) : Past B g a w' :=
  h.trans (Past.of_below ((Below.refl B w).grown hw hB hr) g)
theorem Block.past {t : TypeId} {cs : Array Value} {b : Nat} (h : Block w b t cs) (hp : Past B g w w') (hb : b < B) (hn : b ≠ g) : Block w' b t cs := (hp.block b hb hn).trans h
end

end Go.Proofs.Ytikfjbomogekbaa
