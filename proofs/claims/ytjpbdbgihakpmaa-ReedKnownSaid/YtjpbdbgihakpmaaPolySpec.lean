/- What the program's calls on polynomials are to do, as one structure: the laws' walks rest on it; it is proved over the code (PolyCode). -/
import Derived.Test.YtjpbdbgihakpmaaPolyRef3
import Derived.Test.YtjpbdbgihakpmaaPolySame
namespace Go.Proofs.Ytjpbdbgihakpmaa.Poly
open Go.RowKit F8 GF

/-- A call that is given a field has given a list of its own. -/
def PolyRes (pf : Option Addr) (w w' : World) (e : Ending) (r : List F8) : Prop :=
  ∃ A c, e = .returned (.slice A r.length c) ∧ r.length ≤ c ∧ Own w' w.heap.size 5 (.slice A r.length c) (bv (bs r)) ∧ FldP w' pf ∧ Past w.heap.size (rb w pf) w w'
/-- .. two lists and an error's number. -/
def PolyRes2 (pf : Option Addr) (w w' : World) (e : Ending) (q r : List F8) (n : Int) : Prop :=
  ∃ A c B d, e = .returned (.tuple #[.slice A q.length c, .slice B r.length d, .int .i64 n]) ∧ q.length ≤ c ∧ r.length ≤ d ∧ Own w' w.heap.size 5 (.slice A q.length c) (bv (bs q)) ∧ Own w' w.heap.size 5 (.slice B r.length d) (bv (bs r)) ∧ FldP w' pf ∧ Past w.heap.size (rb w pf) w w'
/-- .. a list and an error's number. -/
def PolyResE (pf : Option Addr) (w w' : World) (e : Ending) (r : List F8) (n : Int) : Prop :=
  ∃ A c, e = .returned (.tuple #[.slice A r.length c, .int .i64 n]) ∧ r.length ≤ c ∧ Own w' w.heap.size 5 (.slice A r.length c) (bv (bs r)) ∧ FldP w' pf ∧ Past w.heap.size (rb w pf) w w'

/-- The list doesn't lie in the field. -/
def Far (pf A : Option Addr) (p : List F8) : Prop := p ≠ [] → ∀ a g, A = some a → pf = some g → a.block ≠ g.block

structure Spec : Prop where
  trimP : ∀ (A : Option Addr) (p : List F8) (m c : Nat) (w : World) (_ : p.length = m) (_ : Bytes w A (bs p)) (_ : m ≤ c) (_ : m ≤ 1000),
    Calls Try.prog 132 #[.slice A m c] w fun e w' => Res w w' e (trim p)
  degreeP : ∀ (A : Option Addr) (p : List F8) (m c : Nat) (w : World) (_ : p.length = m) (_ : Bytes w A (bs p)) (_ : m ≤ c) (_ : m ≤ 1000),
    Calls Try.prog 125 #[.slice A m c] w fun e w' => e = .returned (.int .i64 ((len p : Int) - 1)) ∧ Below w.heap.size w w'
  mulP : ∀ (A B : Option Addr) (p q : List F8) (m n c d : Nat) (w : World) (_ : p.length = m) (_ : q.length = n) (_ : Bytes w A (bs p)) (_ : Bytes w B (bs q)) (_ : m ≤ c) (_ : n ≤ d) (_ : m ≤ 1000) (_ : n ≤ 1000) (pf : Option Addr) (_ : FldP w pf) (_ : Far pf A p) (_ : Far pf B q),
    Calls Try.prog 86 #[.pointer pf, .slice A m c, .slice B n d] w fun e w' => PolyRes pf w w' e (trim (pmul p q))
  divP_zero : ∀ (A B : Option Addr) (p q : List F8) (m n c d : Nat) (w : World) (_ : p.length = m) (_ : q.length = n) (_ : Bytes w A (bs p)) (_ : Bytes w B (bs q)) (_ : m ≤ c) (_ : n ≤ d) (_ : m ≤ 1000) (_ : n ≤ 1000) (pf : Option Addr) (_ : FldP w pf) (_ : Far pf A p) (_ : Far pf B q) (_ : trim q = []),
    Calls Try.prog 122 #[.pointer pf, .slice A m c, .slice B n d] w fun e w' => PolyRes2 pf w w' e [] [] 30
  divP : ∀ (A B : Option Addr) (p q : List F8) (m n c d : Nat) (w : World) (_ : p.length = m) (_ : q.length = n) (_ : Bytes w A (bs p)) (_ : Bytes w B (bs q)) (_ : m ≤ c) (_ : n ≤ d) (_ : m ≤ 1000) (_ : n ≤ 1000) (pf : Option Addr) (_ : FldP w pf) (_ : Far pf A p) (_ : Far pf B q) (_ : 0 < len q),
    Calls Try.prog 122 #[.pointer pf, .slice A m c, .slice B n d] w fun e w' => ∃ u v, DivBy p q u v ∧ PolyRes2 pf w w' e u v 0
  atP : ∀ (A : Option Addr) (p : List F8) (m c : Nat) (w : World) (_ : p.length = m) (_ : Bytes w A (bs p)) (_ : m ≤ c) (_ : m ≤ 1000) (pf : Option Addr) (_ : FldP w pf) (_ : Far pf A p) (x : F8),
    Calls Try.prog 103 #[.pointer pf, .slice A m c, .int .u8 x.n] w fun e w' => e = .returned (.int .u8 (eval p x).n) ∧ FldP w' pf ∧ Past w.heap.size (rb w pf) w w'
  rootsP : ∀ (A : Option Addr) (p : List F8) (m c : Nat) (w : World) (_ : p.length = m) (_ : Bytes w A (bs p)) (_ : m ≤ c) (_ : m ≤ 1000) (pf : Option Addr) (_ : FldP w pf) (_ : Far pf A p),
    Calls Try.prog 41 #[.pointer pf, .slice A m c] w fun e w' => PolyRes pf w w' e (trim (roots p))
  throughP_bad : ∀ (A B : Option Addr) (p q : List F8) (m n c d : Nat) (w : World) (_ : p.length = m) (_ : q.length = n) (_ : Bytes w A (bs p)) (_ : Bytes w B (bs q)) (_ : m ≤ c) (_ : n ≤ d) (_ : m ≤ 1000) (_ : n ≤ 1000) (pf : Option Addr) (_ : FldP w pf) (_ : Far pf A p) (_ : Far pf B q) (_ : m ≠ n ∨ ¬ p.Nodup),
    Calls Try.prog 104 #[.pointer pf, .slice A m c, .slice B n d] w fun e w' => PolyResE pf w w' e [] 2
  throughP : ∀ (A B : Option Addr) (p q : List F8) (m n c d : Nat) (w : World) (_ : p.length = m) (_ : q.length = n) (_ : Bytes w A (bs p)) (_ : Bytes w B (bs q)) (_ : m ≤ c) (_ : n ≤ d) (_ : m ≤ 1000) (_ : n ≤ 1000) (pf : Option Addr) (_ : FldP w pf) (_ : Far pf A p) (_ : Far pf B q) (_ : m = n) (_ : p.Nodup),
    Calls Try.prog 104 #[.pointer pf, .slice A m c, .slice B n d] w fun e w' => ∃ r, Thru p q r ∧ PolyResE pf w w' e r 0
end Go.Proofs.Ytjpbdbgihakpmaa.Poly
