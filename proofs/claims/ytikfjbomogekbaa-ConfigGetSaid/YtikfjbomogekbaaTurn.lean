/- A frame for the book-keeping of a loop over a function: below a bound all is as it was, and so is every block of cells. -/
import Derived.RangeFuncNested
import Derived.RangeFuncBound
import Derived.Shelf.Abstract
import Derived.Shelf.RegionOpen
import Derived.WalkKit
import Derived.OwnWalkIn
import Derived.TacticsInMore
import Derived.LoopNIn
import Derived.LoopIn
import Derived.Test.YtikfjbomogekbaaKit2
import Derived.Test.YtikfjbomogekbaaPast
import Derived.Test.YtikfjbomogekbaaGfTab
namespace Go.Proofs.Ytikfjbomogekbaa.Poly
open Go.RowKit Go.Shelf
attribute [local go_sem] Oper.semAt_some

/-- Below B all is as it was, and so is every block of cells. -/
structure Turn (B : Nat) (W W' : World) : Prop where
  below : Below B W W'
  cells : ∀ (k : Nat) (cs : Array Value) (t : TypeId) (fr : Nat × Nat), W.heap[k]? = some (Obj.cells cs t fr) → W'.heap[k]? = some (Obj.cells cs t fr)
section
variable {B g : Nat} {W W' W'' : World}
theorem Turn.refl (B : Nat) (W : World) : Turn B W W := ⟨Below.refl _ _, fun _ _ _ _ h => h⟩
theorem Turn.trans (h : Turn B W W') (k : Turn B W' W'') : Turn B W W'' := ⟨h.below.trans k.below, fun i cs t fr hi => k.cells i cs t fr (h.cells i cs t fr hi)⟩
theorem Turn.alloc (hB : B ≤ W.heap.size) (o : Obj) : Turn B W (W.alloc o) :=
  ⟨(Below.refl _ _).alloc hB o, fun k _ _ _ h => (Below.heap_alloc W o k (Array.getElem?_eq_some_iff.1 h).1).trans h⟩
theorem Turn.put {l : Nat} {o : Obj} (h : W.heap[l]? = some o) (ho : o.isCells = false) (hB : B ≤ l) (o' : Obj) : Turn B W (W.putObj l o') := by
  have hl := (Array.getElem?_eq_some_iff.1 h).1
  refine ⟨(Below.refl B W).grown (grownBy_putObj' W l o') (by omega) (fun k e => by cases e; exact hB), fun k cs t fr hk => ?_⟩
  by_cases e : k = l
  · subst e; rw [h] at hk; cases hk; cases ho
  · exact (World.putObj_heap_other e).trans hk
theorem Turn.cell (h : Turn B W W') {p : Addr} {v : Value} (hc : W.cell? p = some v) : W'.cell? p = some v := by
  unfold World.cell? at hc ⊢
  cases ho : W.heap[p.block]? with
  | none => rw [ho] at hc; cases hc
  | some o =>
    rw [ho] at hc
    cases o with
    | cells cs t fr => rw [h.cells _ _ _ _ ho]; exact hc
    | _ => cases hc
theorem Turn.block {t : TypeId} {cs : Array Value} (h : Turn B W W') (hb : Block W g t cs) : Block W' g t cs := h.cells _ _ _ _ hb
theorem Turn.row {A : Option Addr} {xs : List Value} (h : Turn B W W') (hr : Row W A xs) : Row W' A xs := fun k u hu => by
  obtain ⟨b, off, e, hc⟩ := hr k u hu
  exact ⟨b, off, e, h.cell hc⟩
theorem Turn.bytes {A : Option Addr} {l : List Nat} (h : Turn B W W') (hr : Bytes W A l) : Bytes W' A l := ⟨h.row hr.row, hr.lt⟩
theorem Turn.own {B0 : Nat} {e : TypeId} {v : Value} {xs : List Value} (h : Turn B W W') (ho : Own W B0 e v xs) : Own W' B0 e v xs := by
  refine ⟨ho.1, ?_⟩
  rcases ho.2 with hn | ⟨g, cap, cur, h1, h2, h3, h4⟩
  · exact .inl hn
  · exact .inr ⟨g, cap, cur, h1, h2, h.cells _ _ _ _ h3, h4⟩
theorem Turn.fldP {p : Option Addr} (h : Turn B W W') (hp : GF.FldP W p) : GF.FldP W' p := by
  rcases hp with hp | ⟨g, hp, hf⟩
  · exact .inl hp
  · exact .inr ⟨g, hp, hf.imp h.block h.block⟩
theorem Turn.past {B0 g : Nat} {w : World} (h : Turn B W W') (hp : Past B0 g w W) (hB : B0 ≤ B) : Past B0 g w W' := hp.trans ((Past.of_below h.below g).mono hB)
theorem Turn.size (h : Turn B W W') : W.heap.size ≤ W'.heap.size := h.below.size
/-- What changes but one block of cells of those that were there leaves all that is no cells. -/
theorem keeps_past {l : Nat} (h : Past W.heap.size g W W') (hg : W.heap.size ≤ g ∨ ∃ cs t fr, W.heap[g]? = some (.cells cs t fr)) : KeepsFrom l W W' :=
  ⟨h.size, fun k o _ hk ho => by
    have hlt := (Array.getElem?_eq_some_iff.1 hk).1
    refine (h.block k hlt ?_).trans hk
    rintro rfl
    rcases hg with hg | ⟨cs, t, fr, hg⟩
    · omega
    · rw [hg] at hk; cases hk; cases ho⟩
theorem keeps_below {l : Nat} (h : Below W.heap.size W W') : KeepsFrom l W W' := keeps_past (g := W.heap.size) (Past.of_below h _) (.inl (Nat.le_refl _))
end


theorem zip2 (s1 s2 : Tmp) (u v : Value) (t : Array Value) :
    Array.foldl (fun (tmps : Array Value) (x : Tmp × Value) => match x with | (t, a) => tmps.setIfInBounds t a) t ((#[s1, s2] : Array Tmp).zip #[u, v]) = (t.setIfInBounds s1 u).setIfInBounds s2 v := by simp
end Go.Proofs.Ytikfjbomogekbaa.Poly
