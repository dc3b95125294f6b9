/- The walk of layer 4's examples. -/
import Derived.Test.YtjpbdbgihakpmaaPolySt
import Derived.Test.YtjpbdbgihakpmaaPolyMath2
namespace Go.Proofs.Ytjpbdbgihakpmaa.Poly
open Go.RowKit F8 GF

theorem DivBy.of {a b q r : List F8} (h1 : trim q = q) (h2 : trim r = r) (h3 : trim a = trim (padd (pmul q b) r)) (h4 : len r < len b) : DivBy a b q r := ⟨h1, h2, trim_eq_iff.1 h3, h4⟩
theorem Thru.of {xs ys r : List F8} (h1 : trim r = r) (h2 : r.length ≤ xs.length) (h3 : xs.map (eval r) = ys) : Thru xs ys r :=
  ⟨h1, (bdd_length r).mono h2, fun i h h' => by subst h3; simp⟩
section
variable {w0 w : World} {g : Nat} {ls : List (Option Addr × List F8)}
/-- A row that is written out. -/
theorem W.lit (h : W w0 g ls w) (cs : Array Value) (p : List F8) (hp : cs.toList = bv (bs p)) : W w0 g ((some ⟨w.heap.size, 0, none⟩, p) :: ls) (w.alloc (.cells cs 5)) := by
  refine (h.alloc _).cons ⟨?_, bs_lt p⟩ (fun _ a ha => ?_)
  · have := Row.new w cs 5 (0, 0)
    rw [hp] at this; exact this
  · cases ha; have := h.glt; simp; omega
theorem alloc_size (w : World) (o : Obj) : (w.alloc o).heap.size = w.heap.size + 1 := by simp
theorem W.lit2 (h : W w0 g ls w) (cs ds : Array Value) (p q : List F8) (hp : cs.toList = bv (bs p)) (hq : ds.toList = bv (bs q)) :
    W w0 g ((some ⟨w.heap.size + 1, 0, none⟩, q) :: (some ⟨w.heap.size, 0, none⟩, p) :: ls) ((w.alloc (.cells cs 5)).alloc (.cells ds 5)) := by
  have := (h.lit cs p hp).lit ds q hq
  rw [alloc_size] at this; exact this
theorem W.nil (h : W w0 g ls w) : W w0 g ((none, []) :: ls) w := h.cons (Bytes.nil _ _) (fun _ a ha => by cases ha)
end
theorem ownx (w : World) (x : F8) : Own (w.alloc (.cells #[.int .u8 x.n] 5)) w.heap.size 5 (.slice (some ⟨w.heap.size, 0, none⟩) 1 1) (bv (bs [x])) :=
  Own.lit w w.heap.size 5 #[.int .u8 (x.n : Int)] 1 (Nat.le_refl _) rfl (by simp [maxLen])
theorem ownx_app (w wm : World) (x : F8) (p xp : List F8) (hx : x :: p = xp) (v : Value) (h : Own wm w.heap.size 5 v (bv (bs [x]) ++ bv (bs p))) : Own wm w.heap.size 5 v (bv (bs xp)) := by
  rw [← bv_append, ← bs_append] at h; rw [← hx]; exact h
/-- A byte that is written out. -/
def f (n : Nat) (h : n < 256 := by decide) : F8 := ⟨n, h⟩
theorem ex_div : DivBy [1, 0, 1] [1, 1] [1, 1] [] := DivBy.of (by decide +kernel) (by decide +kernel) (by decide +kernel) (by decide +kernel)
theorem ex_thru : Thru [0, 1] [f 7, f 6] [f 7, 1] := Thru.of (by decide +kernel) (by decide) (by decide +kernel)

end Go.Proofs.Ytjpbdbgihakpmaa.Poly
