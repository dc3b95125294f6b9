/- More words for memory: a slice of the call's own that is not empty, read and written. -/
import Derived.Test.YtikfjbomogekbaaKit
namespace Go.Proofs.Ytikfjbomogekbaa
open Go.RowKit
section
variable {w w' : World} {B : Nat} {e : TypeId} {v : Value} {xs : List Value} {g c n : Nat}
/-- It is not empty: where it lies. -/
theorem Own.form1 (h : Own w B e v xs) (h0 : 0 < xs.length) : ∃ g c, v = .slice (some ⟨g, 0, none⟩) xs.length c ∧ B ≤ g ∧ g < w.heap.size ∧ xs.length ≤ c := by
  have hh := h.lt
  rcases h.2 with ⟨rfl, hn⟩ | ⟨g, cap, cur, rfl, h1, h2, h3, _⟩
  · omega
  · exact ⟨g, cap, rfl, h1, (hh g rfl).2, h3⟩
theorem Own.cellAt (h : Own w B e (.slice (some ⟨g, 0, none⟩) n c) xs) (hn : xs.length = n) (k : Nat) (hk : k < xs.length) : w.cell? ⟨g, k, none⟩ = some xs[k] := by
  subst hn
  rw [World.ownsRow.cellAt h k (by omega)]; exact List.getElem?_eq_getElem hk
theorem Own.frozenAt (h : Own w B e (.slice (some ⟨g, 0, none⟩) n c) xs) (hn : xs.length = n) (k : Nat) : w.frozen? ⟨g, k, none⟩ = false := by
  subst hn
  exact World.ownsRow.frozenAt h k
theorem Own.set_ (h : Own w B e (.slice (some ⟨g, 0, none⟩) n c) xs) (hn : xs.length = n) (k : Nat) (u : Value) : Own (w.setCell ⟨g, k, none⟩ u) B e (.slice (some ⟨g, 0, none⟩) n c) (xs.set k u) := by
  subst hn
  have := (World.ownsRow.stored h k u).1
  unfold Own
  rw [List.length_set]
  exact this
theorem Own.blk (h : Own w B e (.slice (some ⟨g, 0, none⟩) n c) xs) : B ≤ g ∧ g < w.heap.size := h.lt g rfl
/-- A store into another block. -/
theorem Own.far (h : Own w B e v xs) {p : Addr} (hp : v.ownBlock ≠ some p.block) (u : Value) : Own (w.setCell p u) B e v xs :=
  h.grown (row := some p.block) ⟨rfl, rfl, rfl, by simp [World.setCell], fun k _ hk => Below.heap_setCell _ _ _ _ (fun e => hk (by rw [e]))⟩ (.inr hp)
end
theorem bv_set (l : List Nat) (k x : Nat) : (bv l).set k (.int .u8 (x : Int)) = bv (l.set k x) := by simp [bv, List.map_set]
theorem bv_get (l : List Nat) (k : Nat) (hk : k < (bv l).length) : (bv l)[k] = .int .u8 ((l[k]'(by rwa [bv_length] at hk) : Nat) : Int) := by simp [bv]
theorem set_lt {l : List Nat} (hl : ∀ c ∈ l, c < 256) {k x : Nat} (hx : x < 256) : ∀ c ∈ l.set k x, c < 256 := by
  intro c hc; rcases List.mem_or_eq_of_mem_set hc with h | h; exact hl c h; omega
end Go.Proofs.Ytikfjbomogekbaa
