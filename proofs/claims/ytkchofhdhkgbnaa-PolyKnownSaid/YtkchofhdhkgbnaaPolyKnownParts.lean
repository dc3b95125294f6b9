/- What the walk of PolyKnown needs: the rows that it makes, the six laws at rows. -/
import Derived.Test.YtkchofhdhkgbnaaPolyTwoWalk
import Derived.Test.YtkchofhdhkgbnaaPolyThroughWalk
import Derived.Test.YtkchofhdhkgbnaaPolyValuesWalk
import Derived.Test.YtkchofhdhkgbnaaPolyDividesWalk
import Derived.Test.YtkchofhdhkgbnaaPolyOnlyWalk
import Derived.Test.YtkchofhdhkgbnaaPolyRootsWalk
import Derived.Lib.QuietBelow
import Derived.Deep.QuietTactic
import Derived.Deep.DeepCutAuto
import Derived.Deep.RegionHeld
namespace Go.Proofs.Ytkchofhdhkgbnaa.polyKnown
open Go.RowKit F8 GF Poly

theorem info_rows : (Try.prog.info? 22).map (fun i => (i.zero, i.size, i.bytes)) = some (some (.slice none 0 0), 1, 24) := by kernel_rfl
/-- k rows of three bytes each, and the slice of them. -/
structure Rows3 (w : World) (wr : World) (v : Value) (k : Nat) (xs : List Value) : Prop where
  len : xs.length = k
  own : Own wr w.heap.size 22 v xs
  bel : Below w.heap.size w wr
  row : ∀ (i : Nat) (u : Value), xs[i]? = some u → ∃ g, ∃ a b c : F8, u = Value.slice (some ⟨g, 0, none⟩) 3 3 ∧ Block wr g 5 #[.int .u8 a.n, .int .u8 b.n, .int .u8 c.n]
theorem Rows3.below {w wr wq : World} {v : Value} {k : Nat} {xs : List Value} (h : Rows3 w wr v k xs) (hb : Below wr.heap.size wr wq) : Rows3 w wq v k xs :=
  ⟨h.len, h.own.below hb, h.bel.trans (hb.mono h.bel.size), fun i u hu => by
    obtain ⟨g, a, b, c, e, hB⟩ := h.row i u hu
    exact ⟨g, a, b, c, e, hB.below hb hB.lt⟩⟩
/-- A row more. -/
theorem Rows3.more {w wr w2 : World} {v v' : Value} {k : Nat} {xs : List Value} (h : Rows3 w wr v k xs) (a b c : F8) (u : Value) (hu : u = .slice (some ⟨wr.heap.size, 0, none⟩) 3 3)
    (ho : Own w2 w.heap.size 22 v' (xs ++ [u])) (hg : ((wr.alloc (.cells #[.int .u8 a.n, .int .u8 b.n, .int .u8 c.n] 5)).alloc (.cells #[u] 22)).grownBy w2 v.ownBlock) : Rows3 w w2 v' (k + 1) (xs ++ [u]) := by
  have hsz := h.bel.size
  have hO1 : Own ((wr.alloc (.cells #[.int .u8 a.n, .int .u8 b.n, .int .u8 c.n] 5)).alloc (.cells #[u] 22)) w.heap.size 22 v xs := (h.own.alloc _).alloc _
  have keep : ∀ (g : Nat) (cs : Array Value), Block ((wr.alloc (.cells #[.int .u8 a.n, .int .u8 b.n, .int .u8 c.n] 5)).alloc (.cells #[u] 22)) g 5 cs → Block w2 g 5 cs := fun g cs hB =>
    (hg.block g hB.lt (fun e => own_ne hO1 hB (by decide) e.symm)).trans hB
  refine ⟨by rw [List.length_append, h.len]; rfl, ho, ?_, fun i x hx => ?_⟩
  · exact ((h.bel.alloc hsz _).alloc (by simp; omega) _).trans (hO1.grew (by simp; omega) hg)
  · rcases Nat.lt_or_ge i xs.length with hi | hi
    · rw [List.getElem?_append_left hi] at hx
      obtain ⟨g, a', b', c', e, hB⟩ := h.row i x hx
      exact ⟨g, a', b', c', e, keep g _ ((hB.alloc _).alloc _)⟩
    · rw [List.getElem?_append_right hi] at hx
      have hi0 : i - xs.length = 0 := by have := (List.getElem?_eq_some_iff.1 hx).1; simp at this; omega
      rw [hi0] at hx
      simp at hx
      subst hx
      exact ⟨wr.heap.size, a, b, c, hu, keep _ _ ((Block.new wr _ _).alloc _)⟩

/-- The bytes of a row. -/
def l3 (a b c : F8) : List Nat := [a.n, b.n, c.n]
theorem l3_bytes {w : World} {g : Nat} {a b c : F8} (h : Block w g 5 #[.int .u8 a.n, .int .u8 b.n, .int .u8 c.n]) : Bytes w (some ⟨g, 0, none⟩) (l3 a b c) := by
  refine ⟨Row.all h, fun x hx => bs_lt [a, b, c] x hx⟩
theorem bytes_take {w : World} {A : Option Addr} {l : List Nat} (h : Bytes w A l) (n : Nat) : Bytes w A (l.take n) := by
  refine ⟨fun k u hu => ?_, fun c hc => h.lt c (List.mem_of_mem_take hc)⟩
  refine h.row k u ?_
  rw [bv, List.map_take, List.getElem?_take] at hu
  split at hu
  · exact hu
  · cases hu
theorem twoK (S : Poly.Spec) (w : World) (A B : Option Addr) (la lb : List Nat) (m n : Nat) (ha : Bytes w A la) (hb : Bytes w B lb) (hm : la.length = m) (hn : lb.length = n) (hm3 : m ≤ 3) (hn3 : n ≤ 3) :
    Calls Try.prog 3 #[.slice A m 3, .slice B n 3] w fun e w' => e = .returned (.bool true) ∧ Below w.heap.size w w' := by
  subst hm hn
  exact polyTwo.walk S w A la 3 ha hm3 (by omega) B lb 3 hb hn3 (by omega)
theorem dividesK (S : Poly.Spec) (w : World) (A B : Option Addr) (la lb : List Nat) (m n : Nat) (x : Int) (ha : Bytes w A la) (hb : Bytes w B lb) (hm : la.length = m) (hn : lb.length = n) (hm3 : m ≤ 3) (hn3 : n ≤ 3) (hx : 0 ≤ x) (hx' : x < 256) :
    Calls Try.prog 6 #[.slice A m 3, .slice B n 3, .int .u8 x] w fun e w' => e = .returned (.bool true) ∧ Below w.heap.size w w' := by
  subst hm hn
  obtain ⟨x, rfl⟩ := Int.eq_ofNat_of_zero_le hx
  exact polyDivides.walk S w A la 3 ha hm3 (by omega) B lb 3 hb hn3 (by omega) x (by omega)
theorem valuesK (S : Poly.Spec) (w : World) (A B : Option Addr) (la lb : List Nat) (m n : Nat) (x : Int) (ha : Bytes w A la) (hb : Bytes w B lb) (hm : la.length = m) (hn : lb.length = n) (hm3 : m ≤ 3) (hn3 : n ≤ 3) (hx : 0 ≤ x) (hx' : x < 256) :
    Calls Try.prog 5 #[.slice A m 3, .slice B n 3, .int .u8 x] w fun e w' => e = .returned (.bool true) ∧ Below w.heap.size w w' := by
  subst hm hn
  obtain ⟨x, rfl⟩ := Int.eq_ofNat_of_zero_le hx
  exact polyValues.walk S w A la 3 ha hm3 (by omega) B lb 3 hb hn3 (by omega) x (by omega)
theorem throughK (S : Poly.Spec) (w : World) (A B C : Option Addr) (la lb lc : List Nat) (m n o c d b : Nat) (x : Int) (ha : Bytes w A la) (hb : Bytes w B lb) (hcc : Bytes w C lc) (hm : la.length = m) (hn : lb.length = n) (ho : lc.length = o) (hm3 : m ≤ c) (hn3 : n ≤ d) (ho3 : o ≤ b) (h3 : c ≤ 3 ∧ d ≤ 3 ∧ b ≤ 3) (hx : 0 ≤ x) (hx' : x < 256) :
    Calls Try.prog 4 #[.slice A m c, .slice B n d, .slice C o b, .int .u8 x] w fun e w' => e = .returned (.bool true) ∧ Below w.heap.size w w' := by
  subst hm hn ho
  obtain ⟨x, rfl⟩ := Int.eq_ofNat_of_zero_le hx
  exact polyThrough.walk S w A la c ha hm3 (by omega) B lb d hb hn3 (by omega) C lc b hcc ho3 (by omega) x (by omega)
theorem onlyK (S : Poly.Spec) (w : World) (A B C : Option Addr) (la lb lc : List Nat) (m n o c d b : Nat) (ha : Bytes w A la) (hb : Bytes w B lb) (hcc : Bytes w C lc) (hm : la.length = m) (hn : lb.length = n) (ho : lc.length = o) (hm3 : m ≤ c) (hn3 : n ≤ d) (ho3 : o ≤ b) (h3 : c ≤ 3 ∧ d ≤ 3 ∧ b ≤ 3) :
    Calls Try.prog 7 #[.slice A m c, .slice B n d, .slice C o b] w fun e w' => e = .returned (.bool true) ∧ Below w.heap.size w w' := by
  subst hm hn ho
  exact polyOnly.walk S w A la c ha hm3 (by omega) B lb d hb hn3 (by omega) C lc b hcc ho3 (by omega)
theorem rootsK (S : Poly.Spec) (w : World) (A B : Option Addr) (la lb : List Nat) (m n c d : Nat) (ha : Bytes w A la) (hb : Bytes w B lb) (hm : la.length = m) (hn : lb.length = n) (hm3 : m ≤ c) (hn3 : n ≤ d) (h3 : c ≤ 3 ∧ d ≤ 3) :
    Calls Try.prog 8 #[.slice A m c, .slice B n d] w fun e w' => e = .returned (.bool true) ∧ Below w.heap.size w w' := by
  subst hm hn
  exact polyRoots.walk S w A la c ha hm3 (by omega) B lb d hb hn3 (by omega)
theorem lit_bytes (w : World) (l : List Nat) (cs : Array Value) (h : cs.toList = bv l) (hl : ∀ x ∈ l, x < 256) : Bytes (w.alloc (.cells cs 5)) (some ⟨w.heap.size, 0, none⟩) l := by
  have := Row.new w cs 5 (0, 0)
  rw [h] at this; exact ⟨this, hl⟩
/-- The row at i. -/
theorem Rows3.get {w wr : World} {g k c : Nat} {xs : List Value} (h : Rows3 w wr (.slice (some ⟨g, 0, none⟩) k c) k xs) (i : Nat) (hi : i < k) :
    ∃ gi, ∃ a b d : F8, wr.cell? ⟨g, i, none⟩ = some (.slice (some ⟨gi, 0, none⟩) 3 3) ∧ wr.frozen? ⟨g, i, none⟩ = false ∧ Hid (Bytes wr (some ⟨gi, 0, none⟩) (l3 a b d)) := by
  have hl := h.len
  obtain ⟨gi, a, b, d, e, hB⟩ := h.row i (xs[i]'(by omega)) (List.getElem?_eq_getElem _)
  refine ⟨gi, a, b, d, ?_, h.own.frozenAt hl i, Lib.hid (l3_bytes hB)⟩
  rw [h.own.cellAt hl i (by omega), e]

end Go.Proofs.Ytkchofhdhkgbnaa.polyKnown
