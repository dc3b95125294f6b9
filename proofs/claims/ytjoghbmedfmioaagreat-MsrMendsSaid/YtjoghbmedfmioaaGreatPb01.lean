/- Of the program, joined: Kit, Kit2, Past, GfOnce, GfMath, GfBits, GfTab, Turn. -/
import Derived.Below
import Derived.Laws.OwnMore
import Derived.Deep.Draws
import Derived.Lib.Hide
import Derived.Laws.NewBlocks
import Derived.Maps.AppendAt
import Derived.OwnWalk
import Derived.RegionTactic
import Derived.Test.YtjoghbmedfmioaaGreatRows
import Derived.Tactics
import Derived.Tactics2
import Derived.Defers
import Derived.WalkKit
import Derived.Laws.Pointers
import Derived.Laws.LoneSync
import Derived.RegionCalls
import Derived.ChangeAlike
import Derived.Laws.BitsAllLaws
import Derived.IntWalk
import Derived.BigQuiet
import Derived.Deep.QuietTactic
import Derived.BigRegion
import Derived.StillTailTactics
import Derived.Deep.RegionWith
import Derived.RangeFuncNested
import Derived.RangeFuncBound
import Derived.Shelf.Abstract
import Derived.Shelf.RegionOpen
import Derived.OwnWalkIn
import Derived.TacticsInMore
import Derived.LoopNIn
import Derived.LoopIn
namespace Go.Proofs.YtjoghbmedfmioaaGreat
open Go.RowKit
def Row (w : World) (A : Option Addr) (xs : List Value) : Prop :=
 ∀ k u, xs[k]? = some u → ∃ b off, A = some ⟨b, off, none⟩ ∧ w.cell? ⟨b, off + k, none⟩ = some u
theorem cell_lt {w : World} {a : Addr} {u : Value} (h : w.cell? a = some u) : a.block < w.heap.size := by
 rcases Nat.lt_or_ge a.block w.heap.size with hlt | hge
 ·exact hlt
 ·unfold World.cell? at h; rw [Array.getElem?_eq_none hge] at h; cases h
section
variable {w w' : World} {A : Option Addr} {xs : List Value}
theorem Row.nil (w : World) (A : Option Addr) : Row w A [] := fun _ _ h => by simp at h
theorem Row.keep (h : Row w A xs) (hk : ∀ p : Addr, p.block < w.heap.size → w'.cell? p = w.cell? p) : Row w' A xs := fun k u hu => by
 obtain ⟨b, off, rfl, hc⟩ := h k u hu
 exact ⟨b, off, rfl, by rw [hk _ (cell_lt hc)]; exact hc⟩
theorem Row.below (h : Row w A xs) (hb : Below w.heap.size w w') : Row w' A xs := h.keep fun _ hp => hb.cell hp
theorem Row.drew (h : Row w A xs) : Row w.drew A xs := h
theorem Row.alloc (h : Row w A xs) (o : Obj) : Row (w.alloc o) A xs := h.keep fun p hp => World.cell?_alloc_lt w o p hp
theorem Row.of_own {base : Nat} {e : TypeId} {n c : Nat} (h : w.ownsRow base e 1 (.slice A n c) n xs) : Row w A xs := by
 intro k u hu
 rcases h.2 with ⟨he, hn⟩ | ⟨g, cap, cur, hv, _, hh, _, _, _, ht⟩
 ·have := h.1; subst hn; have : xs = [] := List.eq_nil_of_length_eq_zero (by simpa using this); subst this; simp at hu
 ·injection hv with hA
  subst hA
  refine ⟨g, 0, rfl, ?_⟩
  have hk : k < n * 1 := by have := h.1; have := (List.getElem?_eq_some_iff.1 hu).1; omega
  rw [← ht, List.getElem?_take, if_pos hk, Array.getElem?_toList] at hu
  simp [World.cell?, hh, hu]
theorem Row.at_ (h : Row w A xs) {k : Nat} (hk : k < xs.length) : ∃ b off, A = some ⟨b, off, none⟩ ∧ w.cell? ⟨b, off + k, none⟩ = some xs[k] :=
 h k _ (List.getElem?_eq_getElem hk)
end
def bv (l : List Nat) : List Value := l.map fun n : Nat => Value.int .u8 (n : Int)
theorem bv_length (l : List Nat) : (bv l).length = l.length := by simp [bv]
theorem bv_append (a b : List Nat) : bv (a ++ b) = bv a ++ bv b := by simp [bv]
structure Bytes (w : World) (A : Option Addr) (l : List Nat) : Prop where
 row : Row w A (bv l)
 lt : ∀ c ∈ l, c < 256
section
variable {w w' : World} {A : Option Addr} {l : List Nat}
theorem Bytes.nil (w : World) (A : Option Addr) : Bytes w A [] := ⟨Row.nil w A, by simp⟩
theorem Bytes.below (h : Bytes w A l) (hb : Below w.heap.size w w') : Bytes w' A l := ⟨h.row.below hb, h.lt⟩
theorem Bytes.drew (h : Bytes w A l) : Bytes w.drew A l := ⟨h.row, h.lt⟩
theorem Bytes.alloc (h : Bytes w A l) (o : Obj) : Bytes (w.alloc o) A l := ⟨h.row.alloc o, h.lt⟩
theorem Bytes.at_ (h : Bytes w A l) {k : Nat} (hk : k < l.length) : ∃ b off, A = some ⟨b, off, none⟩ ∧ w.cell? ⟨b, off + k, none⟩ = some (.int .u8 (l[k] : Int)) ∧ l[k] < 256 := by
 obtain ⟨b, off, e, hc⟩ := h.row.at_ (k := k) (by simpa [bv] using hk)
 exact ⟨b, off, e, by simpa [bv] using hc, h.lt _ (List.getElem_mem _)⟩
end
def Block (w : World) (g : Nat) (t : TypeId) (cs : Array Value) : Prop := w.heap[g]? = some (.cells cs t (0, 0))
section
variable {w w' : World} {g : Nat} {t : TypeId} {cs : Array Value}
theorem Block.lt (h : Block w g t cs) : g < w.heap.size := by
 rcases Nat.lt_or_ge g w.heap.size with hlt | hge
 ·exact hlt
 ·unfold Block at h; rw [Array.getElem?_eq_none hge] at h; cases h
theorem Block.cell (h : Block w g t cs) (i : Nat) : w.cell? ⟨g, i, none⟩ = cs[i]? := by
 unfold Block at h; simp [World.cell?, h]
theorem Block.frozen (h : Block w g t cs) (i : Nat) : w.frozen? ⟨g, i, none⟩ = false := by
 unfold Block at h; simp [World.frozen?, h]
theorem Block.new (w : World) (t : TypeId) (cs : Array Value) : Block (w.alloc (.cells cs t)) w.heap.size t cs := heap_alloc_new w _
theorem Block.drew (h : Block w g t cs) : Block w.drew g t cs := h
theorem Block.drewN (h : Block w g t cs) (n : Nat) : Block (w.drewN n) g t cs := h
theorem Block.alloc (h : Block w g t cs) (o : Obj) : Block (w.alloc o) g t cs := (Below.heap_alloc w o g h.lt).trans h
theorem Block.set_ (h : Block w g t cs) (i : Nat) (u : Value) : Block (w.setCell ⟨g, i, none⟩ u) g t (cs.setIfInBounds i u) := by
 unfold Block at h ⊢
 simp [World.setCell, Array.getElem?_modify, h]
theorem Block.far (h : Block w g t cs) {p : Addr} (hp : g ≠ p.block) (u : Value) : Block (w.setCell p u) g t cs := (Below.heap_setCell w p u g hp).trans h
theorem Block.below {B : Nat} (h : Block w g t cs) (hb : Below B w w') (hg : g < B) : Block w' g t cs := (hb.block g hg).trans h
end
def Own (w : World) (B : Nat) (e : TypeId) (v : Value) (xs : List Value) : Prop := w.ownsRow B e 1 v xs.length xs
section
variable {w w' : World} {B : Nat} {e : TypeId} {v : Value} {xs : List Value}
theorem Own.nil (w : World) (B : Nat) (e : TypeId) : Own w B e (.slice none 0 0) [] := ⟨by simp, .inl ⟨rfl, rfl⟩⟩
theorem Own.lit (w : World) (B : Nat) (e : TypeId) (cs : Array Value) (n : Nat) (hB : B ≤ w.heap.size) (hn : cs.size = n) (hm : n ≤ maxLen) : Own (w.alloc (.cells cs e)) B e (.slice (some ⟨w.heap.size, 0, none⟩) n n) cs.toList := by
 have h := World.ownsRow_lit (base := B) (e := e) (size := 1) w cs n hB hm (by omega)
 unfold Own
 rw [Array.length_toList, hn]
 exact h
theorem Own.form (h : Own w B e v xs) : ∃ A c, v = .slice A xs.length c ∧ Row w A xs ∧ (∀ b, v.ownBlock = some b → B ≤ b ∧ b < w.heap.size) := by
 have hh := h
 refine (show ∃ A c, v = .slice A xs.length c ∧ Row w A xs by
  rcases h.2 with ⟨rfl, hn⟩ | ⟨g, cap, cur, rfl, _⟩
  ·have : xs = [] := List.eq_nil_of_length_eq_zero (by omega)
   subst this
   exact ⟨none, 0, rfl, Row.nil _ _⟩
  ·exact ⟨_, cap, rfl, Row.of_own hh⟩).imp fun A ⟨c, h1, h2⟩ => ⟨c, h1, h2, hh.lt⟩
theorem Own.drewN (h : Own w B e v xs) (n : Nat) : Own (w.drewN n) B e v xs := h
theorem Own.drew (h : Own w B e v xs) : Own w.drew B e v xs := h
theorem Own.alloc (h : Own w B e v xs) (o : Obj) : Own (w.alloc o) B e v xs := World.ownsRow.alloc h o
theorem Own.grown {row : Option Nat} (h : Own w B e v xs) (hg : w.grownBy w' row) (hne : v.ownBlock = none ∨ v.ownBlock ≠ row) : Own w' B e v xs := World.ownsRow.kept h hg hne
theorem Own.below (h : Own w B e v xs) (hb : Below w.heap.size w w') : Own w' B e v xs :=
 h.grown (row := none) ⟨hb.os, hb.tape, hb.output, hb.size, fun k hk _ => hb.block k hk⟩ (by cases v.ownBlock <;> simp)
theorem Own.more {B' : Nat} (h : Own w B e v xs) (hB : B' ≤ B) : Own w B' e v xs := by
 refine ⟨h.1, ?_⟩
 rcases h.2 with h2 | ⟨g, cap, cur, h1, h2, h3⟩
 ·exact .inl h2
 ·exact .inr ⟨g, cap, cur, h1, by omega, h3⟩
end
section
variable {P : Program} (w : World)
theorem run_append_nothing (t ty e : TypeId) (i : TypeInfo) (B : Nat) (ht : P.underlying t = some (.slice e)) (hi : P.info? e = some i)
  (v : Value) (xs : List Value) (hown : Own w B e v xs) (c : Nat) : (Builtin.append_ #[t, t] ty #[v, .slice none 0 c]).run P w = .ok v w := by
 rcases hown.2 with ⟨rfl, _⟩ | ⟨g, cap, cur, rfl, _, _, hnc, _⟩
 ·simp [Builtin.append_, run_underlying ht, sizeOf, typeInfo, hi, Builtin.lenOf, Builtin.firstCells]
 ·simp [Builtin.append_, run_underlying ht, sizeOf, typeInfo, hi, Builtin.lenOf, Builtin.firstCells, hnc, storeCells]
theorem run_app (B : Nat) (t ty e : TypeId) (z : Value) (bytes : Nat) (ht : P.underlying t = some (.slice e)) (hinfo : (P.info? e).map (fun i => (i.zero, i.size, i.bytes)) = some (some z, 1, bytes)) (hz : z.cells.size = 1)
  (v : Value) (xs : List Value) (hown : Own w B e v xs) (A : Option Addr) (m c : Nat) (ys : List Value) (hm : ys.length = m) (hr : Row w A ys) (h1 : ∀ u ∈ ys, u.oneCell' = true)
  (hb : 0 < bytes) (hlen : (xs.length + m) * bytes ≤ 140737488355328) (hB : B ≤ w.heap.size) :
  ∃ v' w', (Builtin.append_ #[t, t] ty #[v, .slice A m c]).run P w = .ok v' w' ∧ Own w' B e v' (xs ++ ys) ∧ w.grownBy w' v.ownBlock ∧ (v'.ownBlock = v.ownBlock ∨ v'.ownBlock = some w.heap.size) := by
 obtain ⟨i, hi, hi1, hi2, hi3⟩ := info_parts hinfo
 subst hm
 have h63 : xs.length + ys.length ≤ maxLen := by
  have := Nat.le_mul_of_pos_right (xs.length + ys.length) hb
  simp only [maxLen]; omega
 cases A with
 | none =>
  have hy : ys = [] := by
   cases ys with
   | nil => rfl
   | cons y ys => obtain ⟨b, off, h, _⟩ := hr 0 y rfl; cases h
  subst hy
  refine ⟨v, w, run_append_nothing w t ty e i B ht hi v xs hown c, ?_, World.grownBy.refl w _, .inl rfl⟩
  rw [List.append_nil]; exact hown
 | some ad =>
  have hcells : ∀ j u, ys[j]? = some u → w.cell? (ad.add j) = some u := by
   intro j u hu
   obtain ⟨b, off, h, hc⟩ := hr j u hu
   obtain rfl : ad = ⟨b, off, none⟩ := by injection h
   rw [show (⟨b, off, none⟩ : Addr).add j = ⟨b, off + j, none⟩ by unfold Addr.add; split <;> simp_all]
   exact hc
  obtain ⟨v', w', hrun, h2, h3, _, h5⟩ := run_append_own_at (P := P) w B t ty e i z 1 bytes ht hi hi1 hi2 hi3 hz (by omega) v xs.length xs hown ad ys.length c ys (by omega) hcells h1 h63 hlen hB
  refine ⟨v', w', hrun, ?_, h3, h5⟩
  unfold Own
  rw [List.length_append]
  exact h2
theorem wp_app {o : Oper} {a : Act} {K : Act → World → Prop} {Q : Exit → Act → World → Prop} (s x : Operand) (t : TypeId)
  (ho : o.op = .call { callee := .builtin .append, args := #[s, x], argTypes := #[t, t] })
  (B : Nat) (e : TypeId) (z : Value) (bytes : Nat) (ht : P.underlying t = some (.slice e)) (hinfo : (P.info? e).map (fun i => (i.zero, i.size, i.bytes)) = some (some z, 1, bytes)) (hz : z.cells.size = 1) (hb : 0 < bytes)
  (v : Value) (xs : List Value) (hs : a.eval s = v) (hown : Own w B e v xs) (A : Option Addr) (m c : Nat) (ys : List Value) (hx : a.eval x = .slice A m c) (hm : ys.length = m) (hr : Row w A ys) (h1 : ∀ u ∈ ys, u.oneCell' = true)
  (hlen : (xs.length + m) * bytes ≤ 140737488355328) (hB : B ≤ w.heap.size)
  (h : ∀ v' w', Own w' B e v' (xs ++ ys) → w.grownBy w' v.ownBlock → (v'.ownBlock = v.ownBlock ∨ v'.ownBlock = some w.heap.size) → K (a.put o.dst v') w') : o.wp P a w K Q := by
 obtain ⟨v', w', hrun, h2, h3, h4⟩ := run_app (P := P) w B t o.type e z bytes ht hinfo hz v xs hown A m c ys hm hr h1 hb hlen hB
 unfold Oper.wp execOp
 simp only [ho, resolve, invoke, builtin, Sem.run_bind, Sem.run_pure, Result.andThen_ok, List.map_toArray, List.map_cons, List.map_nil, hs, hx, hrun]
 exact h v' w' h2 h3 h4
theorem wpList_app {ops : Array Oper} {rest : List Oper} {o : Oper} {a : Act} {Q : Exit → Act → World → Prop} (hgd : o.guard = none) (s x : Operand) (t : TypeId)
  (ho : o.op = .call { callee := .builtin .append, args := #[s, x], argTypes := #[t, t] })
  (B : Nat) (e : TypeId) (z : Value) (bytes : Nat) (ht : P.underlying t = some (.slice e)) (hinfo : (P.info? e).map (fun i => (i.zero, i.size, i.bytes)) = some (some z, 1, bytes)) (hz : z.cells.size = 1) (hb : 0 < bytes)
  (v : Value) (xs : List Value) (hs : a.eval s = v) (hown : Own w B e v xs) (A : Option Addr) (m c : Nat) (ys : List Value) (hx : a.eval x = .slice A m c) (hm : ys.length = m) (hr : Row w A ys) (h1 : ∀ u ∈ ys, u.oneCell' = true)
  (hlen : (xs.length + m) * bytes ≤ 140737488355328) (hB : B ≤ w.heap.size)
  (h : ∀ v' w', Own w' B e v' (xs ++ ys) → w.grownBy w' v.ownBlock → (v'.ownBlock = v.ownBlock ∨ v'.ownBlock = some w.heap.size) → wpList P ops Q rest (a.put o.dst v') w') : wpList P ops Q (o :: rest) a w :=
 wpList_plain hgd fun _ hK => wp_app w s x t ho B e z bytes ht hinfo hz hb v xs hs hown A m c ys hx hm hr h1 hlen hB fun v' w' h2 h3 h4 => hK _ _ (h v' w' h2 h3 h4)
end
theorem Own.grew {w w' : World} {B : Nat} {e : TypeId} {v : Value} {xs : List Value} (h : Own w B e v xs) (hB : B ≤ w.heap.size) (hg : w.grownBy w' v.ownBlock) : Below B w w' :=
 (Below.refl B w).grown hg hB (fun _ hk => (h.lt _ hk).1)
theorem bv_one (l : List Nat) : ∀ u ∈ bv l, u.oneCell' = true := by
 intro u hu; obtain ⟨n, _, rfl⟩ := List.mem_map.1 hu; rfl
theorem Row.new (w : World) (cs : Array Value) (t : TypeId) (fr : Nat × Nat) : Row (w.alloc (.cells cs t fr)) (some ⟨w.heap.size, 0, none⟩) cs.toList := by
 intro k v hv
 refine ⟨w.heap.size, 0, rfl, ?_⟩
 have h : (w.alloc (.cells cs t fr)).heap[w.heap.size]? = some (.cells cs t fr) := heap_alloc_new w _
 rw [Nat.zero_add]
 simp only [World.cell?, h]
 simpa using hv
theorem Row.all {w : World} {b : Nat} {t : TypeId} {cs : Array Value} (h : Block w b t cs) : Row w (some ⟨b, 0, none⟩) cs.toList := by
 intro k v hv
 exact ⟨b, 0, rfl, by rw [Nat.zero_add, h.cell]; simpa using hv⟩
theorem Below.drewN' {B : Nat} {a w : World} (h : Below B a w) (n : Nat) : Below B a (w.drewN n) := ⟨h.os, h.tape, h.output, h.size, h.block⟩
theorem take_succ' {α : Type} (l : List α) {k : Nat} (hk : k < l.length) : l.take (k + 1) = l.take k ++ [l[k]] := by
 rw [List.take_succ_eq_append_getElem hk]
end Go.Proofs.YtjoghbmedfmioaaGreat

namespace Go.Proofs.YtjoghbmedfmioaaGreat
open Go.RowKit
section
variable {w w' : World} {B : Nat} {e : TypeId} {v : Value} {xs : List Value} {g c n : Nat}
theorem Own.form1 (h : Own w B e v xs) (h0 : 0 < xs.length) : ∃ g c, v = .slice (some ⟨g, 0, none⟩) xs.length c ∧ B ≤ g ∧ g < w.heap.size ∧ xs.length ≤ c := by
 have hh := h.lt
 rcases h.2 with ⟨rfl, hn⟩ | ⟨g, cap, cur, rfl, h1, h2, h3, _⟩
 ·omega
 ·exact ⟨g, cap, rfl, h1, (hh g rfl).2, h3⟩
theorem Own.cellAt (h : Own w B e (.slice (some ⟨g, 0, none⟩) n c) xs) (hn : xs.length = n) (k : Nat) (hk : k < xs.length) : w.cell? ⟨g, k, none⟩ = some xs[k] := by
 subst hn
 rw [World.ownsRow.cellAt h k (by omega)]; exact List.getElem?_eq_getElem hk
theorem Own.frozenAt (h : Own w B e (.slice (some ⟨g, 0, none⟩) n c) xs) (hn : xs.length = n) (k : Nat) : w.frozen? ⟨g, k, none⟩ = false := by
 subst hn
 exact World.ownsRow.frozenAt h k
theorem Own.set_ (h : Own w B e (.slice (some ⟨g, 0, none⟩) n c) xs) (hn : xs.length = n) (k : Nat) (u : Value) : Own (w.setCell ⟨g, k, none⟩ u) B e (.slice (some ⟨g, 0, none⟩) n c) (xs.set k u) := by
 subst hn
 have := (World.ownsRow.stored h k u).1
 unfold Own
 rw [List.length_set]
 exact this
theorem Own.blk (h : Own w B e (.slice (some ⟨g, 0, none⟩) n c) xs) : B ≤ g ∧ g < w.heap.size := h.lt g rfl
theorem Own.far (h : Own w B e v xs) {p : Addr} (hp : v.ownBlock ≠ some p.block) (u : Value) : Own (w.setCell p u) B e v xs :=
 h.grown (row := some p.block) ⟨rfl, rfl, rfl, by simp [World.setCell], fun k _ hk => Below.heap_setCell _ _ _ _ (fun e => hk (by rw [e]))⟩ (.inr hp)
end
theorem bv_get (l : List Nat) (k : Nat) (hk : k < (bv l).length) : (bv l)[k] = .int .u8 ((l[k]'(by rwa [bv_length] at hk) : Nat) : Int) := by simp [bv]
end Go.Proofs.YtjoghbmedfmioaaGreat

namespace Go.Proofs.YtjoghbmedfmioaaGreat
open Go.RowKit
structure Past (B g : Nat) (w w' : World) : Prop where
 os : w'.os = w.os
 tape : w'.tape = w.tape
 output : w'.output = w.output
 size : w.heap.size ≤ w'.heap.size
 block : ∀ k, k < B → k ≠ g → w'.heap[k]? = w.heap[k]?
section
variable {B g : Nat} {a w w' : World}
theorem Past.refl (B g : Nat) (w : World) : Past B g w w := ⟨rfl, rfl, rfl, Nat.le_refl _, fun _ _ _ => rfl⟩
theorem Past.trans (h : Past B g a w) (k : Past B g w w') : Past B g a w' :=
 ⟨k.os.trans h.os, k.tape.trans h.tape, k.output.trans h.output, Nat.le_trans h.size k.size, fun i hi hn => (k.block i hi hn).trans (h.block i hi hn)⟩
theorem Past.of_below (h : Below B a w) (g : Nat) : Past B g a w := ⟨h.os, h.tape, h.output, h.size, fun i hi _ => h.block i hi⟩
theorem Past.mono {B' : Nat} (h : Past B g a w) (hB : B' ≤ B) : Past B' g a w := ⟨h.os, h.tape, h.output, h.size, fun i hi hn => h.block i (by omega) hn⟩
theorem Past.drew (h : Past B g a w) : Past B g a w.drew := ⟨h.os, h.tape, h.output, h.size, h.block⟩
theorem Past.drewN (h : Past B g a w) (n : Nat) : Past B g a (w.drewN n) := ⟨h.os, h.tape, h.output, h.size, h.block⟩
theorem Past.alloc (h : Past B g a w) (hB : B ≤ w.heap.size) (o : Obj) : Past B g a (w.alloc o) := h.trans (Past.of_below ((Below.refl B w).alloc hB o) g)
theorem Past.setCell (h : Past B g a w) {p : Addr} (hp : p.block = g ∨ B ≤ p.block) (u : Value) : Past B g a (w.setCell p u) :=
 h.trans ⟨rfl, rfl, rfl, by simp [World.setCell], fun k hk hn => Below.heap_setCell _ _ _ _ (by intro e; subst e; rcases hp with rfl | hp <;> omega)⟩
theorem Past.below (h : Past B g a w) (hB : B ≤ g) : Below B a w := ⟨h.os, h.tape, h.output, h.size, fun i hi => h.block i hi (by omega)⟩
theorem Past.grown {row : Option Nat} (h : Past B g a w) (hw : w.grownBy w' row) (hB : B ≤ w.heap.size) (hr : ∀ k, row = some k → B ≤ k) : Past B g a w' :=
 h.trans (Past.of_below ((Below.refl B w).grown hw hB hr) g)
theorem Block.past {t : TypeId} {cs : Array Value} {b : Nat} (h : Block w b t cs) (hp : Past B g w w') (hb : b < B) (hn : b ≠ g) : Block w' b t cs := (hp.block b hb hn).trans h
end
end Go.Proofs.YtjoghbmedfmioaaGreat

namespace Go.Proofs.YtjoghbmedfmioaaGreat.Once
open Go.RowKit
theorem disable (w : World) : (callFunc 191 #[]).run Tryz.prog w = .ok (.value (.tuple #[])) w := run_call_mark0 Tryz.func191 (by kernel_rfl) (by kernel_rfl) (by kernel_rfl) .disable (by kernel_rfl) w
theorem enable (w : World) : (callFunc 193 #[]).run Tryz.prog w = .ok (.value (.tuple #[])) w := run_call_mark0 Tryz.func193 (by kernel_rfl) (by kernel_rfl) (by kernel_rfl) .enable (by kernel_rfl) w
theorem acquire (a : Addr) (w : World) : (callFunc 194 #[.pointer (some a)]).run Tryz.prog w = .ok (.value (.tuple #[])) w := run_call_marked Tryz.func194 (by kernel_rfl) (by kernel_rfl) (by kernel_rfl) .acquire (by kernel_rfl) a w
theorem releaseMerge (a : Addr) (w : World) : (callFunc 196 #[.pointer (some a)]).run Tryz.prog w = .ok (.value (.tuple #[])) w := run_call_marked Tryz.func196 (by kernel_rfl) (by kernel_rfl) (by kernel_rfl) .releaseMerge (by kernel_rfl) a w
theorem store_deferred (a : Addr) (x : Value) (u : FrameMode) (w : World) (hc : w.cell? a = some x) (hz : w.frozen? a = false) :
  CallsD Tryz.prog 172 #[.pointer (some a), .bool true] u w fun e u' w' => u' = u ∧ (e = .returned (.tuple #[]) ∧ w' = w.drew.setCell a (.int .u32 1)) := by
 have hc' : w.drew.cell? a = some x := by go_simp
 have hz' : w.drew.frozen? a = false := by go_simp
 have hst := run_call_store (P := Tryz.prog) Tryz.func184 (by kernel_rfl) (by kernel_rfl) (by kernel_rfl) (by kernel_rfl) (k := .u32) (y := 1) hc' hz'
 go_enter_d Tryz.func172, Tryz.ntmps172
 go_wp2
 go_region_calls
 all_goals (go_end0; exact ⟨rfl, rfl⟩)
set_option maxRecDepth 100000 in
theorem unlock_deferred (a : Addr) (u : FrameMode) (w : World) (hc : w.cell? a = some (.int .i32 1)) (hz : w.frozen? a = false) :
  CallsD Tryz.prog 171 #[.pointer (some a)] u w fun e u' w' => u' = u ∧ (e = .returned (.tuple #[]) ∧ w' = w.setCell a (.int .i32 0)) := by
 have hd := disable
 have he := enable
 have hr := releaseMerge
 have hadd := run_call_add (P := Tryz.prog) Tryz.func197 (by kernel_rfl) (by kernel_rfl) (by kernel_rfl) .i32 (by kernel_rfl) (y := -1) (s := 0) hc hz (by simp [go_sem]; rfl)
 have hcv := run_convert_to_unsafe (P := Tryz.prog) (src := 248) (dst := 252) Tryz.underlying248 Tryz.underlying252 (by kernel_rfl) hc
 go_enter_d Tryz.func171, Tryz.ntmps171
 go_wp2
 go_end0
 go_wp2
 go_end0
 exact ⟨rfl, rfl⟩
set_option maxRecDepth 100000 in
theorem lock_free (a : Addr) (w : World) (hc : w.cell? a = some (.int .i32 0)) (hz : w.frozen? a = false) :
  Calls Tryz.prog 170 #[.pointer (some a)] w fun e w' => e = .returned (.tuple #[]) ∧ w' = w.setCell a (.int .i32 1) := by
 have hd := disable
 have he := enable
 have ha := acquire
 have hcas := run_call_cas_hit (P := Tryz.prog) Tryz.func192 (by kernel_rfl) (by kernel_rfl) (by kernel_rfl) .i32 (by kernel_rfl) (y := 1) hc hz
 have hc' : (w.setCell a (.int .i32 1)).cell? a = some (.int .i32 1) := World.cell?_setCell_same w a _ hc
 have hcv := run_convert_to_unsafe (P := Tryz.prog) (src := 248) (dst := 252) Tryz.underlying248 Tryz.underlying252 (by kernel_rfl) hc'
 go_enter Tryz.func170, Tryz.ntmps170
 go_wp2
 first | go_end0 | (simp only [Exit.inBlock, Exit.then]; refine bodyPost_ret (results_none rfl _ _ _) rfl ?_) | refine bodyPost_ret (results_none rfl _ _ _) rfl ?_
 go_wp2
 go_end0
 exact ⟨rfl, rfl⟩
theorem do_done (a : Addr) (d : Int) (hd : ¬ d = 0) (fv : Value) (w : World) (h0 : w.cell? a = some (.int .u32 d)) :
  Calls Tryz.prog 103 #[.pointer (some a), fv] w fun e w' => e = .returned (.tuple #[]) ∧ w' = w := by
 have hl := run_call_load (P := Tryz.prog) Tryz.func169 (by kernel_rfl) (by kernel_rfl) (by kernel_rfl) .u32 (by kernel_rfl) h0
 have hnot : ∀ (x : Bool) (w : World), (Op.unary .not (.bool x)).run Tryz.prog w = .ok (.bool (!x)) w := fun _ _ => rfl
 have hd' : (d != 0) = true := by simp [hd]
 go_enter Tryz.func103, Tryz.ntmps103
 go_wp2
 go_end0
 exact ⟨rfl, rfl⟩
end Go.Proofs.YtjoghbmedfmioaaGreat.Once

namespace Go.Proofs.YtjoghbmedfmioaaGreat.GF
def gx (n : Nat) : Nat := if 256 ≤ 2 * n then (2 * n) ^^^ 285 else 2 * n
def gp : Nat → Nat
 | 0 => 1
 | n + 1 => gx (gp n)
def lt : List Nat := [
 0, 0, 1, 25, 2, 50, 26, 198, 3, 223, 51, 238, 27, 104, 199, 75, 4, 100, 224, 14, 52, 141, 239, 129, 28, 193, 105, 248, 200, 8, 76, 113,
 5, 138, 101, 47, 225, 36, 15, 33, 53, 147, 142, 218, 240, 18, 130, 69, 29, 181, 194, 125, 106, 39, 249, 185, 201, 154, 9, 120, 77, 228, 114, 166,
 6, 191, 139, 98, 102, 221, 48, 253, 226, 152, 37, 179, 16, 145, 34, 136, 54, 208, 148, 206, 143, 150, 219, 189, 241, 210, 19, 92, 131, 56, 70, 64,
 30, 66, 182, 163, 195, 72, 126, 110, 107, 58, 40, 84, 250, 133, 186, 61, 202, 94, 155, 159, 10, 21, 121, 43, 78, 212, 229, 172, 115, 243, 167, 87,
 7, 112, 192, 247, 140, 128, 99, 13, 103, 74, 222, 237, 49, 197, 254, 24, 227, 165, 153, 119, 38, 184, 180, 124, 17, 68, 146, 217, 35, 32, 137, 46,
 55, 63, 209, 91, 149, 188, 207, 205, 144, 135, 151, 178, 220, 252, 190, 97, 242, 86, 211, 171, 20, 42, 93, 158, 132, 60, 57, 83, 71, 109, 65, 162,
 31, 45, 67, 216, 183, 123, 164, 118, 196, 23, 73, 236, 127, 12, 111, 246, 108, 161, 59, 82, 41, 157, 85, 170, 251, 96, 134, 177, 187, 204, 62, 90,
 203, 89, 95, 176, 156, 169, 160, 81, 11, 245, 22, 235, 122, 117, 44, 215, 79, 174, 213, 233, 230, 231, 173, 232, 116, 214, 244, 234, 168, 80, 88, 175]
def gl (a : Nat) : Nat := lt.getD a 0
def gm (a b : Nat) : Nat := if a = 0 then 0 else if b = 0 then 0 else gp ((gl a + gl b) % 255)
theorem xor_swap (a b c d : Nat) : (a ^^^ b) ^^^ (c ^^^ d) = (a ^^^ c) ^^^ (b ^^^ d) := by
 rw [Nat.xor_assoc, Nat.xor_assoc, ← Nat.xor_assoc b c d, ← Nat.xor_assoc c b d, Nat.xor_comm b c]
theorem gx_lt' : ∀ n, n < 256 → gx n < 256 := by decide +kernel
theorem gx_lt {n : Nat} (h : n < 256) : gx n < 256 := gx_lt' n h
theorem gp_lt (n : Nat) : gp n < 256 := by
 induction n with
 | zero => decide
 | succ n ih => exact gx_lt ih
theorem gp_255 : gp 255 = 1 := by decide +kernel
theorem gp_add255 (n : Nat) : gp (n + 255) = gp n := by
 induction n with
 | zero => rw [Nat.zero_add]; exact gp_255
 | succ n ih => rw [Nat.succ_add]; show gx (gp (n + 255)) = gx (gp n); rw [ih]
theorem gp_mod (n : Nat) : gp (n % 255) = gp n := by
 induction n using Nat.strongRecOn with
 | ind n ih =>
  rcases Nat.lt_or_ge n 255 with h | h
  ·rw [Nat.mod_eq_of_lt h]
  ·obtain ⟨m, rfl⟩ : ∃ m, n = m + 255 := ⟨n - 255, by omega⟩
   rw [gp_add255, Nat.add_mod_right]; exact ih m (by omega)
theorem gl_gp' : ∀ n, n < 255 → gl (gp n) = n := by decide +kernel
theorem gl_gp (n : Nat) : gl (gp n) = n % 255 := by rw [← gp_mod]; exact gl_gp' _ (by omega)
theorem gp_gl' : ∀ a, a < 256 → a ≠ 0 → gp (gl a) = a := by decide +kernel
theorem gp_gl {a : Nat} (h : a < 256) (h0 : a ≠ 0) : gp (gl a) = a := gp_gl' a h h0
theorem gl_lt' : ∀ a, a < 256 → gl a < 255 := by decide +kernel
theorem gl_lt {a : Nat} (h : a < 256) : gl a < 255 := gl_lt' a h
theorem gp_ne (n : Nat) : gp n ≠ 0 := by
 have h : ∀ n, n < 255 → gp n ≠ 0 := by decide +kernel
 rw [← gp_mod]; exact h _ (by omega)
theorem gp_inj {m n : Nat} (hm : m < 255) (hn : n < 255) (h : gp m = gp n) : m = n := by
 rw [← gl_gp' m hm, ← gl_gp' n hn, h]
theorem gm_lt (a b : Nat) : gm a b < 256 := by
 unfold gm; split; · decide
 split; · decide
 exact gp_lt _
theorem gm_zero (a : Nat) : gm a 0 = 0 := by unfold gm; split <;> rfl
theorem zero_gm (b : Nat) : gm 0 b = 0 := by unfold gm; rfl
theorem gm_pow (m n : Nat) : gm (gp m) (gp n) = gp (m + n) := by
 unfold gm
 rw [if_neg (gp_ne m), if_neg (gp_ne n), gl_gp, gl_gp, ← Nat.add_mod, gp_mod]
theorem gm_eq_zero {a b : Nat} : gm a b = 0 ↔ a = 0 ∨ b = 0 := by
 unfold gm
 by_cases ha : a = 0
 ·simp [ha]
 ·by_cases hb : b = 0
  ·simp [hb]
  ·simp [ha, hb, gp_ne]
theorem pow_of {a : Nat} (h : a < 256) (h0 : a ≠ 0) : ∃ n, n < 255 ∧ a = gp n := ⟨gl a, gl_lt h, (gp_gl h h0).symm⟩
theorem gm_comm (a b : Nat) : gm a b = gm b a := by
 unfold gm
 by_cases ha : a = 0 <;> by_cases hb : b = 0 <;> simp [ha, hb, Nat.add_comm]
theorem gm_assoc {a b c : Nat} (ha : a < 256) (hb : b < 256) (hc : c < 256) : gm (gm a b) c = gm a (gm b c) := by
 by_cases a0 : a = 0
 ·subst a0; simp [zero_gm]
 by_cases b0 : b = 0
 ·subst b0; simp [zero_gm, gm_zero]
 by_cases c0 : c = 0
 ·subst c0; simp [gm_zero]
 obtain ⟨i, _, rfl⟩ := pow_of ha a0
 obtain ⟨j, _, rfl⟩ := pow_of hb b0
 obtain ⟨k, _, rfl⟩ := pow_of hc c0
 rw [gm_pow, gm_pow, gm_pow, gm_pow, Nat.add_assoc]
theorem gm_one {a : Nat} (ha : a < 256) : gm a 1 = a := by
 by_cases a0 : a = 0
 ·subst a0; rfl
 obtain ⟨i, _, rfl⟩ := pow_of ha a0
 exact gm_pow i 0
theorem one_gm {a : Nat} (ha : a < 256) : gm 1 a = a := by rw [gm_comm]; exact gm_one ha
def rmA (a b : Nat) : Nat → Nat
 | 0 => 0
 | k + 1 => if b.testBit k then rmA a b k ^^^ (a <<< k) else rmA a b k
def rmR (n : Nat) : Nat → Nat
 | 0 => n
 | j + 1 => if (rmR n j).testBit (14 - j) then rmR n j ^^^ (285 <<< (6 - j)) else rmR n j
def rm (a b : Nat) : Nat := rmR (rmA a b 8) 7 % 256
theorem rm_lt (a b : Nat) : rm a b < 256 := Nat.mod_lt _ (by decide)
theorem rmA_xor_left (a a' b k : Nat) : rmA (a ^^^ a') b k = rmA a b k ^^^ rmA a' b k := by
 induction k with
 | zero => simp [rmA]
 | succ k ih =>
  simp only [rmA]
  rw [ih, Nat.shiftLeft_xor_distrib]
  cases b.testBit k
  ·rfl
  ·exact xor_swap _ _ _ _
theorem rmA_xor_right (a b b' k : Nat) : rmA a (b ^^^ b') k = rmA a b k ^^^ rmA a b' k := by
 induction k with
 | zero => simp [rmA]
 | succ k ih =>
  simp only [rmA, Nat.testBit_xor]
  rw [ih]
  cases b.testBit k <;> cases b'.testBit k
  ·rfl
  ·simp [Nat.xor_assoc]
  ·simp only [Bool.xor_false, if_true, Bool.false_eq_true, if_false]
   rw [Nat.xor_assoc, Nat.xor_assoc, Nat.xor_comm (a <<< k)]
  ·simp only [Bool.xor_self, if_true, Bool.false_eq_true, if_false]
   rw [xor_swap, Nat.xor_self, Nat.xor_zero]
theorem rmR_xor (n m j : Nat) : rmR (n ^^^ m) j = rmR n j ^^^ rmR m j := by
 induction j with
 | zero => rfl
 | succ j ih =>
  simp only [rmR]
  rw [ih, Nat.testBit_xor]
  generalize 285 <<< (6 - j) = c
  cases (rmR n j).testBit (14 - j) <;> cases (rmR m j).testBit (14 - j)
  ·rfl
  ·simp [Nat.xor_assoc]
  ·simp only [Bool.xor_false, if_true, Bool.false_eq_true, if_false]
   rw [Nat.xor_assoc, Nat.xor_assoc, Nat.xor_comm c]
  ·simp only [Bool.xor_self, if_true, Bool.false_eq_true, if_false]
   rw [xor_swap, Nat.xor_self, Nat.xor_zero]
theorem xor_mod256 (a b : Nat) : (a ^^^ b) % 256 = (a % 256) ^^^ (b % 256) := Nat.xor_mod_two_pow (n := 8)
theorem rm_xor_left (a a' b : Nat) : rm (a ^^^ a') b = rm a b ^^^ rm a' b := by
 unfold rm; rw [rmA_xor_left, rmR_xor, xor_mod256]
theorem rm_xor_right (a b b' : Nat) : rm a (b ^^^ b') = rm a b ^^^ rm a b' := by
 unfold rm; rw [rmA_xor_right, rmR_xor, xor_mod256]
theorem bits_sum : ∀ n, n < 256 → n = ((((((((128 * (n / 128 % 2)) ^^^ (64 * (n / 64 % 2))) ^^^ (32 * (n / 32 % 2))) ^^^ (16 * (n / 16 % 2))) ^^^ (8 * (n / 8 % 2))) ^^^ (4 * (n / 4 % 2))) ^^^ (2 * (n / 2 % 2))) ^^^ (n % 2)) := by decide +kernel
theorem lin_ext (f g : Nat → Nat) (hf : ∀ a b, f (a ^^^ b) = f a ^^^ f b) (hg : ∀ a b, g (a ^^^ b) = g a ^^^ g b)
  (h : ∀ i, i < 8 → f (2 ^ i) = g (2 ^ i)) (n : Nat) (hn : n < 256) : f n = g n := by
 have f0 : f 0 = 0 := by have := hf 0 0; rw [Nat.xor_self, Nat.xor_self] at this; exact this
 have g0 : g 0 = 0 := by have := hg 0 0; rw [Nat.xor_self, Nat.xor_self] at this; exact this
 have hb : ∀ i, i < 8 → ∀ m, f (2 ^ i * (m % 2)) = g (2 ^ i * (m % 2)) := by
  intro i hi m
  rcases Nat.mod_two_eq_zero_or_one m with e | e <;> rw [e]
  ·rw [Nat.mul_zero, f0, g0]
  ·rw [Nat.mul_one]; exact h i hi
 rw [bits_sum n hn]
 rw [hf, hf, hf, hf, hf, hf, hf, hg, hg, hg, hg, hg, hg, hg]
 have b0 := hb 0 (by decide) n; have b1 := hb 1 (by decide) (n / 2); have b2 := hb 2 (by decide) (n / 4); have b3 := hb 3 (by decide) (n / 8)
 have b4 := hb 4 (by decide) (n / 16); have b5 := hb 5 (by decide) (n / 32); have b6 := hb 6 (by decide) (n / 64); have b7 := hb 7 (by decide) (n / 128)
 simp only [Nat.pow_zero, Nat.one_mul] at b0
 rw [show (128 : Nat) = 2 ^ 7 from rfl, show (64 : Nat) = 2 ^ 6 from rfl, show (32 : Nat) = 2 ^ 5 from rfl, show (16 : Nat) = 2 ^ 4 from rfl, show (8 : Nat) = 2 ^ 3 from rfl, show (4 : Nat) = 2 ^ 2 from rfl] at *
 rw [show f (2 * (n / 2 % 2)) = g (2 * (n / 2 % 2)) from b1, b0, b2, b3, b4, b5, b6, b7]
def gx' (n : Nat) : Nat := (2 * n) ^^^ (285 * (n / 128 % 2))
theorem gx_eq : ∀ n, n < 256 → gx n = gx' n := by decide +kernel
theorem mul_mod_xor (p a b : Nat) : p * ((a ^^^ b) % 2) = (p * (a % 2)) ^^^ (p * (b % 2)) := by
 have h : (a ^^^ b) % 2 = (a % 2) ^^^ (b % 2) := Nat.xor_mod_two_pow (n := 1)
 rw [h]
 rcases Nat.mod_two_eq_zero_or_one a with ha | ha <;> rcases Nat.mod_two_eq_zero_or_one b with hb | hb <;> rw [ha, hb] <;> simp
theorem gx'_xor (a b : Nat) : gx' (a ^^^ b) = gx' a ^^^ gx' b := by
 have h2 : 2 * (a ^^^ b) = (2 * a) ^^^ (2 * b) := by
  have := Nat.shiftLeft_xor_distrib (a := a) (b := b) (i := 1)
  simpa [Nat.shiftLeft_eq, Nat.mul_comm] using this
 unfold gx'
 rw [h2, show (a ^^^ b) / 128 = (a / 128) ^^^ (b / 128) from Nat.xor_div_two_pow (n := 7), mul_mod_xor, xor_swap]
theorem rm_gx {a b : Nat} (ha : a < 256) (hb : b < 256) : rm a (gx b) = gx (rm a b) := by
 rw [gx_eq b hb, gx_eq _ (rm_lt a b)]
 refine lin_ext (fun b => rm a (gx' b)) (fun b => gx' (rm a b)) (fun x y => ?_) (fun x y => ?_) (fun i hi => ?_) b hb
 ·show rm a (gx' (x ^^^ y)) = _
  rw [gx'_xor, rm_xor_right]
 ·show gx' (rm a (x ^^^ y)) = _
  rw [rm_xor_right, gx'_xor]
 ·refine lin_ext (fun a => rm a (gx' (2 ^ i))) (fun a => gx' (rm a (2 ^ i))) (fun x y => ?_) (fun x y => ?_) (fun j hj => ?_) a ha
  ·exact rm_xor_left _ _ _
  ·show gx' (rm (x ^^^ y) _) = _
   rw [rm_xor_left, gx'_xor]
  ·revert i j
   have : ∀ i, i < 8 → ∀ j, j < 8 → rm (2 ^ j) (gx' (2 ^ i)) = gx' (rm (2 ^ j) (2 ^ i)) := by decide +kernel
   exact fun i hi j hj => this i hi j hj
theorem rm_one : ∀ a, a < 256 → rm a 1 = a := by decide +kernel
theorem rm_pow {a : Nat} (ha : a < 256) (n : Nat) : rm a (gp n) = gm a (gp n) := by
 induction n with
 | zero => rw [show gp 0 = 1 from rfl, rm_one a ha, gm_one ha]
 | succ n ih =>
  show rm a (gx (gp n)) = gm a (gp (n + 1))
  rw [rm_gx ha (gp_lt n), ih]
  by_cases a0 : a = 0
  ·subst a0; rw [zero_gm, zero_gm]; rfl
  obtain ⟨i, _, rfl⟩ := pow_of ha a0
  rw [gm_pow, gm_pow]; rfl
theorem rm_zero (a : Nat) : rm a 0 = 0 := by
 have := rm_xor_right a 0 0
 rw [Nat.xor_self, Nat.xor_self] at this; exact this
theorem rm_eq {a b : Nat} (ha : a < 256) (hb : b < 256) : rm a b = gm a b := by
 by_cases b0 : b = 0
 ·subst b0; rw [rm_zero, gm_zero]
 obtain ⟨n, _, rfl⟩ := pow_of hb b0
 exact rm_pow ha n
theorem gm_add {a b c : Nat} (ha : a < 256) (hb : b < 256) (hc : c < 256) : gm a (b ^^^ c) = gm a b ^^^ gm a c := by
 rw [← rm_eq ha (Nat.xor_lt_two_pow (n := 8) hb hc), ← rm_eq ha hb, ← rm_eq ha hc, rm_xor_right]
theorem add_gm {a b c : Nat} (ha : a < 256) (hb : b < 256) (hc : c < 256) : gm (a ^^^ b) c = gm a c ^^^ gm b c := by
 rw [gm_comm, gm_add hc ha hb, gm_comm c a, gm_comm c b]
theorem xor_lt {a b : Nat} (ha : a < 256) (hb : b < 256) : a ^^^ b < 256 := Nat.xor_lt_two_pow (n := 8) ha hb
def gq (a b : Nat) : Nat := if a = 0 then 0 else gp ((gl a + (255 - gl b)) % 255)
theorem gq_lt (a b : Nat) : gq a b < 256 := by
 unfold gq
 split
 ·decide
 ·exact gp_lt _
theorem gq_gm {a b : Nat} (ha : a < 256) (hb : b < 256) (h0 : b ≠ 0) : gq (gm a b) b = a := by
 by_cases a0 : a = 0
 ·subst a0; rw [zero_gm]; rfl
 obtain ⟨i, hi, rfl⟩ := pow_of ha a0
 obtain ⟨j, hj, rfl⟩ := pow_of hb h0
 unfold gq
 rw [gm_pow, if_neg (gp_ne _), gl_gp, gl_gp' j hj, gp_mod]
 rw [← gp_mod i, ← gp_mod]
 congr 1; omega
theorem gm_gq {a b : Nat} (ha : a < 256) (hb : b < 256) (h0 : b ≠ 0) : gm (gq a b) b = a := by
 by_cases a0 : a = 0
 ·subst a0; exact zero_gm b
 obtain ⟨i, hi, rfl⟩ := pow_of ha a0
 obtain ⟨j, hj, rfl⟩ := pow_of hb h0
 unfold gq
 rw [if_neg (gp_ne _), gm_pow, gl_gp' i hi, gl_gp' j hj, ← gp_mod]
 congr 1; omega
def ge (n : Int) : Nat := gp (n % 255).toNat
theorem ge_nat (n : Nat) : ge n = gp n := by
 unfold ge; rw [← gp_mod n]; congr 1
theorem ge_add (m n : Int) : ge (m + n) = gm (ge m) (ge n) := by
 unfold ge
 rw [gm_pow, ← gp_mod ((m % 255).toNat + (n % 255).toNat)]
 congr 1; omega
def gpow (a : Nat) (n : Int) : Nat := if n = 0 then 1 else if a = 0 then 0 else ge (gl a * n)
theorem gpow_of {a : Nat} (h0 : a ≠ 0) (n : Int) : gpow a n = ge (gl a * n) := by
 unfold gpow
 split
 ·rename_i h; subst h; rw [Int.mul_zero]; rfl
 ·rfl
theorem ge_mul_mod (a n : Int) : ge (a * (n % 255)) = ge (a * n) := by
 unfold ge; rw [Int.mul_emod, Int.emod_emod, ← Int.mul_emod]
def gord (a : Nat) : Nat := if a = 0 then 0 else 255 / Nat.gcd 255 (gl a)
end Go.Proofs.YtjoghbmedfmioaaGreat.GF

namespace Go.Proofs.YtjoghbmedfmioaaGreat.GF
open Go.RowKit
theorem i64_xor (a b : Nat) (ha : a < 9223372036854775808) (hb : b < 9223372036854775808) : bits .xor .i64 (a : Int) (b : Int) = ((a ^^^ b : Nat) : Int) := by
 have hx : a ^^^ b < 2 ^ 63 := Nat.xor_lt_two_pow (by omega) (by omega)
 have h1 : (BitVec.ofInt 64 (a : Int)).toNat = a := by
  rw [BitVec.ofInt_natCast, BitVec.toNat_ofNat]; exact Nat.mod_eq_of_lt (by omega)
 have h2 : (BitVec.ofInt 64 (b : Int)).toNat = b := by
  rw [BitVec.ofInt_natCast, BitVec.toNat_ofNat]; exact Nat.mod_eq_of_lt (by omega)
 show IntKind.i64.wrap ((BitVec.ofInt 64 (a : Int) ^^^ BitVec.ofInt 64 (b : Int)).toNat : Int) = _
 rw [BitVec.toNat_xor, h1, h2]
 exact IntWalk.i64_in _ (by omega)
theorem u8_xor' (a b : Nat) (ha : a < 256) (hb : b < 256) : bits .xor .u8 (a : Int) (b : Int) = ((a ^^^ b : Nat) : Int) := u8_xor_nat a b ha hb
theorem ret_bool {a b : Bool} (h : a = b) : Ending.returned (.bool a) = .returned (.bool b) := by rw [h]
theorem ret_int {k : IntKind} {a b : Int} (h : a = b) : Ending.returned (.int k a) = .returned (.int k b) := by rw [h]
theorem ret_nat {k : IntKind} {a b : Nat} (h : a = b) : Ending.returned (.int k (a : Int)) = .returned (.int k (b : Int)) := by rw [h]
theorem ret_pair {k : IntKind} {a b : Nat} {c : Bool} (h : a = b) : Ending.returned (.tuple #[.int k (a : Int), .bool c]) = .returned (.tuple #[.int k (b : Int), .bool c]) := by rw [h]
theorem tmod255 (n : Int) : n.tmod 255 = if 0 ≤ n then n % 255 else -((-n) % 255) := by
 split
 ·exact Int.tmod_eq_emod_of_nonneg (by assumption)
 ·have h := Int.neg_tmod (-n) 255
  rw [Int.neg_neg] at h
  rw [h, Int.tmod_eq_emod_of_nonneg (by omega)]
end Go.Proofs.YtjoghbmedfmioaaGreat.GF

namespace Go.Proofs.YtjoghbmedfmioaaGreat.GF
open Go.RowKit
def fc (d s : Int) (k i : Nat) : Value :=
 if i = 0 then .int .u32 d else if i = 1 then .int .i32 s else if i = 2 then .int .u32 0
 else if i < 258 then .int .u8 ((if i - 3 < k then gp (i - 3) else 0 : Nat) : Int)
 else .int .u8 ((if gl (i - 258) < k ∧ i ≠ 258 then gl (i - 258) else 0 : Nat) : Int)
def fcells (d s : Int) (k : Nat) : Array Value := Array.ofFn (n := 514) fun i => fc d s k i
theorem zero_field (w : World) : (zeroValue 81).run Tryz.prog w = .ok (.agg (fcells 0 0 0)) w := by kernel_rfl
theorem new_calls (w : World) : Calls Tryz.prog 12 #[] w fun e w' => e = .returned (.pointer (some ⟨w.heap.size, 0, none⟩)) ∧ w' = w.alloc (.cells (fcells 0 0 0) 81) := by
 have hz := zero_field w
 go_enter Tryz.func12, Tryz.ntmps12
 go_wp2
 go_ret
 exact ⟨rfl, rfl⟩
set_option maxRecDepth 100000 in
set_option maxHeartbeats 400000 in
theorem timesG_calls (n : Nat) (hn : n < 256) (w : World) :
  Calls Tryz.prog 105 #[.int .i64 n] w fun e w' => e = .returned (.int .i64 (gx n)) ∧ w' = w := by
 have HX := Lib.hid (i64_xor (2 * n) 285 (by omega) (by omega))
 go_enter Tryz.func105, Tryz.ntmps105
 go_wp2
 all_goals
  go_ret
  refine ⟨ret_int ?_, rfl⟩
  unfold gx
 ·rw [if_pos (by omega), ← HX.out, show ((2 * n : Nat) : Int) = (n : Int) * 2 by omega]; rfl
 ·rw [if_neg (by omega)]; omega
theorem fcells_get (d s : Int) (k i : Nat) (hi : i < 514) : (fcells d s k)[i]? = some (fc d s k i) := by
 unfold fcells; rw [Array.getElem?_ofFn, dif_pos hi]
theorem fcells_set (d s d' s' : Int) (k k' j : Nat) (v : Value) (hv : ∀ i, i < 514 → fc d' s' k' i = if i = j then v else fc d s k i) : (fcells d s k).setIfInBounds j v = fcells d' s' k' := by
 apply Array.ext
 ·simp [fcells]
 ·intro i h1 h2
  have hi : i < 514 := by simpa [fcells] using h2
  rw [Array.getElem_setIfInBounds (by simpa [fcells] using hi)]
  simp only [fcells, Array.getElem_ofFn]
  rw [hv i hi]
  by_cases h : j = i
  ·rw [if_pos h, if_pos h.symm]
  ·rw [if_neg h, if_neg (fun e => h e.symm)]
theorem fcells_round (d s : Int) (k : Nat) (hk : k < 255) : ((fcells d s k).setIfInBounds (3 + k) (.int .u8 (gp k : Nat))).setIfInBounds (258 + gp k) (.int .u8 (k : Nat)) = fcells d s (k + 1) := by
 apply Array.ext
 ·simp [fcells]
 ·intro i h1 h2
  have hi : i < 514 := by simpa [fcells] using h2
  rw [Array.getElem_setIfInBounds (by simpa [fcells] using hi), Array.getElem_setIfInBounds (by simpa [fcells] using hi)]
  simp only [fcells, Array.getElem_ofFn]
  have hg := gp_lt k
  have h0 := gp_ne k
  unfold fc
  by_cases i0 : i = 0
  ·subst i0; rw [if_neg (by omega), if_neg (by omega)]; rfl
  by_cases i1 : i = 1
  ·subst i1; rw [if_neg (by omega), if_neg (by omega)]; rfl
  by_cases i2 : i = 2
  ·subst i2; rw [if_neg (by omega), if_neg (by omega)]; rfl
  simp only [if_neg i0, if_neg i1, if_neg i2]
  by_cases i3 : i < 258
  ·simp only [if_pos i3]
   rw [if_neg (by omega)]
   by_cases e : 3 + k = i
   ·rw [if_pos e, show i - 3 = k by omega, if_pos (by omega)]
   ·rw [if_neg e]
    by_cases h : i - 3 < k
    ·rw [if_pos h, if_pos (by omega)]
    ·rw [if_neg h, if_neg (by omega)]
  ·simp only [if_neg i3]
   by_cases e : 258 + gp k = i
   ·rw [if_pos e, show i - 258 = gp k by omega, gl_gp' k hk, if_pos ⟨by omega, by omega⟩]
   ·rw [if_neg e, if_neg (by omega)]
    have hne : i ≠ 258 → gl (i - 258) ≠ k := fun h e2 => e (by rw [← e2, gp_gl (by omega) (by omega)]; omega)
    by_cases h : i = 258
    ·rw [if_neg (by omega), if_neg (by omega)]
    ·have := hne h
     by_cases h2 : gl (i - 258) < k
     ·rw [if_pos ⟨h2, h⟩, if_pos ⟨by omega, h⟩]
     ·rw [if_neg (by omega), if_neg (by omega)]
set_option maxRecDepth 100000 in
set_option maxHeartbeats 1000000 in
theorem fill_calls (g : Nat) (pl : Addr) (hpb : pl.block ≠ g) (w : World) (hp : w.cell? pl = some (.pointer (some ⟨g, 0, none⟩))) (hB : Block w g 81 (fcells 0 1 0)) :
  Calls Tryz.prog 104 #[.pointer (some pl)] w fun e w' => e = .returned (.tuple #[]) ∧ Block w' g 81 (fcells 0 1 255) ∧ Past w.heap.size g w w' ∧ w'.heap.size = w.heap.size := by
 have HB := Lib.hid hB
 clear hB
 go_enter Tryz.func104, Tryz.ntmps104
 go_wp2
 go_loopw [1, 3] (fun el i wr => ∃ k : Nat, k ≤ 255 ∧ i = .int .i64 k ∧ el = .int .i64 (gp k : Nat) ∧ Past w.heap.size g w wr ∧ Hid (wr.heap.size = w.heap.size) ∧ Hid (Block wr g 81 (fcells 0 1 k))) (fun _ i _ => 255 - (intOf i).toNat)
 case atStart => exact ⟨0, by omega, rfl, rfl, Past.refl _ _ _, Lib.hid rfl, HB⟩
 case round =>
  clear HB
  obtain ⟨k, hk, rfl, rfl, HP, HS, HB⟩ := hrel
  have hpl : wr.cell? pl = some (.pointer (some ⟨g, 0, none⟩)) := (World.cell?_of_block (HP.block pl.block (cell_lt hp) hpb)).trans hp
  by_cases hlt : k < 255
  ·have hc1 := (HB.out.cell (3 + k)).trans (fcells_get _ _ _ (3 + k) (by omega))
   have hf1 := HB.out.frozen (3 + k)
   have hf2 := HB.out.frozen (258 + gp k)
   have hg := gp_lt k
   have HB2 := Lib.hid (HB.out.set_ (3 + k) (.int .u8 (gp k : Nat)))
   have hpl2 : (wr.setCell ⟨g, 3 + k, none⟩ (.int .u8 (gp k : Nat))).cell? pl = some (.pointer (some ⟨g, 0, none⟩)) := (World.cell?_setCell_other _ _ _ _ (fun h => hpb (by rw [← h]))).trans hpl
   have hc2 : (wr.setCell ⟨g, 3 + k, none⟩ (.int .u8 (gp k : Nat))).cell? ⟨g, 258 + gp k, none⟩ = some (fc 0 1 k (258 + gp k)) := by
    rw [HB2.out.cell, Array.getElem?_setIfInBounds_ne (by omega)]; exact fcells_get _ _ _ _ (by omega)
   go_wp2_with (go_at_call 105; refine (timesG_calls _ (by assumption) _).mono ?_; rintro e w' ⟨rfl, rfl⟩)
   go_roundw
   case rel => exact ⟨k + 1, by omega, by go_num, rfl, (HP.setCell (.inl rfl) _).setCell (.inl rfl) _, Lib.hid (by simp [World.setCell]; exact HS.out), by rw [← fcells_round 0 1 k hlt]; exact HB2.out.set_ _ _⟩
   case measure => simp [intOf]; omega
  ·obtain rfl : k = 255 := by omega
   go_wp2
   go_end0
   exact ⟨rfl, HB.out, HP, HS.out⟩
theorem setState (d s s' : Int) (k : Nat) : (fcells d s k).setIfInBounds 1 (.int .i32 s') = fcells d s' k :=
 fcells_set d s d s' k k 1 _ (fun i _ => by unfold fc; by_cases h : i = 1 <;> simp [h])
theorem setDone (d s d' : Int) (k : Nat) : (fcells d s k).setIfInBounds 0 (.int .u32 d') = fcells d' s k :=
 fcells_set d s d' s k k 0 _ (fun i _ => by unfold fc; by_cases h : i = 0 <;> simp [h])
set_option maxRecDepth 100000 in
set_option maxHeartbeats 1600000 in
theorem slow_calls (g : Nat) (pl : Addr) (hpb : pl.block ≠ g) (w : World) (hp : w.cell? pl = some (.pointer (some ⟨g, 0, none⟩))) (hB : Block w g 81 (fcells 0 0 0)) :
  Calls Tryz.prog 145 #[.pointer (some ⟨g, 0, none⟩), .func (.func 104) #[] #[.pointer (some pl)]] w fun e w' => e = .returned (.tuple #[]) ∧ Block w' g 81 (fcells 1 0 255) ∧ Past w.heap.size g w w' ∧ w'.heap.size = w.heap.size := by
 have c1 : w.cell? ⟨g, 1, none⟩ = some (.int .i32 0) := (hB.cell 1).trans (fcells_get _ _ _ 1 (by decide))
 have f1 : w.frozen? ⟨g, 1, none⟩ = false := hB.frozen 1
 have hB1 : Block (w.setCell ⟨g, 1, none⟩ (.int .i32 1)) g 81 (fcells 0 1 0) := by have := hB.set_ 1 (.int .i32 1); rw [setState] at this; exact this
 have hl := run_call_load (P := Tryz.prog) Tryz.func169 (by kernel_rfl) (by kernel_rfl) (by kernel_rfl) .u32 (by kernel_rfl) (w := w.setCell ⟨g, 1, none⟩ (.int .i32 1)) (a := ⟨g, 0, none⟩) (x := 0) ((hB1.cell 0).trans (fcells_get _ _ _ 0 (by decide)))
 have hp1 : (w.setCell ⟨g, 1, none⟩ (.int .i32 1)).cell? pl = some (.pointer (some ⟨g, 0, none⟩)) := (World.cell?_setCell_other _ _ _ _ (fun h => hpb (by rw [← h]))).trans hp
 have hnot : ∀ (x : Bool) (w : World), (Op.unary .not (.bool x)).run Tryz.prog w = .ok (.bool (!x)) w := fun _ _ => rfl
 have HB := Lib.hid hB
 have HB1 := Lib.hid hB1
 clear hB hB1
 go_enter_defers Tryz.func145, Tryz.ntmps145
 go_wp2_with (first | (go_at_call 170; refine (Once.lock_free ⟨g, 1, none⟩ _ (by assumption) (by assumption)).mono ?_; rintro e w' ⟨rfl, rfl⟩) | (go_at_call 144; go_in) | (go_at_call 104; refine (fill_calls g pl hpb _ hp1 HB1.out).mono ?_; rintro e w2 ⟨rfl, HB2, HP2, HS2⟩))
 have hs1 : (w.setCell ⟨g, 1, none⟩ (.int .i32 1)).heap.size = w.heap.size := by simp [World.setCell]
 refine leaves_cons (f := 172) (args := #[.pointer (some ⟨g, 0, none⟩), .bool true]) (by simp) (by simp [go_sem]) ?_
 refine (Once.store_deferred ⟨g, 0, none⟩ (.int .u32 0) .returning _ ((HB2.cell 0).trans (fcells_get _ _ _ 0 (by decide))) (HB2.frozen 0)).mono ?_
 rintro e u' w'' ⟨rfl, rfl, rfl⟩
 have HB3 : Block (w2.drew.setCell ⟨g, 0, none⟩ (.int .u32 1)) g 81 (fcells 1 1 255) := by have := HB2.drew.set_ 0 (.int .u32 1); rw [setDone] at this; exact this
 refine leaves_cons (f := 171) (args := #[.pointer (some ⟨g, 1, none⟩)]) (by simp [settle]) (by simp [go_sem]) ?_
 refine (Once.unlock_deferred ⟨g, 1, none⟩ _ _ ((HB3.cell 1).trans (fcells_get _ _ _ 1 (by decide))) (HB3.frozen 1)).mono ?_
 rintro e u' w'' ⟨rfl, rfl, rfl⟩
 have HB4 : Block ((w2.drew.setCell ⟨g, 0, none⟩ (.int .u32 1)).setCell ⟨g, 1, none⟩ (.int .i32 0)) g 81 (fcells 1 0 255) := by have := HB3.set_ 1 (.int .i32 0); rw [setState] at this; exact this
 have HP4 : Past w.heap.size g w ((w2.drew.setCell ⟨g, 0, none⟩ (.int .u32 1)).setCell ⟨g, 1, none⟩ (.int .i32 0)) := by
  rw [hs1] at HP2
  exact (((((Past.refl _ g w).setCell (.inl rfl) _).trans HP2).drew).setCell (.inl rfl) _).setCell (.inl rfl) _
 simp [Leaves, settle, results, Tryz.results145]
 exact ⟨HB4, HP4, by rw [hs1] at HS2; exact HS2⟩
set_option maxRecDepth 100000 in
set_option maxHeartbeats 1600000 in
theorem do_first (g : Nat) (pl : Addr) (hpb : pl.block ≠ g) (w : World) (hp : w.cell? pl = some (.pointer (some ⟨g, 0, none⟩))) (hB : Block w g 81 (fcells 0 0 0)) :
  Calls Tryz.prog 103 #[.pointer (some ⟨g, 0, none⟩), .func (.func 104) #[] #[.pointer (some pl)]] w fun e w' => e = .returned (.tuple #[]) ∧ Block w' g 81 (fcells 1 0 255) ∧ Past w.heap.size g w w' ∧ w'.heap.size = w.heap.size := by
 have hl := run_call_load (P := Tryz.prog) Tryz.func169 (by kernel_rfl) (by kernel_rfl) (by kernel_rfl) .u32 (by kernel_rfl) (w := w) (a := ⟨g, 0, none⟩) (x := 0) ((hB.cell 0).trans (fcells_get _ _ _ 0 (by decide)))
 have hnot : ∀ (x : Bool) (w : World), (Op.unary .not (.bool x)).run Tryz.prog w = .ok (.bool (!x)) w := fun _ _ => rfl
 have HB := Lib.hid hB
 clear hB
 go_enter Tryz.func103, Tryz.ntmps103
 go_wp2_with (first | (go_at_call 145; refine (slow_calls g pl hpb _ hp HB.out).mono ?_; rintro e w' ⟨rfl, h1, h2, h3⟩) | (go_at_call 144; go_in))
 go_end0
 exact ⟨rfl, h1, h2, h3⟩
def Fld (w : World) (g : Nat) : Prop := Block w g 81 (fcells 0 0 0) ∨ Block w g 81 (fcells 1 0 255)
def Made (w : World) (g : Nat) : Prop := Block w g 81 (fcells 1 0 255)
theorem Made.fld {w : World} {g : Nat} (h : Made w g) : Fld w g := .inr h
theorem Fld.lt {w : World} {g : Nat} (h : Fld w g) : g < w.heap.size := by rcases h with h | h <;> exact h.lt
theorem Fld.new (w : World) : Fld (w.alloc (.cells (fcells 0 0 0) 81)) w.heap.size := .inl (Block.new _ _ _)
theorem Fld.below {w w' : World} {g B : Nat} (h : Fld w g) (hb : Below B w w') (hg : g < B) : Fld w' g := h.imp (fun h => h.below hb hg) (fun h => h.below hb hg)
theorem Fld.drewN {w : World} {g : Nat} (h : Fld w g) (n : Nat) : Fld (w.drewN n) g := h
theorem Fld.alloc {w : World} {g : Nat} (h : Fld w g) (o : Obj) : Fld (w.alloc o) g := h.below ((Below.refl _ _).alloc (Nat.le_refl _) o) h.lt
theorem Made.pow {w : World} {g : Nat} (h : Made w g) (k : Nat) (hk : k < 255) : w.cell? ⟨g, 3 + k, none⟩ = some (.int .u8 (gp k : Nat)) := by
 rw [h.cell, fcells_get _ _ _ _ (by omega)]
 unfold fc
 rw [if_neg (by omega), if_neg (by omega), if_neg (by omega), if_pos (by omega), show 3 + k - 3 = k by omega, if_pos hk]
theorem Made.log {w : World} {g : Nat} (h : Made w g) (a : Nat) (ha : a < 256) : w.cell? ⟨g, 258 + a, none⟩ = some (.int .u8 (gl a : Nat)) := by
 rw [h.cell, fcells_get _ _ _ _ (by omega)]
 unfold fc
 rw [if_neg (by omega), if_neg (by omega), if_neg (by omega), if_neg (by omega), show 258 + a - 258 = a by omega]
 by_cases h0 : a = 0
 ·subst h0; rfl
 ·rw [if_pos ⟨gl_lt ha, by omega⟩]
set_option maxHeartbeats 1600000 in
theorem ready_calls (g : Nat) (w : World) (hF : Fld w g) :
  Calls Tryz.prog 65 #[.pointer (some ⟨g, 0, none⟩)] w fun e w' => e = .returned (.pointer (some ⟨g, 0, none⟩)) ∧ Made w' g ∧ Past w.heap.size g w w' := by
 have hmf : ∀ (fn : Fn) (first cap : Array Value) (w : World), (Instr.makeFunc fn first cap).run Tryz.prog w = .ok (.func fn first cap) w := fun _ _ _ _ => rfl
 have hne : w.heap.size ≠ g := by have := hF.lt; omega
 have p0 : (w.alloc (.cells #[.pointer (some ⟨g, 0, none⟩)] 28)).cell? ⟨w.heap.size, 0, none⟩ = some (.pointer (some ⟨g, 0, none⟩)) := by simp
 have HA := Lib.hid (hF.alloc (.cells #[.pointer (some ⟨g, 0, none⟩)] 28))
 rcases HA.out with h | h
 ·have H := Lib.hid h
  clear h hF HA
  go_enter Tryz.func65, Tryz.ntmps65
  go_wp2_with (go_at_call 103; refine (do_first g ⟨w.heap.size, 0, none⟩ hne _ p0 H.out).mono ?_; rintro e w' ⟨rfl, h1, h2, h3⟩; have p1 := (World.cell?_of_block (h2.block w.heap.size (by simp) hne)).trans p0; replace h3 := Lib.hid h3)
  go_ret
  exact ⟨rfl, h1, (Past.of_below ((Below.refl _ _).alloc (Nat.le_refl _) _) _).trans (h2.mono (by simp))⟩
 ·have H := Lib.hid h
  clear h hF HA
  go_enter Tryz.func65, Tryz.ntmps65
  go_wp2_with (go_at_call 103; refine (Once.do_done ⟨g, 0, none⟩ 1 (by decide) _ _ ((H.out.cell 0).trans (fcells_get _ _ _ 0 (by decide)))).mono ?_; rintro e w' ⟨rfl, rfl⟩)
  go_ret
  exact ⟨rfl, H.out, Past.of_below ((Below.refl _ _).alloc (Nat.le_refl _) _) _⟩
set_option maxHeartbeats 1600000 in
theorem ready_nil (w : World) :
  Calls Tryz.prog 65 #[.pointer none] w fun e w' => ∃ g, e = .returned (.pointer (some ⟨g, 0, none⟩)) ∧ Made w' g ∧ Below w.heap.size w w' ∧ w.heap.size ≤ g := by
 have hmf : ∀ (fn : Fn) (first cap : Array Value) (w : World), (Instr.makeFunc fn first cap).run Tryz.prog w = .ok (.func fn first cap) w := fun _ _ _ _ => rfl
 go_enter Tryz.func65, Tryz.ntmps65
 go_wp2_with (go_at_call 12; refine (new_calls _).mono ?_; rintro e w' ⟨rfl, rfl⟩)
 have HB : Hid (Block ((w.alloc (.cells #[.pointer (some ⟨w.heap.size + 1, 0, none⟩)] 28)).alloc (.cells (fcells 0 0 0) 81)) (w.heap.size + 1) 81 (fcells 0 0 0)) := by
  have := Block.new (w.alloc (.cells #[.pointer (some ⟨w.heap.size + 1, 0, none⟩)] 28)) 81 (fcells 0 0 0)
  exact Lib.hid (by simpa using this)
 have p0 : ((w.alloc (.cells #[.pointer (some ⟨w.heap.size + 1, 0, none⟩)] 28)).alloc (.cells (fcells 0 0 0) 81)).cell? ⟨w.heap.size, 0, none⟩ = some (.pointer (some ⟨w.heap.size + 1, 0, none⟩)) := by simp
 refine (do_first (w.heap.size + 1) ⟨w.heap.size, 0, none⟩ (by simp) _ p0 HB.out).mono ?_
 rintro e w' ⟨rfl, h1, h2, h3⟩
 have p1 := (World.cell?_of_block (h2.block w.heap.size (by simp; omega) (by omega))).trans p0
 replace h3 := Lib.hid h3
 go_wp2
 go_ret
 exact ⟨_, rfl, h1, ((Past.of_below (((Below.refl _ _).alloc (Nat.le_refl _) _).alloc (by simp) _) _).trans (h2.mono (by simp; omega))).below (by omega), by omega⟩
def FldP (w : World) (p : Option Addr) : Prop := p = none ∨ ∃ g, p = some ⟨g, 0, none⟩ ∧ Fld w g
def rb (w : World) (p : Option Addr) : Nat := match p with
 | some a => a.block
 | none => w.heap.size
theorem FldP.of {w : World} {g : Nat} (h : Fld w g) : FldP w (some ⟨g, 0, none⟩) := .inr ⟨g, rfl, h⟩
theorem FldP.fld {w : World} {g : Nat} (h : FldP w (some ⟨g, 0, none⟩)) : Fld w g := by
 rcases h with h | ⟨g', h, hf⟩
 ·cases h
 ·simp only [Option.some.injEq, Addr.mk.injEq] at h; obtain ⟨rfl, _⟩ := h; exact hf
theorem FldP.drewN {w : World} {p : Option Addr} (h : FldP w p) (n : Nat) : FldP (w.drewN n) p := h
theorem FldP.below {w w' : World} {p : Option Addr} (h : FldP w p) (hb : Below w.heap.size w w') : FldP w' p := by
 rcases h with h | ⟨g, h, hf⟩
 ·exact .inl h
 ·exact .inr ⟨g, h, hf.below hb hf.lt⟩
theorem ready_any (p : Option Addr) (w : World) (hp : FldP w p) :
  Calls Tryz.prog 65 #[.pointer p] w fun e w' => ∃ g, e = .returned (.pointer (some ⟨g, 0, none⟩)) ∧ Made w' g ∧ FldP w' p ∧ Past w.heap.size (rb w p) w w' ∧ (p = none ∧ w.heap.size ≤ g ∨ p = some ⟨g, 0, none⟩) := by
 rcases hp with rfl | ⟨g, rfl, hf⟩
 ·exact (ready_nil w).mono fun e w' ⟨g, h1, h2, h3, h4⟩ => ⟨g, h1, h2, .inl rfl, Past.of_below h3 _, .inl ⟨rfl, h4⟩⟩
 ·exact (ready_calls g w hf).mono fun e w' ⟨h1, h2, h3⟩ => ⟨g, h1, h2, FldP.of h2.fld, h3, .inr rfl⟩
theorem FldP.further {w w' w2 : World} {p : Option Addr} {g : Nat} (hg : p = none ∧ w.heap.size ≤ g ∨ p = some ⟨g, 0, none⟩) (hP : Past w.heap.size (rb w p) w w') (h2 : FldP w2 (some ⟨g, 0, none⟩)) (hP2 : Past w'.heap.size g w' w2) :
  FldP w2 p ∧ Past w.heap.size (rb w p) w w2 := by
 rcases hg with ⟨rfl, hg⟩ | rfl
 ·exact ⟨.inl rfl, hP.trans (Past.of_below ((hP2.mono hP.size).below hg) _)⟩
 ·exact ⟨h2, hP.trans (hP2.mono hP.size)⟩
end Go.Proofs.YtjoghbmedfmioaaGreat.GF

namespace Go.Proofs.YtjoghbmedfmioaaGreat.Poly
open Go.RowKit Go.Shelf
attribute [local go_sem] Oper.semAt_some
structure Turn (B : Nat) (W W' : World) : Prop where
 below : Below B W W'
 cells : ∀ (k : Nat) (cs : Array Value) (t : TypeId) (fr : Nat × Nat), W.heap[k]? = some (Obj.cells cs t fr) → W'.heap[k]? = some (Obj.cells cs t fr)
section
variable {B g : Nat} {W W' W'' : World}
theorem Turn.refl (B : Nat) (W : World) : Turn B W W := ⟨Below.refl _ _, fun _ _ _ _ h => h⟩
theorem Turn.trans (h : Turn B W W') (k : Turn B W' W'') : Turn B W W'' := ⟨h.below.trans k.below, fun i cs t fr hi => k.cells i cs t fr (h.cells i cs t fr hi)⟩
theorem Turn.alloc (hB : B ≤ W.heap.size) (o : Obj) : Turn B W (W.alloc o) :=
 ⟨(Below.refl _ _).alloc hB o, fun k _ _ _ h => (Below.heap_alloc W o k (Array.getElem?_eq_some_iff.1 h).1).trans h⟩
theorem Turn.put {l : Nat} {o : Obj} (h : W.heap[l]? = some o) (ho : o.isCells = false) (hB : B ≤ l) (o' : Obj) : Turn B W (W.putObj l o') := by
 have hl := (Array.getElem?_eq_some_iff.1 h).1
 refine ⟨(Below.refl B W).grown (grownBy_putObj' W l o') (by omega) (fun k e => by cases e; exact hB), fun k cs t fr hk => ?_⟩
 by_cases e : k = l
 ·subst e; rw [h] at hk; cases hk; cases ho
 ·exact (World.putObj_heap_other e).trans hk
theorem Turn.cell (h : Turn B W W') {p : Addr} {v : Value} (hc : W.cell? p = some v) : W'.cell? p = some v := by
 unfold World.cell? at hc ⊢
 cases ho : W.heap[p.block]? with
 | none => rw [ho] at hc; cases hc
 | some o =>
  rw [ho] at hc
  cases o with
  | cells cs t fr => rw [h.cells _ _ _ _ ho]; exact hc
  | _ => cases hc
theorem Turn.block {t : TypeId} {cs : Array Value} (h : Turn B W W') (hb : Block W g t cs) : Block W' g t cs := h.cells _ _ _ _ hb
theorem Turn.row {A : Option Addr} {xs : List Value} (h : Turn B W W') (hr : Row W A xs) : Row W' A xs := fun k u hu => by
 obtain ⟨b, off, e, hc⟩ := hr k u hu
 exact ⟨b, off, e, h.cell hc⟩
theorem Turn.bytes {A : Option Addr} {l : List Nat} (h : Turn B W W') (hr : Bytes W A l) : Bytes W' A l := ⟨h.row hr.row, hr.lt⟩
theorem Turn.own {B0 : Nat} {e : TypeId} {v : Value} {xs : List Value} (h : Turn B W W') (ho : Own W B0 e v xs) : Own W' B0 e v xs := by
 refine ⟨ho.1, ?_⟩
 rcases ho.2 with hn | ⟨g, cap, cur, h1, h2, h3, h4⟩
 ·exact .inl hn
 ·exact .inr ⟨g, cap, cur, h1, h2, h.cells _ _ _ _ h3, h4⟩
theorem Turn.past {B0 g : Nat} {w : World} (h : Turn B W W') (hp : Past B0 g w W) (hB : B0 ≤ B) : Past B0 g w W' := hp.trans ((Past.of_below h.below g).mono hB)
theorem Turn.size (h : Turn B W W') : W.heap.size ≤ W'.heap.size := h.below.size
theorem keeps_past {l : Nat} (h : Past W.heap.size g W W') (hg : W.heap.size ≤ g ∨ ∃ cs t fr, W.heap[g]? = some (.cells cs t fr)) : KeepsFrom l W W' :=
 ⟨h.size, fun k o _ hk ho => by
  have hlt := (Array.getElem?_eq_some_iff.1 hk).1
  refine (h.block k hlt ?_).trans hk
  rintro rfl
  rcases hg with hg | ⟨cs, t, fr, hg⟩
  ·omega
  ·rw [hg] at hk; cases hk; cases ho⟩
theorem keeps_below {l : Nat} (h : Below W.heap.size W W') : KeepsFrom l W W' := keeps_past (g := W.heap.size) (Past.of_below h _) (.inl (Nat.le_refl _))
end
theorem zip2 (s1 s2 : Tmp) (u v : Value) (t : Array Value) :
  Array.foldl (fun (tmps : Array Value) (x : Tmp × Value) => match x with | (t, a) => tmps.setIfInBounds t a) t ((#[s1, s2] : Array Tmp).zip #[u, v]) = (t.setIfInBounds s1 u).setIfInBounds s2 v := by simp
end Go.Proofs.YtjoghbmedfmioaaGreat.Poly
