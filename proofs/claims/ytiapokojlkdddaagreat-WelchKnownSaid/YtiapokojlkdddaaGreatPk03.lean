/- Of the program and its document, joined: Kit, Kit2, Past, GfOnce, GfBits. -/
import Derived.Below
import Derived.Laws.OwnMore
import Derived.Deep.Draws
import Derived.Lib.Hide
import Derived.Laws.NewBlocks
import Derived.Maps.AppendAt
import Derived.OwnWalk
import Derived.RegionTactic
import Derived.Test.YtiapokojlkdddaaGreatRows
import Derived.Tactics
import Derived.Tactics2
import Derived.Defers
import Derived.WalkKit
import Derived.Laws.Pointers
import Derived.Laws.LoneSync
import Derived.RegionCalls
import Derived.ChangeAlike
import Derived.Test.YtiapokojlkdddaaGreatPk01
import Derived.Laws.BitsAllLaws
import Derived.IntWalk
/- Words for memory that this project's proofs share: a slice that reads as a list of values (nil let in), a slice of bytes, and how both are kept. -/
namespace Go.Proofs.YtiapokojlkdddaaGreat
open Go.RowKit

/-- The slice value '.slice A xs.length c' reads, in the world w, as the one-cell values xs. -/
def Row (w : World) (A : Option Addr) (xs : List Value) : Prop :=
  ∀ k u, xs[k]? = some u → ∃ b off, A = some ⟨b, off, none⟩ ∧ w.cell? ⟨b, off + k, none⟩ = some u

/-- A cell that is there lies in a block that is there. -/
theorem cell_lt {w : World} {a : Addr} {u : Value} (h : w.cell? a = some u) : a.block < w.heap.size := by
  rcases Nat.lt_or_ge a.block w.heap.size with hlt | hge
  · exact hlt
  · unfold World.cell? at h; rw [Array.getElem?_eq_none hge] at h; cases h

section
variable {w w' : World} {A : Option Addr} {xs : List Value}
theorem Row.nil (w : World) (A : Option Addr) : Row w A [] := fun _ _ h => by simp at h
theorem Row.keep (h : Row w A xs) (hk : ∀ p : Addr, p.block < w.heap.size → w'.cell? p = w.cell? p) : Row w' A xs := fun k u hu => by
  obtain ⟨b, off, rfl, hc⟩ := h k u hu
  exact ⟨b, off, rfl, by rw [hk _ (cell_lt hc)]; exact hc⟩
theorem Row.below (h : Row w A xs) (hb : Below w.heap.size w w') : Row w' A xs := h.keep fun _ hp => hb.cell hp
theorem Row.drewN (h : Row w A xs) (n : Nat) : Row (w.drewN n) A xs := h
theorem Row.drew (h : Row w A xs) : Row w.drew A xs := h
theorem Row.alloc (h : Row w A xs) (o : Obj) : Row (w.alloc o) A xs := h.keep fun p hp => World.cell?_alloc_lt w o p hp
theorem Row.of_own {base : Nat} {e : TypeId} {n c : Nat} (h : w.ownsRow base e 1 (.slice A n c) n xs) : Row w A xs := by
  intro k u hu
  rcases h.2 with ⟨he, hn⟩ | ⟨g, cap, cur, hv, _, hh, _, _, _, ht⟩
  · have := h.1; subst hn; have : xs = [] := List.eq_nil_of_length_eq_zero (by simpa using this); subst this; simp at hu
  · injection hv with hA
    subst hA
    refine ⟨g, 0, rfl, ?_⟩
    have hk : k < n * 1 := by have := h.1; have := (List.getElem?_eq_some_iff.1 hu).1; omega
    rw [← ht, List.getElem?_take, if_pos hk, Array.getElem?_toList] at hu
    simp [World.cell?, hh, hu]
theorem Row.at_ (h : Row w A xs) {k : Nat} (hk : k < xs.length) : ∃ b off, A = some ⟨b, off, none⟩ ∧ w.cell? ⟨b, off + k, none⟩ = some xs[k] :=
  h k _ (List.getElem?_eq_getElem hk)
end

/-- Bytes as values, and the slice that reads as them. -/
def bv (l : List Nat) : List Value := l.map fun n : Nat => Value.int .u8 (n : Int)
theorem bv_length (l : List Nat) : (bv l).length = l.length := by simp [bv]
theorem bv_append (a b : List Nat) : bv (a ++ b) = bv a ++ bv b := by simp [bv]
structure Bytes (w : World) (A : Option Addr) (l : List Nat) : Prop where
  row : Row w A (bv l)
  lt : ∀ c ∈ l, c < 256
section
variable {w w' : World} {A : Option Addr} {l : List Nat}
theorem Bytes.nil (w : World) (A : Option Addr) : Bytes w A [] := ⟨Row.nil w A, by simp⟩
theorem Bytes.below (h : Bytes w A l) (hb : Below w.heap.size w w') : Bytes w' A l := ⟨h.row.below hb, h.lt⟩
theorem Bytes.drewN (h : Bytes w A l) (n : Nat) : Bytes (w.drewN n) A l := ⟨h.row, h.lt⟩
theorem Bytes.drew (h : Bytes w A l) : Bytes w.drew A l := ⟨h.row, h.lt⟩
theorem Bytes.alloc (h : Bytes w A l) (o : Obj) : Bytes (w.alloc o) A l := ⟨h.row.alloc o, h.lt⟩
theorem Bytes.of_own {base : Nat} {e : TypeId} {n c : Nat} (h : w.ownsRow base e 1 (.slice A n c) n (bv l)) (hl : ∀ c ∈ l, c < 256) : Bytes w A l := ⟨Row.of_own h, hl⟩
theorem Bytes.at_ (h : Bytes w A l) {k : Nat} (hk : k < l.length) : ∃ b off, A = some ⟨b, off, none⟩ ∧ w.cell? ⟨b, off + k, none⟩ = some (.int .u8 (l[k] : Int)) ∧ l[k] < 256 := by
  obtain ⟨b, off, e, hc⟩ := h.row.at_ (k := k) (by simpa [bv] using hk)
  exact ⟨b, off, e, by simpa [bv] using hc, h.lt _ (List.getElem_mem _)⟩
end
/-- A block known whole, none of it frozen. -/
def Block (w : World) (g : Nat) (t : TypeId) (cs : Array Value) : Prop := w.heap[g]? = some (.cells cs t (0, 0))
section
variable {w w' : World} {g : Nat} {t : TypeId} {cs : Array Value}
theorem Block.lt (h : Block w g t cs) : g < w.heap.size := by
  rcases Nat.lt_or_ge g w.heap.size with hlt | hge
  · exact hlt
  · unfold Block at h; rw [Array.getElem?_eq_none hge] at h; cases h
theorem Block.cell (h : Block w g t cs) (i : Nat) : w.cell? ⟨g, i, none⟩ = cs[i]? := by
  unfold Block at h; simp [World.cell?, h]
theorem Block.frozen (h : Block w g t cs) (i : Nat) : w.frozen? ⟨g, i, none⟩ = false := by
  unfold Block at h; simp [World.frozen?, h]
theorem Block.new (w : World) (t : TypeId) (cs : Array Value) : Block (w.alloc (.cells cs t)) w.heap.size t cs := heap_alloc_new w _
theorem Block.drew (h : Block w g t cs) : Block w.drew g t cs := h
theorem Block.drewN (h : Block w g t cs) (n : Nat) : Block (w.drewN n) g t cs := h
theorem Block.alloc (h : Block w g t cs) (o : Obj) : Block (w.alloc o) g t cs := (Below.heap_alloc w o g h.lt).trans h
theorem Block.set_ (h : Block w g t cs) (i : Nat) (u : Value) : Block (w.setCell ⟨g, i, none⟩ u) g t (cs.setIfInBounds i u) := by
  unfold Block at h ⊢
  simp [World.setCell, Array.getElem?_modify, h]
theorem Block.far (h : Block w g t cs) {p : Addr} (hp : g ≠ p.block) (u : Value) : Block (w.setCell p u) g t cs := (Below.heap_setCell w p u g hp).trans h
theorem Block.below {B : Nat} (h : Block w g t cs) (hb : Below B w w') (hg : g < B) : Block w' g t cs := (hb.block g hg).trans h
end
/-- A slice of one-cell values that the call itself has made. -/
def Own (w : World) (B : Nat) (e : TypeId) (v : Value) (xs : List Value) : Prop := w.ownsRow B e 1 v xs.length xs
section
variable {w w' : World} {B : Nat} {e : TypeId} {v : Value} {xs : List Value}
theorem Own.nil (w : World) (B : Nat) (e : TypeId) : Own w B e (.slice none 0 0) [] := ⟨by simp, .inl ⟨rfl, rfl⟩⟩
theorem Own.lit (w : World) (B : Nat) (e : TypeId) (cs : Array Value) (n : Nat) (hB : B ≤ w.heap.size) (hn : cs.size = n) (hm : n ≤ maxLen) : Own (w.alloc (.cells cs e)) B e (.slice (some ⟨w.heap.size, 0, none⟩) n n) cs.toList := by
  have h := World.ownsRow_lit (base := B) (e := e) (size := 1) w cs n hB hm (by omega)
  unfold Own
  rw [Array.length_toList, hn]
  exact h
theorem Own.form (h : Own w B e v xs) : ∃ A c, v = .slice A xs.length c ∧ Row w A xs ∧ (∀ b, v.ownBlock = some b → B ≤ b ∧ b < w.heap.size) := by
  have hh := h
  refine (show ∃ A c, v = .slice A xs.length c ∧ Row w A xs by
    rcases h.2 with ⟨rfl, hn⟩ | ⟨g, cap, cur, rfl, _⟩
    · have : xs = [] := List.eq_nil_of_length_eq_zero (by omega)
      subst this
      exact ⟨none, 0, rfl, Row.nil _ _⟩
    · exact ⟨_, cap, rfl, Row.of_own hh⟩).imp fun A ⟨c, h1, h2⟩ => ⟨c, h1, h2, hh.lt⟩
theorem Own.drewN (h : Own w B e v xs) (n : Nat) : Own (w.drewN n) B e v xs := h
theorem Own.drew (h : Own w B e v xs) : Own w.drew B e v xs := h
theorem Own.alloc (h : Own w B e v xs) (o : Obj) : Own (w.alloc o) B e v xs := World.ownsRow.alloc h o
theorem Own.grown {row : Option Nat} (h : Own w B e v xs) (hg : w.grownBy w' row) (hne : v.ownBlock = none ∨ v.ownBlock ≠ row) : Own w' B e v xs := World.ownsRow.kept h hg hne
theorem Own.below (h : Own w B e v xs) (hb : Below w.heap.size w w') : Own w' B e v xs :=
  h.grown (row := none) ⟨hb.os, hb.tape, hb.output, hb.size, fun k hk _ => hb.block k hk⟩ (by cases v.ownBlock <;> simp)
theorem Own.more {B' : Nat} (h : Own w B e v xs) (hB : B' ≤ B) : Own w B' e v xs := by
  refine ⟨h.1, ?_⟩
  rcases h.2 with h2 | ⟨g, cap, cur, h1, h2, h3⟩
  · exact .inl h2
  · exact .inr ⟨g, cap, cur, h1, by omega, h3⟩
end
section
variable {P : Program} (w : World)
theorem run_append_nothing (t ty e : TypeId) (i : TypeInfo) (B : Nat) (ht : P.underlying t = some (.slice e)) (hi : P.info? e = some i)
    (v : Value) (xs : List Value) (hown : Own w B e v xs) (c : Nat) : (Builtin.append_ #[t, t] ty #[v, .slice none 0 c]).run P w = .ok v w := by
  rcases hown.2 with ⟨rfl, _⟩ | ⟨g, cap, cur, rfl, _, _, hnc, _⟩
  · simp [Builtin.append_, run_underlying ht, sizeOf, typeInfo, hi, Builtin.lenOf, Builtin.firstCells]
  · simp [Builtin.append_, run_underlying ht, sizeOf, typeInfo, hi, Builtin.lenOf, Builtin.firstCells, hnc, storeCells]

/-- What append does with a slice of the call's own, its source whatever reads as a row. -/
theorem run_app (B : Nat) (t ty e : TypeId) (z : Value) (bytes : Nat) (ht : P.underlying t = some (.slice e)) (hinfo : (P.info? e).map (fun i => (i.zero, i.size, i.bytes)) = some (some z, 1, bytes)) (hz : z.cells.size = 1)
    (v : Value) (xs : List Value) (hown : Own w B e v xs) (A : Option Addr) (m c : Nat) (ys : List Value) (hm : ys.length = m) (hr : Row w A ys) (h1 : ∀ u ∈ ys, u.oneCell' = true)
    (hb : 0 < bytes) (hlen : (xs.length + m) * bytes ≤ 140737488355328) (hB : B ≤ w.heap.size) :
    ∃ v' w', (Builtin.append_ #[t, t] ty #[v, .slice A m c]).run P w = .ok v' w' ∧ Own w' B e v' (xs ++ ys) ∧ w.grownBy w' v.ownBlock ∧ (v'.ownBlock = v.ownBlock ∨ v'.ownBlock = some w.heap.size) := by
  obtain ⟨i, hi, hi1, hi2, hi3⟩ := info_parts hinfo
  subst hm
  have h63 : xs.length + ys.length ≤ maxLen := by
    have := Nat.le_mul_of_pos_right (xs.length + ys.length) hb
    simp only [maxLen]; omega
  cases A with
  | none =>
    have hy : ys = [] := by
      cases ys with
      | nil => rfl
      | cons y ys => obtain ⟨b, off, h, _⟩ := hr 0 y rfl; cases h
    subst hy
    refine ⟨v, w, run_append_nothing w t ty e i B ht hi v xs hown c, ?_, World.grownBy.refl w _, .inl rfl⟩
    rw [List.append_nil]; exact hown
  | some ad =>
    have hcells : ∀ j u, ys[j]? = some u → w.cell? (ad.add j) = some u := by
      intro j u hu
      obtain ⟨b, off, h, hc⟩ := hr j u hu
      obtain rfl : ad = ⟨b, off, none⟩ := by injection h
      rw [show (⟨b, off, none⟩ : Addr).add j = ⟨b, off + j, none⟩ by unfold Addr.add; split <;> simp_all]
      exact hc
    obtain ⟨v', w', hrun, h2, h3, _, h5⟩ := run_append_own_at (P := P) w B t ty e i z 1 bytes ht hi hi1 hi2 hi3 hz (by omega) v xs.length xs hown ad ys.length c ys (by omega) hcells h1 h63 hlen hB
    refine ⟨v', w', hrun, ?_, h3, h5⟩
    unfold Own
    rw [List.length_append]
    exact h2

theorem wp_app {o : Oper} {a : Act} {K : Act → World → Prop} {Q : Exit → Act → World → Prop} (s x : Operand) (t : TypeId)
    (ho : o.op = .call { callee := .builtin .append, args := #[s, x], argTypes := #[t, t] })
    (B : Nat) (e : TypeId) (z : Value) (bytes : Nat) (ht : P.underlying t = some (.slice e)) (hinfo : (P.info? e).map (fun i => (i.zero, i.size, i.bytes)) = some (some z, 1, bytes)) (hz : z.cells.size = 1) (hb : 0 < bytes)
    (v : Value) (xs : List Value) (hs : a.eval s = v) (hown : Own w B e v xs) (A : Option Addr) (m c : Nat) (ys : List Value) (hx : a.eval x = .slice A m c) (hm : ys.length = m) (hr : Row w A ys) (h1 : ∀ u ∈ ys, u.oneCell' = true)
    (hlen : (xs.length + m) * bytes ≤ 140737488355328) (hB : B ≤ w.heap.size)
    (h : ∀ v' w', Own w' B e v' (xs ++ ys) → w.grownBy w' v.ownBlock → (v'.ownBlock = v.ownBlock ∨ v'.ownBlock = some w.heap.size) → K (a.put o.dst v') w') : o.wp P a w K Q := by
  obtain ⟨v', w', hrun, h2, h3, h4⟩ := run_app (P := P) w B t o.type e z bytes ht hinfo hz v xs hown A m c ys hm hr h1 hb hlen hB
  unfold Oper.wp execOp
  simp only [ho, resolve, invoke, builtin, Sem.run_bind, Sem.run_pure, Result.andThen_ok, List.map_toArray, List.map_cons, List.map_nil, hs, hx, hrun]
  exact h v' w' h2 h3 h4

theorem wpList_app {ops : Array Oper} {rest : List Oper} {o : Oper} {a : Act} {Q : Exit → Act → World → Prop} (hgd : o.guard = none) (s x : Operand) (t : TypeId)
    (ho : o.op = .call { callee := .builtin .append, args := #[s, x], argTypes := #[t, t] })
    (B : Nat) (e : TypeId) (z : Value) (bytes : Nat) (ht : P.underlying t = some (.slice e)) (hinfo : (P.info? e).map (fun i => (i.zero, i.size, i.bytes)) = some (some z, 1, bytes)) (hz : z.cells.size = 1) (hb : 0 < bytes)
    (v : Value) (xs : List Value) (hs : a.eval s = v) (hown : Own w B e v xs) (A : Option Addr) (m c : Nat) (ys : List Value) (hx : a.eval x = .slice A m c) (hm : ys.length = m) (hr : Row w A ys) (h1 : ∀ u ∈ ys, u.oneCell' = true)
    (hlen : (xs.length + m) * bytes ≤ 140737488355328) (hB : B ≤ w.heap.size)
    (h : ∀ v' w', Own w' B e v' (xs ++ ys) → w.grownBy w' v.ownBlock → (v'.ownBlock = v.ownBlock ∨ v'.ownBlock = some w.heap.size) → wpList P ops Q rest (a.put o.dst v') w') : wpList P ops Q (o :: rest) a w :=
  wpList_plain hgd fun _ hK => wp_app w s x t ho B e z bytes ht hinfo hz hb v xs hs hown A m c ys hx hm hr h1 hlen hB fun v' w' h2 h3 h4 => hK _ _ (h v' w' h2 h3 h4)
end
/-- Behind an append to a slice of the call's own nothing below has turned. -/
theorem Own.grew {w w' : World} {B : Nat} {e : TypeId} {v : Value} {xs : List Value} (h : Own w B e v xs) (hB : B ≤ w.heap.size) (hg : w.grownBy w' v.ownBlock) : Below B w w' :=
  (Below.refl B w).grown hg hB (fun _ hk => (h.lt _ hk).1)
theorem bv_one (l : List Nat) : ∀ u ∈ bv l, u.oneCell' = true := by
  intro u hu; obtain ⟨n, _, rfl⟩ := List.mem_map.1 hu; rfl
theorem Row.one {w : World} {b off : Nat} {u : Value} (h : w.cell? ⟨b, off, none⟩ = some u) : Row w (some ⟨b, off, none⟩) [u] := by
  intro k v hv
  have hk : k = 0 := by have := (List.getElem?_eq_some_iff.1 hv).1; simp at this; omega
  subst hk
  simp at hv
  subst hv
  exact ⟨b, off, rfl, h⟩
theorem Row.byte {w : World} {b off x : Nat} (h : w.cell? ⟨b, off, none⟩ = some (.int .u8 (x : Int))) : Row w (some ⟨b, off, none⟩) (bv [x]) := Row.one h
theorem cell_new (w : World) (cs : Array Value) (t : TypeId) (i : Nat) : (w.alloc (.cells cs t)).cell? ⟨w.heap.size, i, none⟩ = cs[i]? := (Block.new w t cs).cell i
theorem Row.new (w : World) (cs : Array Value) (t : TypeId) (fr : Nat × Nat) : Row (w.alloc (.cells cs t fr)) (some ⟨w.heap.size, 0, none⟩) cs.toList := by
  intro k v hv
  refine ⟨w.heap.size, 0, rfl, ?_⟩
  have h : (w.alloc (.cells cs t fr)).heap[w.heap.size]? = some (.cells cs t fr) := heap_alloc_new w _
  rw [Nat.zero_add]
  simp only [World.cell?, h]
  simpa using hv
theorem Row.all {w : World} {b : Nat} {t : TypeId} {cs : Array Value} (h : Block w b t cs) : Row w (some ⟨b, 0, none⟩) cs.toList := by
  intro k v hv
  exact ⟨b, 0, rfl, by rw [Nat.zero_add, h.cell]; simpa using hv⟩
theorem Below.drewN' {B : Nat} {a w : World} (h : Below B a w) (n : Nat) : Below B a (w.drewN n) := ⟨h.os, h.tape, h.output, h.size, h.block⟩
theorem take_succ' {α : Type} (l : List α) {k : Nat} (hk : k < l.length) : l.take (k + 1) = l.take k ++ [l[k]] := by
  rw [List.take_succ_eq_append_getElem hk]
end Go.Proofs.YtiapokojlkdddaaGreat

/- More words for memory: a slice of the call's own that is not empty, read and written. -/
namespace Go.Proofs.YtiapokojlkdddaaGreat
open Go.RowKit
section
variable {w w' : World} {B : Nat} {e : TypeId} {v : Value} {xs : List Value} {g c n : Nat}
/-- It is not empty: where it lies. -/
theorem Own.form1 (h : Own w B e v xs) (h0 : 0 < xs.length) : ∃ g c, v = .slice (some ⟨g, 0, none⟩) xs.length c ∧ B ≤ g ∧ g < w.heap.size ∧ xs.length ≤ c := by
  have hh := h.lt
  rcases h.2 with ⟨rfl, hn⟩ | ⟨g, cap, cur, rfl, h1, h2, h3, _⟩
  · omega
  · exact ⟨g, cap, rfl, h1, (hh g rfl).2, h3⟩
theorem Own.cellAt (h : Own w B e (.slice (some ⟨g, 0, none⟩) n c) xs) (hn : xs.length = n) (k : Nat) (hk : k < xs.length) : w.cell? ⟨g, k, none⟩ = some xs[k] := by
  subst hn
  rw [World.ownsRow.cellAt h k (by omega)]; exact List.getElem?_eq_getElem hk
theorem Own.frozenAt (h : Own w B e (.slice (some ⟨g, 0, none⟩) n c) xs) (hn : xs.length = n) (k : Nat) : w.frozen? ⟨g, k, none⟩ = false := by
  subst hn
  exact World.ownsRow.frozenAt h k
theorem Own.set_ (h : Own w B e (.slice (some ⟨g, 0, none⟩) n c) xs) (hn : xs.length = n) (k : Nat) (u : Value) : Own (w.setCell ⟨g, k, none⟩ u) B e (.slice (some ⟨g, 0, none⟩) n c) (xs.set k u) := by
  subst hn
  have := (World.ownsRow.stored h k u).1
  unfold Own
  rw [List.length_set]
  exact this
theorem Own.blk (h : Own w B e (.slice (some ⟨g, 0, none⟩) n c) xs) : B ≤ g ∧ g < w.heap.size := h.lt g rfl
/-- A store into another block. -/
theorem Own.far (h : Own w B e v xs) {p : Addr} (hp : v.ownBlock ≠ some p.block) (u : Value) : Own (w.setCell p u) B e v xs :=
  h.grown (row := some p.block) ⟨rfl, rfl, rfl, by simp [World.setCell], fun k _ hk => Below.heap_setCell _ _ _ _ (fun e => hk (by rw [e]))⟩ (.inr hp)
end
theorem bv_set (l : List Nat) (k x : Nat) : (bv l).set k (.int .u8 (x : Int)) = bv (l.set k x) := by simp [bv, List.map_set]
theorem bv_get (l : List Nat) (k : Nat) (hk : k < (bv l).length) : (bv l)[k] = .int .u8 ((l[k]'(by rwa [bv_length] at hk) : Nat) : Int) := by simp [bv]
theorem set_lt {l : List Nat} (hl : ∀ c ∈ l, c < 256) {k x : Nat} (hx : x < 256) : ∀ c ∈ l.set k x, c < 256 := by
  intro c hc; rcases List.mem_or_eq_of_mem_set hc with h | h; exact hl c h; omega
end Go.Proofs.YtiapokojlkdddaaGreat

/- A frame: below a bound nothing but one block has turned. -/
namespace Go.Proofs.YtiapokojlkdddaaGreat
open Go.RowKit

/-- Below B nothing but the block g has turned. -/
structure Past (B g : Nat) (w w' : World) : Prop where
  os : w'.os = w.os
  tape : w'.tape = w.tape
  output : w'.output = w.output
  size : w.heap.size ≤ w'.heap.size
  block : ∀ k, k < B → k ≠ g → w'.heap[k]? = w.heap[k]?
section
variable {B g : Nat} {a w w' : World}
theorem Past.refl (B g : Nat) (w : World) : Past B g w w := ⟨rfl, rfl, rfl, Nat.le_refl _, fun _ _ _ => rfl⟩
theorem Past.trans (h : Past B g a w) (k : Past B g w w') : Past B g a w' :=
  ⟨k.os.trans h.os, k.tape.trans h.tape, k.output.trans h.output, Nat.le_trans h.size k.size, fun i hi hn => (k.block i hi hn).trans (h.block i hi hn)⟩
theorem Past.of_below (h : Below B a w) (g : Nat) : Past B g a w := ⟨h.os, h.tape, h.output, h.size, fun i hi _ => h.block i hi⟩
theorem Past.mono {B' : Nat} (h : Past B g a w) (hB : B' ≤ B) : Past B' g a w := ⟨h.os, h.tape, h.output, h.size, fun i hi hn => h.block i (by omega) hn⟩
theorem Past.drew (h : Past B g a w) : Past B g a w.drew := ⟨h.os, h.tape, h.output, h.size, h.block⟩
theorem Past.drewN (h : Past B g a w) (n : Nat) : Past B g a (w.drewN n) := ⟨h.os, h.tape, h.output, h.size, h.block⟩
theorem Past.alloc (h : Past B g a w) (hB : B ≤ w.heap.size) (o : Obj) : Past B g a (w.alloc o) := h.trans (Past.of_below ((Below.refl B w).alloc hB o) g)
theorem Past.setCell (h : Past B g a w) {p : Addr} (hp : p.block = g ∨ B ≤ p.block) (u : Value) : Past B g a (w.setCell p u) :=
  h.trans ⟨rfl, rfl, rfl, by simp [World.setCell], fun k hk hn => Below.heap_setCell _ _ _ _ (by intro e; subst e; rcases hp with rfl | hp <;> omega)⟩
theorem Past.below (h : Past B g a w) (hB : B ≤ g) : Below B a w := ⟨h.os, h.tape, h.output, h.size, fun i hi => h.block i hi (by omega)⟩
theorem Past.grown {row : Option Nat} (h : Past B g a w) (hw : w.grownBy w' row) (hB : B ≤ w.heap.size) (hr : ∀ k, row = some k → B ≤ k) : Past B g a w' :=
  h.trans (Past.of_below ((Below.refl B w).grown hw hB hr) g)
theorem Block.past {t : TypeId} {cs : Array Value} {b : Nat} (h : Block w b t cs) (hp : Past B g w w') (hb : b < B) (hn : b ≠ g) : Block w' b t cs := (hp.block b hb hn).trans h
end

end Go.Proofs.YtiapokojlkdddaaGreat

/- The parts of sync.Once, one goroutine, its own lock free: what its calls do. -/
namespace Go.Proofs.YtiapokojlkdddaaGreat.Once
open Go.RowKit

theorem disable (w : World) : (callFunc 232 #[]).run Tryz.prog w = .ok (.value (.tuple #[])) w := run_call_mark0 Tryz.func232 (by kernel_rfl) (by kernel_rfl) (by kernel_rfl) .disable (by kernel_rfl) w
theorem enable (w : World) : (callFunc 234 #[]).run Tryz.prog w = .ok (.value (.tuple #[])) w := run_call_mark0 Tryz.func234 (by kernel_rfl) (by kernel_rfl) (by kernel_rfl) .enable (by kernel_rfl) w
theorem acquire (a : Addr) (w : World) : (callFunc 235 #[.pointer (some a)]).run Tryz.prog w = .ok (.value (.tuple #[])) w := run_call_marked Tryz.func235 (by kernel_rfl) (by kernel_rfl) (by kernel_rfl) .acquire (by kernel_rfl) a w
theorem releaseMerge (a : Addr) (w : World) : (callFunc 237 #[.pointer (some a)]).run Tryz.prog w = .ok (.value (.tuple #[])) w := run_call_marked Tryz.func237 (by kernel_rfl) (by kernel_rfl) (by kernel_rfl) .releaseMerge (by kernel_rfl) a w

/-- '(*sync/atomic.Bool).Store(true)', entered as a deferred call: the cell holds 1. -/
theorem store_deferred (a : Addr) (x : Value) (u : FrameMode) (w : World) (hc : w.cell? a = some x) (hz : w.frozen? a = false) :
    CallsD Tryz.prog 226 #[.pointer (some a), .bool true] u w fun e u' w' => u' = u ∧ (e = .returned (.tuple #[]) ∧ w' = w.drew.setCell a (.int .u32 1)) := by
  have hc' : w.drew.cell? a = some x := by go_simp
  have hz' : w.drew.frozen? a = false := by go_simp
  have hst := run_call_store (P := Tryz.prog) Tryz.func230 (by kernel_rfl) (by kernel_rfl) (by kernel_rfl) (by kernel_rfl) (k := .u32) (y := 1) hc' hz'
  go_enter_d Tryz.func226, Tryz.ntmps226
  go_wp2
  go_region_calls
  all_goals (go_end0; exact ⟨rfl, rfl⟩)

set_option maxRecDepth 100000 in
/-- '(*sync.Mutex).Unlock', entered as a deferred call, the lock held and nobody waiting (state 1): state 0. -/
theorem unlock_deferred (a : Addr) (u : FrameMode) (w : World) (hc : w.cell? a = some (.int .i32 1)) (hz : w.frozen? a = false) :
    CallsD Tryz.prog 225 #[.pointer (some a)] u w fun e u' w' => u' = u ∧ (e = .returned (.tuple #[]) ∧ w' = w.setCell a (.int .i32 0)) := by
  have hd := disable
  have he := enable
  have hr := releaseMerge
  have hadd := run_call_add (P := Tryz.prog) Tryz.func238 (by kernel_rfl) (by kernel_rfl) (by kernel_rfl) .i32 (by kernel_rfl) (y := -1) (s := 0) hc hz (by simp [go_sem]; rfl)
  have hcv := run_convert_to_unsafe (P := Tryz.prog) (src := 276) (dst := 280) Tryz.underlying276 Tryz.underlying280 (by kernel_rfl) hc
  go_enter_d Tryz.func225, Tryz.ntmps225
  go_wp2
  go_end0
  go_wp2
  go_end0
  exact ⟨rfl, rfl⟩

set_option maxRecDepth 100000 in
/-- '(*sync.Mutex).Lock', the lock free (state 0): state 1. -/
theorem lock_free (a : Addr) (w : World) (hc : w.cell? a = some (.int .i32 0)) (hz : w.frozen? a = false) :
    Calls Tryz.prog 224 #[.pointer (some a)] w fun e w' => e = .returned (.tuple #[]) ∧ w' = w.setCell a (.int .i32 1) := by
  have hd := disable
  have he := enable
  have ha := acquire
  have hcas := run_call_cas_hit (P := Tryz.prog) Tryz.func233 (by kernel_rfl) (by kernel_rfl) (by kernel_rfl) .i32 (by kernel_rfl) (y := 1) hc hz
  have hc' : (w.setCell a (.int .i32 1)).cell? a = some (.int .i32 1) := World.cell?_setCell_same w a _ hc
  have hcv := run_convert_to_unsafe (P := Tryz.prog) (src := 276) (dst := 280) Tryz.underlying276 Tryz.underlying280 (by kernel_rfl) hc'
  go_enter Tryz.func224, Tryz.ntmps224
  go_wp2
  first | go_end0 | (simp only [Exit.inBlock, Exit.then]; refine bodyPost_ret (results_none rfl _ _ _) rfl ?_) | refine bodyPost_ret (results_none rfl _ _ _) rfl ?_
  go_wp2
  go_end0
  exact ⟨rfl, rfl⟩

/-- '(*sync.Once).Do', done already. -/
theorem do_done (a : Addr) (d : Int) (hd : ¬ d = 0) (fv : Value) (w : World) (h0 : w.cell? a = some (.int .u32 d)) :
    Calls Tryz.prog 174 #[.pointer (some a), fv] w fun e w' => e = .returned (.tuple #[]) ∧ w' = w := by
  have hl := run_call_load (P := Tryz.prog) Tryz.func223 (by kernel_rfl) (by kernel_rfl) (by kernel_rfl) .u32 (by kernel_rfl) h0
  have hnot : ∀ (x : Bool) (w : World), (Op.unary .not (.bool x)).run Tryz.prog w = .ok (.bool (!x)) w := fun _ _ => rfl
  have hd' : (d != 0) = true := by simp [hd]
  go_enter Tryz.func174, Tryz.ntmps174
  go_wp2
  go_end0
  exact ⟨rfl, rfl⟩
end Go.Proofs.YtiapokojlkdddaaGreat.Once

/- Bits of natural numbers in Go's integers. -/
namespace Go.Proofs.YtiapokojlkdddaaGreat.GF
open Go.RowKit

theorem i64_xor (a b : Nat) (ha : a < 9223372036854775808) (hb : b < 9223372036854775808) : bits .xor .i64 (a : Int) (b : Int) = ((a ^^^ b : Nat) : Int) := by
  have hx : a ^^^ b < 2 ^ 63 := Nat.xor_lt_two_pow (by omega) (by omega)
  have h1 : (BitVec.ofInt 64 (a : Int)).toNat = a := by
    rw [BitVec.ofInt_natCast, BitVec.toNat_ofNat]; exact Nat.mod_eq_of_lt (by omega)
  have h2 : (BitVec.ofInt 64 (b : Int)).toNat = b := by
    rw [BitVec.ofInt_natCast, BitVec.toNat_ofNat]; exact Nat.mod_eq_of_lt (by omega)
  show IntKind.i64.wrap ((BitVec.ofInt 64 (a : Int) ^^^ BitVec.ofInt 64 (b : Int)).toNat : Int) = _
  rw [BitVec.toNat_xor, h1, h2]
  exact IntWalk.i64_in _ (by omega)
theorem u8_xor' (a b : Nat) (ha : a < 256) (hb : b < 256) : bits .xor .u8 (a : Int) (b : Int) = ((a ^^^ b : Nat) : Int) := u8_xor_nat a b ha hb
theorem and1 (k : IntKind) (j : Nat) (hj : j ≤ k.bits) (hk : ∀ n : Int, 0 ≤ n → n < 2 ^ j → k.wrap n = n) (h1 : 1 ≤ j) (a : Nat) (ha : a < 2 ^ j) : bits .and k (a : Int) 1 = ((a % 2 : Nat) : Int) := by
  have h := bits_mask k j hj hk 1 h1 (a : Int) (by omega) (by exact_mod_cast ha)
  simpa using h
theorem bit_eq (k : IntKind) (j : Nat) (hj : j ≤ k.bits) (hk : ∀ n : Int, 0 ≤ n → n < 2 ^ j → k.wrap n = n) (h1 : 1 ≤ j) (a i : Nat) (ha : a < 2 ^ j) :
    (bits .and k ((a : Int) / 2 ^ i) 1 == 1) = a.testBit i := by
  have h2 : ((a : Int) / 2 ^ i) = ((a / 2 ^ i : Nat) : Int) := by simp
  rw [h2, and1 k j hj hk h1 _ (Nat.lt_of_le_of_lt (Nat.div_le_self _ _) ha), Nat.testBit_eq_decide_div_mod_eq]
  rw [Bool.eq_iff_iff]; simp; omega
theorem bit_u8 (a i : Nat) (ha : a < 256) : (bits .and .u8 ((a : Int) / 2 ^ i) 1 == 1) = a.testBit i :=
  bit_eq .u8 8 (by decide) (fun n h0 h1 => by rw [IntKind.wrap_u8']; omega) (by decide) a i ha
theorem bit_i64 (a i : Nat) (ha : a < 4294967296) : (bits .and .i64 ((a : Int) / 2 ^ i) 1 == 1) = a.testBit i :=
  bit_eq .i64 32 (by decide) (fun n h0 h1 => by rw [IntKind.wrap_i64]; omega) (by decide) a i ha
theorem ret_bool {a b : Bool} (h : a = b) : Ending.returned (.bool a) = .returned (.bool b) := by rw [h]
theorem ret_int {k : IntKind} {a b : Int} (h : a = b) : Ending.returned (.int k a) = .returned (.int k b) := by rw [h]
theorem val_int {k : IntKind} {a b : Int} (h : a = b) : Value.int k a = Value.int k b := by rw [h]
theorem ret_nat {k : IntKind} {a b : Nat} (h : a = b) : Ending.returned (.int k (a : Int)) = .returned (.int k (b : Int)) := by rw [h]
theorem ret_pair {k : IntKind} {a b : Nat} {c : Bool} (h : a = b) : Ending.returned (.tuple #[.int k (a : Int), .bool c]) = .returned (.tuple #[.int k (b : Int), .bool c]) := by rw [h]
theorem tmod255 (n : Int) : n.tmod 255 = if 0 ≤ n then n % 255 else -((-n) % 255) := by
  split
  · exact Int.tmod_eq_emod_of_nonneg (by assumption)
  · have h := Int.neg_tmod (-n) 255
    rw [Int.neg_neg] at h
    rw [h, Int.tmod_eq_emod_of_nonneg (by omega)]
end Go.Proofs.YtiapokojlkdddaaGreat.GF
