/- Of the program, joined: Kit, CfMath, CfCode1, CfCode2, CfCode6, CfCode5. -/
import Derived.Below
import Derived.Laws.OwnMore
import Derived.Deep.Draws
import Derived.Lib.Hide
import Derived.Laws.NewBlocks
import Derived.Maps.AppendAt
import Derived.OwnWalk
import Derived.RegionTactic
import Derived.Test.YtjoghbmedfmioabRows
import Derived.WalkKit
import Derived.ProofKit
import Derived.BigQuiet
import Derived.Lib.QuietBelow
import Derived.Deep.RegionHeld
namespace Go.Proofs.Ytjoghbmedfmioab
open Go.RowKit
def Row (w : World) (A : Option Addr) (xs : List Value) : Prop :=
 ∀ k u, xs[k]? = some u → ∃ b off, A = some ⟨b, off, none⟩ ∧ w.cell? ⟨b, off + k, none⟩ = some u
theorem cell_lt {w : World} {a : Addr} {u : Value} (h : w.cell? a = some u) : a.block < w.heap.size := by
 rcases Nat.lt_or_ge a.block w.heap.size with hlt | hge
 ·exact hlt
 ·unfold World.cell? at h; rw [Array.getElem?_eq_none hge] at h; cases h
section
variable {w w' : World} {A : Option Addr} {xs : List Value}
theorem Row.nil (w : World) (A : Option Addr) : Row w A [] := fun _ _ h => by simp at h
theorem Row.keep (h : Row w A xs) (hk : ∀ p : Addr, p.block < w.heap.size → w'.cell? p = w.cell? p) : Row w' A xs := fun k u hu => by
 obtain ⟨b, off, rfl, hc⟩ := h k u hu
 exact ⟨b, off, rfl, by rw [hk _ (cell_lt hc)]; exact hc⟩
theorem Row.below (h : Row w A xs) (hb : Below w.heap.size w w') : Row w' A xs := h.keep fun _ hp => hb.cell hp
theorem Row.alloc (h : Row w A xs) (o : Obj) : Row (w.alloc o) A xs := h.keep fun p hp => World.cell?_alloc_lt w o p hp
theorem Row.of_own {base : Nat} {e : TypeId} {n c : Nat} (h : w.ownsRow base e 1 (.slice A n c) n xs) : Row w A xs := by
 intro k u hu
 rcases h.2 with ⟨he, hn⟩ | ⟨g, cap, cur, hv, _, hh, _, _, _, ht⟩
 ·have := h.1; subst hn; have : xs = [] := List.eq_nil_of_length_eq_zero (by simpa using this); subst this; simp at hu
 ·injection hv with hA
  subst hA
  refine ⟨g, 0, rfl, ?_⟩
  have hk : k < n * 1 := by have := h.1; have := (List.getElem?_eq_some_iff.1 hu).1; omega
  rw [← ht, List.getElem?_take, if_pos hk, Array.getElem?_toList] at hu
  simp [World.cell?, hh, hu]
theorem Row.at_ (h : Row w A xs) {k : Nat} (hk : k < xs.length) : ∃ b off, A = some ⟨b, off, none⟩ ∧ w.cell? ⟨b, off + k, none⟩ = some xs[k] :=
 h k _ (List.getElem?_eq_getElem hk)
end
def bv (l : List Nat) : List Value := l.map fun n : Nat => Value.int .u8 (n : Int)
theorem bv_length (l : List Nat) : (bv l).length = l.length := by simp [bv]
theorem bv_append (a b : List Nat) : bv (a ++ b) = bv a ++ bv b := by simp [bv]
structure Bytes (w : World) (A : Option Addr) (l : List Nat) : Prop where
 row : Row w A (bv l)
 lt : ∀ c ∈ l, c < 256
section
variable {w w' : World} {A : Option Addr} {l : List Nat}
theorem Bytes.nil (w : World) (A : Option Addr) : Bytes w A [] := ⟨Row.nil w A, by simp⟩
theorem Bytes.below (h : Bytes w A l) (hb : Below w.heap.size w w') : Bytes w' A l := ⟨h.row.below hb, h.lt⟩
theorem Bytes.drew (h : Bytes w A l) : Bytes w.drew A l := ⟨h.row, h.lt⟩
theorem Bytes.alloc (h : Bytes w A l) (o : Obj) : Bytes (w.alloc o) A l := ⟨h.row.alloc o, h.lt⟩
theorem Bytes.at_ (h : Bytes w A l) {k : Nat} (hk : k < l.length) : ∃ b off, A = some ⟨b, off, none⟩ ∧ w.cell? ⟨b, off + k, none⟩ = some (.int .u8 (l[k] : Int)) ∧ l[k] < 256 := by
 obtain ⟨b, off, e, hc⟩ := h.row.at_ (k := k) (by simpa [bv] using hk)
 exact ⟨b, off, e, by simpa [bv] using hc, h.lt _ (List.getElem_mem _)⟩
end
def Block (w : World) (g : Nat) (t : TypeId) (cs : Array Value) : Prop := w.heap[g]? = some (.cells cs t (0, 0))
section
variable {w w' : World} {g : Nat} {t : TypeId} {cs : Array Value}
theorem Block.lt (h : Block w g t cs) : g < w.heap.size := by
 rcases Nat.lt_or_ge g w.heap.size with hlt | hge
 ·exact hlt
 ·unfold Block at h; rw [Array.getElem?_eq_none hge] at h; cases h
theorem Block.cell (h : Block w g t cs) (i : Nat) : w.cell? ⟨g, i, none⟩ = cs[i]? := by
 unfold Block at h; simp [World.cell?, h]
theorem Block.frozen (h : Block w g t cs) (i : Nat) : w.frozen? ⟨g, i, none⟩ = false := by
 unfold Block at h; simp [World.frozen?, h]
theorem Block.new (w : World) (t : TypeId) (cs : Array Value) : Block (w.alloc (.cells cs t)) w.heap.size t cs := heap_alloc_new w _
theorem Block.drew (h : Block w g t cs) : Block w.drew g t cs := h
theorem Block.alloc (h : Block w g t cs) (o : Obj) : Block (w.alloc o) g t cs := (Below.heap_alloc w o g h.lt).trans h
theorem Block.set_ (h : Block w g t cs) (i : Nat) (u : Value) : Block (w.setCell ⟨g, i, none⟩ u) g t (cs.setIfInBounds i u) := by
 unfold Block at h ⊢
 simp [World.setCell, Array.getElem?_modify, h]
theorem Block.far (h : Block w g t cs) {p : Addr} (hp : g ≠ p.block) (u : Value) : Block (w.setCell p u) g t cs := (Below.heap_setCell w p u g hp).trans h
theorem Block.below {B : Nat} (h : Block w g t cs) (hb : Below B w w') (hg : g < B) : Block w' g t cs := (hb.block g hg).trans h
end
def Own (w : World) (B : Nat) (e : TypeId) (v : Value) (xs : List Value) : Prop := w.ownsRow B e 1 v xs.length xs
section
variable {w w' : World} {B : Nat} {e : TypeId} {v : Value} {xs : List Value}
theorem Own.nil (w : World) (B : Nat) (e : TypeId) : Own w B e (.slice none 0 0) [] := ⟨by simp, .inl ⟨rfl, rfl⟩⟩
theorem Own.lit (w : World) (B : Nat) (e : TypeId) (cs : Array Value) (n : Nat) (hB : B ≤ w.heap.size) (hn : cs.size = n) (hm : n ≤ maxLen) : Own (w.alloc (.cells cs e)) B e (.slice (some ⟨w.heap.size, 0, none⟩) n n) cs.toList := by
 have h := World.ownsRow_lit (base := B) (e := e) (size := 1) w cs n hB hm (by omega)
 unfold Own
 rw [Array.length_toList, hn]
 exact h
theorem Own.form (h : Own w B e v xs) : ∃ A c, v = .slice A xs.length c ∧ Row w A xs ∧ (∀ b, v.ownBlock = some b → B ≤ b ∧ b < w.heap.size) := by
 have hh := h
 refine (show ∃ A c, v = .slice A xs.length c ∧ Row w A xs by
  rcases h.2 with ⟨rfl, hn⟩ | ⟨g, cap, cur, rfl, _⟩
  ·have : xs = [] := List.eq_nil_of_length_eq_zero (by omega)
   subst this
   exact ⟨none, 0, rfl, Row.nil _ _⟩
  ·exact ⟨_, cap, rfl, Row.of_own hh⟩).imp fun A ⟨c, h1, h2⟩ => ⟨c, h1, h2, hh.lt⟩
theorem Own.drew (h : Own w B e v xs) : Own w.drew B e v xs := h
theorem Own.alloc (h : Own w B e v xs) (o : Obj) : Own (w.alloc o) B e v xs := World.ownsRow.alloc h o
theorem Own.grown {row : Option Nat} (h : Own w B e v xs) (hg : w.grownBy w' row) (hne : v.ownBlock = none ∨ v.ownBlock ≠ row) : Own w' B e v xs := World.ownsRow.kept h hg hne
theorem Own.below (h : Own w B e v xs) (hb : Below w.heap.size w w') : Own w' B e v xs :=
 h.grown (row := none) ⟨hb.os, hb.tape, hb.output, hb.size, fun k hk _ => hb.block k hk⟩ (by cases v.ownBlock <;> simp)
theorem Own.more {B' : Nat} (h : Own w B e v xs) (hB : B' ≤ B) : Own w B' e v xs := by
 refine ⟨h.1, ?_⟩
 rcases h.2 with h2 | ⟨g, cap, cur, h1, h2, h3⟩
 ·exact .inl h2
 ·exact .inr ⟨g, cap, cur, h1, by omega, h3⟩
end
section
variable {P : Program} (w : World)
theorem run_append_nothing (t ty e : TypeId) (i : TypeInfo) (B : Nat) (ht : P.underlying t = some (.slice e)) (hi : P.info? e = some i)
  (v : Value) (xs : List Value) (hown : Own w B e v xs) (c : Nat) : (Builtin.append_ #[t, t] ty #[v, .slice none 0 c]).run P w = .ok v w := by
 rcases hown.2 with ⟨rfl, _⟩ | ⟨g, cap, cur, rfl, _, _, hnc, _⟩
 ·simp [Builtin.append_, run_underlying ht, sizeOf, typeInfo, hi, Builtin.lenOf, Builtin.firstCells]
 ·simp [Builtin.append_, run_underlying ht, sizeOf, typeInfo, hi, Builtin.lenOf, Builtin.firstCells, hnc, storeCells]
theorem run_app (B : Nat) (t ty e : TypeId) (z : Value) (bytes : Nat) (ht : P.underlying t = some (.slice e)) (hinfo : (P.info? e).map (fun i => (i.zero, i.size, i.bytes)) = some (some z, 1, bytes)) (hz : z.cells.size = 1)
  (v : Value) (xs : List Value) (hown : Own w B e v xs) (A : Option Addr) (m c : Nat) (ys : List Value) (hm : ys.length = m) (hr : Row w A ys) (h1 : ∀ u ∈ ys, u.oneCell' = true)
  (hb : 0 < bytes) (hlen : (xs.length + m) * bytes ≤ 140737488355328) (hB : B ≤ w.heap.size) :
  ∃ v' w', (Builtin.append_ #[t, t] ty #[v, .slice A m c]).run P w = .ok v' w' ∧ Own w' B e v' (xs ++ ys) ∧ w.grownBy w' v.ownBlock ∧ (v'.ownBlock = v.ownBlock ∨ v'.ownBlock = some w.heap.size) := by
 obtain ⟨i, hi, hi1, hi2, hi3⟩ := info_parts hinfo
 subst hm
 have h63 : xs.length + ys.length ≤ maxLen := by
  have := Nat.le_mul_of_pos_right (xs.length + ys.length) hb
  simp only [maxLen]; omega
 cases A with
 | none =>
  have hy : ys = [] := by
   cases ys with
   | nil => rfl
   | cons y ys => obtain ⟨b, off, h, _⟩ := hr 0 y rfl; cases h
  subst hy
  refine ⟨v, w, run_append_nothing w t ty e i B ht hi v xs hown c, ?_, World.grownBy.refl w _, .inl rfl⟩
  rw [List.append_nil]; exact hown
 | some ad =>
  have hcells : ∀ j u, ys[j]? = some u → w.cell? (ad.add j) = some u := by
   intro j u hu
   obtain ⟨b, off, h, hc⟩ := hr j u hu
   obtain rfl : ad = ⟨b, off, none⟩ := by injection h
   rw [show (⟨b, off, none⟩ : Addr).add j = ⟨b, off + j, none⟩ by unfold Addr.add; split <;> simp_all]
   exact hc
  obtain ⟨v', w', hrun, h2, h3, _, h5⟩ := run_append_own_at (P := P) w B t ty e i z 1 bytes ht hi hi1 hi2 hi3 hz (by omega) v xs.length xs hown ad ys.length c ys (by omega) hcells h1 h63 hlen hB
  refine ⟨v', w', hrun, ?_, h3, h5⟩
  unfold Own
  rw [List.length_append]
  exact h2
theorem wp_app {o : Oper} {a : Act} {K : Act → World → Prop} {Q : Exit → Act → World → Prop} (s x : Operand) (t : TypeId)
  (ho : o.op = .call { callee := .builtin .append, args := #[s, x], argTypes := #[t, t] })
  (B : Nat) (e : TypeId) (z : Value) (bytes : Nat) (ht : P.underlying t = some (.slice e)) (hinfo : (P.info? e).map (fun i => (i.zero, i.size, i.bytes)) = some (some z, 1, bytes)) (hz : z.cells.size = 1) (hb : 0 < bytes)
  (v : Value) (xs : List Value) (hs : a.eval s = v) (hown : Own w B e v xs) (A : Option Addr) (m c : Nat) (ys : List Value) (hx : a.eval x = .slice A m c) (hm : ys.length = m) (hr : Row w A ys) (h1 : ∀ u ∈ ys, u.oneCell' = true)
  (hlen : (xs.length + m) * bytes ≤ 140737488355328) (hB : B ≤ w.heap.size)
  (h : ∀ v' w', Own w' B e v' (xs ++ ys) → w.grownBy w' v.ownBlock → (v'.ownBlock = v.ownBlock ∨ v'.ownBlock = some w.heap.size) → K (a.put o.dst v') w') : o.wp P a w K Q := by
 obtain ⟨v', w', hrun, h2, h3, h4⟩ := run_app (P := P) w B t o.type e z bytes ht hinfo hz v xs hown A m c ys hm hr h1 hb hlen hB
 unfold Oper.wp execOp
 simp only [ho, resolve, invoke, builtin, Sem.run_bind, Sem.run_pure, Result.andThen_ok, List.map_toArray, List.map_cons, List.map_nil, hs, hx, hrun]
 exact h v' w' h2 h3 h4
theorem wpList_app {ops : Array Oper} {rest : List Oper} {o : Oper} {a : Act} {Q : Exit → Act → World → Prop} (hgd : o.guard = none) (s x : Operand) (t : TypeId)
  (ho : o.op = .call { callee := .builtin .append, args := #[s, x], argTypes := #[t, t] })
  (B : Nat) (e : TypeId) (z : Value) (bytes : Nat) (ht : P.underlying t = some (.slice e)) (hinfo : (P.info? e).map (fun i => (i.zero, i.size, i.bytes)) = some (some z, 1, bytes)) (hz : z.cells.size = 1) (hb : 0 < bytes)
  (v : Value) (xs : List Value) (hs : a.eval s = v) (hown : Own w B e v xs) (A : Option Addr) (m c : Nat) (ys : List Value) (hx : a.eval x = .slice A m c) (hm : ys.length = m) (hr : Row w A ys) (h1 : ∀ u ∈ ys, u.oneCell' = true)
  (hlen : (xs.length + m) * bytes ≤ 140737488355328) (hB : B ≤ w.heap.size)
  (h : ∀ v' w', Own w' B e v' (xs ++ ys) → w.grownBy w' v.ownBlock → (v'.ownBlock = v.ownBlock ∨ v'.ownBlock = some w.heap.size) → wpList P ops Q rest (a.put o.dst v') w') : wpList P ops Q (o :: rest) a w :=
 wpList_plain hgd fun _ hK => wp_app w s x t ho B e z bytes ht hinfo hz hb v xs hs hown A m c ys hx hm hr h1 hlen hB fun v' w' h2 h3 h4 => hK _ _ (h v' w' h2 h3 h4)
end
theorem Own.grew {w w' : World} {B : Nat} {e : TypeId} {v : Value} {xs : List Value} (h : Own w B e v xs) (hB : B ≤ w.heap.size) (hg : w.grownBy w' v.ownBlock) : Below B w w' :=
 (Below.refl B w).grown hg hB (fun _ hk => (h.lt _ hk).1)
theorem bv_one (l : List Nat) : ∀ u ∈ bv l, u.oneCell' = true := by
 intro u hu; obtain ⟨n, _, rfl⟩ := List.mem_map.1 hu; rfl
theorem Row.new (w : World) (cs : Array Value) (t : TypeId) (fr : Nat × Nat) : Row (w.alloc (.cells cs t fr)) (some ⟨w.heap.size, 0, none⟩) cs.toList := by
 intro k v hv
 refine ⟨w.heap.size, 0, rfl, ?_⟩
 have h : (w.alloc (.cells cs t fr)).heap[w.heap.size]? = some (.cells cs t fr) := heap_alloc_new w _
 rw [Nat.zero_add]
 simp only [World.cell?, h]
 simpa using hv
theorem Below.drewN' {B : Nat} {a w : World} (h : Below B a w) (n : Nat) : Below B a (w.drewN n) := ⟨h.os, h.tape, h.output, h.size, h.block⟩
theorem take_succ' {α : Type} (l : List α) {k : Nat} (hk : k < l.length) : l.take (k + 1) = l.take k ++ [l[k]] := by
 rw [List.take_succ_eq_append_getElem hk]
end Go.Proofs.Ytjoghbmedfmioab

namespace Go.Proofs.Ytjoghbmedfmioab.Cf
set_option linter.unusedVariables false
structure C where
 code : Nat
 n : Int
 k : Int
 d : Int
 r : Int
 t : Int
 w : Int
structure Sh where
 a : Int
 b : Int
 s : Int
 o : Int
def lim (a : Nat) : Nat := 255 / Nat.gcd 255 a
def pairs (k : Int) : Int := k * (k - 1) / 2
def GReed (c : C) : Prop := 1 ≤ c.k ∧ c.k ≤ c.n ∧ c.d = 0 ∧ c.r = 0
def GMsr (c : C) : Prop := (2 ≤ c.k ∧ 2 * c.k ≤ c.d + 2 ∧ c.d < c.n ∧ c.d - c.k + 1 ≤ 16) ∧ c.n + (c.d - 2 * c.k + 2) ≤ lim (c.d - c.k + 1).toNat ∧ c.r = 0
def GMbr (c : C) : Prop := 1 ≤ c.k ∧ c.k ≤ c.d ∧ c.d < c.n ∧ c.r = 0
def GTr (c : C) : Prop := 1 ≤ c.k ∧ c.k < c.n ∧ c.n ≤ 23 ∧ c.t = 0 ∧ c.d = 0 ∧ c.r = 0
def GLo (c : C) : Prop := 1 ≤ c.r ∧ c.r < c.n ∧ c.n % (c.r + 1) = 0 ∧ 255 % (c.r + 1) = 0 ∧ 1 ≤ c.k ∧ c.k ≤ c.n ∧ c.k % c.r = 0 ∧ c.d = 0
instance (c : C) : Decidable (GReed c) := inferInstanceAs (Decidable (_ ∧ _))
instance (c : C) : Decidable (GMsr c) := inferInstanceAs (Decidable (_ ∧ _))
instance (c : C) : Decidable (GMbr c) := inferInstanceAs (Decidable (_ ∧ _))
instance (c : C) : Decidable (GTr c) := inferInstanceAs (Decidable (_ ∧ _))
instance (c : C) : Decidable (GLo c) := inferInstanceAs (Decidable (_ ∧ _))
def kReed (c : C) : Option Sh := if GReed c then some ⟨1, c.k, c.k, c.k + 2 * c.t⟩ else none
def kMsr (c : C) : Option Sh := if GMsr c then some ⟨c.d - c.k + 1, c.k * (c.d - c.k + 1), c.k, c.d + 2 * c.t⟩ else none
def kMbr (c : C) : Option Sh := if GMbr c then some ⟨c.d, c.k * c.d - pairs c.k, c.k, c.d + 2 * c.t⟩ else none
def kTr (c : C) : Option Sh := if GTr c then some ⟨c.n - 1, c.k * (c.n - 1) - pairs c.k, c.k, c.n - 1⟩ else none
def kLo (c : C) : Option Sh := if GLo c then some ⟨1, c.k, c.k + c.k / c.r - 1, if c.t = 0 then c.r else c.k + c.k / c.r - 1 + 2 * c.t⟩ else none
def kind (c : C) : Option Sh :=
 if c.code = 1 then kReed c else if c.code = 2 then kMsr c else if c.code = 3 then kMbr c else if c.code = 4 then kTr c else if c.code = 5 then kLo c else none
def In (c : C) : Prop := 1 ≤ c.n ∧ c.n ≤ 255 ∧ 0 ≤ c.t ∧ c.t ≤ 127
instance (c : C) : Decidable (In c) := inferInstanceAs (Decidable (_ ∧ _))
def shp (c : C) : Option Sh := if In c then kind c else none
def Fit (c : C) (s : Sh) : Prop := s.s + 2 * c.t ≤ c.w ∧ c.w ≤ c.n ∧ s.o < c.n ∧ s.s + 2 * c.t < c.n
instance (c : C) (s : Sh) : Decidable (Fit c s) := inferInstanceAs (Decidable (_ ∧ _))
def chk (c : C) : Option Sh := match shp c with
 | none => none
 | some s => if Fit c s then some s else none
theorem chk_some {c : C} {s : Sh} (h : chk c = some s) : In c ∧ kind c = some s ∧ Fit c s := by
 unfold chk at h
 unfold shp at h
 by_cases hi : In c
 ·rw [if_pos hi] at h
  cases hk : kind c with
  | none => rw [hk] at h; cases h
  | some s' =>
   rw [hk] at h
   by_cases hf : Fit c s'
   ·simp only [if_pos hf] at h
    cases h
    exact ⟨hi, rfl, hf⟩
   ·simp only [if_neg hf] at h
    cases h
 ·rw [if_neg hi] at h
  cases h
theorem kind_some {c : C} {s : Sh} (h : kind c = some s) :
  (c.code = 1 ∧ GReed c ∧ s = ⟨1, c.k, c.k, c.k + 2 * c.t⟩) ∨
  (c.code = 2 ∧ GMsr c ∧ s = ⟨c.d - c.k + 1, c.k * (c.d - c.k + 1), c.k, c.d + 2 * c.t⟩) ∨
  (c.code = 3 ∧ GMbr c ∧ s = ⟨c.d, c.k * c.d - pairs c.k, c.k, c.d + 2 * c.t⟩) ∨
  (c.code = 4 ∧ GTr c ∧ s = ⟨c.n - 1, c.k * (c.n - 1) - pairs c.k, c.k, c.n - 1⟩) ∨
  (c.code = 5 ∧ GLo c ∧ s = ⟨1, c.k, c.k + c.k / c.r - 1, if c.t = 0 then c.r else c.k + c.k / c.r - 1 + 2 * c.t⟩) := by
 unfold kind at h
 by_cases h1 : c.code = 1
 ·rw [if_pos h1] at h; unfold kReed at h
  by_cases hg : GReed c
  ·rw [if_pos hg] at h; exact .inl ⟨h1, hg, (Option.some.inj h).symm⟩
  ·rw [if_neg hg] at h; cases h
 rw [if_neg h1] at h
 by_cases h2 : c.code = 2
 ·rw [if_pos h2] at h; unfold kMsr at h
  by_cases hg : GMsr c
  ·rw [if_pos hg] at h; exact .inr (.inl ⟨h2, hg, (Option.some.inj h).symm⟩)
  ·rw [if_neg hg] at h; cases h
 rw [if_neg h2] at h
 by_cases h3 : c.code = 3
 ·rw [if_pos h3] at h; unfold kMbr at h
  by_cases hg : GMbr c
  ·rw [if_pos hg] at h; exact .inr (.inr (.inl ⟨h3, hg, (Option.some.inj h).symm⟩))
  ·rw [if_neg hg] at h; cases h
 rw [if_neg h3] at h
 by_cases h4 : c.code = 4
 ·rw [if_pos h4] at h; unfold kTr at h
  by_cases hg : GTr c
  ·rw [if_pos hg] at h; exact .inr (.inr (.inr (.inl ⟨h4, hg, (Option.some.inj h).symm⟩)))
  ·rw [if_neg hg] at h; cases h
 rw [if_neg h4] at h
 by_cases h5 : c.code = 5
 ·rw [if_pos h5] at h; unfold kLo at h
  by_cases hg : GLo c
  ·rw [if_pos hg] at h; exact .inr (.inr (.inr (.inr ⟨h5, hg, (Option.some.inj h).symm⟩)))
  ·rw [if_neg hg] at h; cases h
 rw [if_neg h5] at h
 cases h
theorem pairs_two (k : Int) : 2 * pairs k = k * (k - 1) := by
 unfold pairs
 have h : k * (k - 1) % 2 = 0 := by
  rcases (show k % 2 = 0 ∨ k % 2 = 1 by omega) with h | h
  ·rw [Int.mul_emod, h]; simp
  ·rw [Int.mul_emod, show (k - 1) % 2 = 0 by omega]; simp
 omega
theorem lim_le (a : Nat) : lim a ≤ 255 := Nat.div_le_self _ _
theorem chk_bytes {c : C} {s : Sh} (h : chk c = some s) : (1 ≤ c.n ∧ c.n ≤ 255) ∧ (1 ≤ c.k ∧ c.k ≤ 255) ∧ (0 ≤ c.d ∧ c.d ≤ 255) ∧ (0 ≤ c.r ∧ c.r ≤ 255) ∧ (0 ≤ c.t ∧ c.t ≤ 127) ∧ (1 ≤ c.w ∧ c.w ≤ 255) := by
 obtain ⟨hi, hk, hf⟩ := chk_some h
 unfold In at hi
 unfold Fit at hf
 rcases kind_some hk with ⟨-, hg, rfl⟩ | ⟨-, hg, rfl⟩ | ⟨-, hg, rfl⟩ | ⟨-, hg, rfl⟩ | ⟨-, hg, rfl⟩
 ·unfold GReed at hg; dsimp only at hf; omega
 ·unfold GMsr at hg; dsimp only at hf; omega
 ·unfold GMbr at hg; dsimp only at hf; omega
 ·unfold GTr at hg; dsimp only at hf; omega
 ·unfold GLo at hg; dsimp only at hf
  have := Int.ediv_nonneg (show 0 ≤ c.k by omega) (show 0 ≤ c.r by omega)
  have h2 : 1 ≤ c.k / c.r := by
   have hm := Int.emod_add_mul_ediv c.k c.r
   rcases Int.lt_or_le 0 (c.k / c.r) with h3 | h3
   ·omega
   ·have : c.k / c.r = 0 := by omega
    rw [this] at hm
    omega
  omega
end Go.Proofs.Ytjoghbmedfmioab.Cf

namespace Go.Proofs.Ytjoghbmedfmioab.Cf
open Go.RowKit
attribute [local go_sem] Oper.semAt_some
set_option linter.unusedVariables false
def cV (c : C) : Array Value := #[.int .u8 (c.code : Nat), .int .i64 c.n, .int .i64 c.k, .int .i64 c.d, .int .i64 c.r, .int .i64 c.t, .int .i64 c.w]
def sV : Option Sh → Value
 | none => .agg #[.int .i64 0, .int .i64 0, .int .i64 0, .int .i64 0, .int .i64 0]
 | some s => .agg #[.int .i64 s.a, .int .i64 s.b, .int .i64 s.s, .int .i64 s.o, .int .i64 1]
def C.Ok (c : C) : Prop := c.code < 256 ∧ (-9223372036854775808 ≤ c.n ∧ c.n ≤ 9223372036854775807) ∧ (-9223372036854775808 ≤ c.k ∧ c.k ≤ 9223372036854775807) ∧ (-9223372036854775808 ≤ c.d ∧ c.d ≤ 9223372036854775807) ∧ (-9223372036854775808 ≤ c.r ∧ c.r ≤ 9223372036854775807) ∧ (-9223372036854775808 ≤ c.t ∧ c.t ≤ 9223372036854775807) ∧ (-9223372036854775808 ≤ c.w ∧ c.w ≤ 9223372036854775807)
theorem ret_nat {k : IntKind} {a b : Nat} (h : a = b) : Ending.returned (.int k (a : Int)) = .returned (.int k (b : Int)) := by rw [h]
theorem pairs_nonneg (k : Int) : 0 ≤ k * (k - 1) := by
 rcases Int.lt_or_le 0 k with h | h
 ·exact Int.mul_nonneg (by omega) (by omega)
 ·have := Int.mul_nonneg (show 0 ≤ -k by omega) (show 0 ≤ -(k - 1) by omega)
  rw [Int.neg_mul_neg] at this
  exact this
theorem pairs_calls (k : Int) (h1 : -1000 ≤ k) (h2 : k ≤ 1000) (w : World) : Calls Try.prog 53 #[.int .i64 k] w fun e w' => e = .returned (.int .i64 (pairs k)) ∧ w' = w := by
 have h0 := pairs_nonneg k
 have h3 : k * (k - 1) ≤ 1000000000 := by
  have ha : k * (k - 1) = (1000 - k) * (-1000 - k) + (1000000 - k) := by
   rw [Int.sub_mul, Int.mul_sub, Int.mul_sub, Int.mul_sub]
   omega
  have hb : 0 ≤ (1000 - k) * (1000 + k) := Int.mul_nonneg (by omega) (by omega)
  have hc : (1000 - k) * (-1000 - k) = -((1000 - k) * (1000 + k)) := by
   rw [← Int.mul_neg]
   congr 1
   omega
  omega
 have hp : pairs k = k * (k - 1) / 2 := rfl
 obtain ⟨m, hm⟩ : ∃ m, k * (k - 1) = m := ⟨_, rfl⟩
 rw [hm] at h0 h3 hp
 have w1 : IntKind.i64.wrap (k - 1) = k - 1 := IntWalk.i64_in _ (by omega)
 have w2 : IntKind.i64.wrap (k * (k - 1)) = m := by rw [hm]; exact IntWalk.i64_in _ (by omega)
 have w3 : m.tdiv 2 = m / 2 := Int.tdiv_eq_ediv_of_nonneg h0
 have w4 : IntKind.i64.wrap (m / 2) = m / 2 := IntWalk.i64_in _ (by omega)
 rw [hp]
 clear hp
 have hm' := Lib.hid hm
 clear hm
 go_enter Try.func53, Try.ntmps53
 go_wp2
 go_ret
 exact ⟨rfl, rfl⟩
theorem gcd_step (a b : Nat) : Nat.gcd b (a % b) = Nat.gcd a b := by
 rw [Nat.gcd_comm b, ← Nat.gcd_rec, Nat.gcd_comm]
set_option maxHeartbeats 1600000 in
theorem divisor_calls (a b : Nat) (ha : a < 1000) (hb : b < 1000) (w : World) :
  Calls Try.prog 69 #[.int .i64 a, .int .i64 b] w fun e w' => e = .returned (.int .i64 (Nat.gcd a b : Nat)) ∧ ∃ n, w' = w.drewN n := by
 go_enter Try.func69, Try.ntmps69
 go_wp2
 go_loopw [0, 1] (fun x y wr => ∃ c d n : Nat, c < 1000 ∧ d < 1000 ∧ x = .int .i64 c ∧ y = .int .i64 d ∧ Hid (Nat.gcd c d = Nat.gcd a b) ∧ wr = w.drewN n) (fun _ y _ => (intOf y).toNat)
 case atStart => exact ⟨a, b, 0, ha, hb, rfl, rfl, Lib.hid rfl, rfl⟩
 case round =>
  obtain ⟨c, d, n, hc, hd, rfl, rfl, HG, rfl⟩ := hrel
  by_cases d0 : d = 0
  ·subst d0
   go_wp2
   go_ret
   exact ⟨ret_nat (by rw [← HG.out, Nat.gcd_zero_right]), n, rfl⟩
  ·have h1 : decide ((0 : Int) < (d : Int)) = true := decide_eq_true (by omega)
   have hd0 : (d : Int) ≠ 0 := by omega
   go_wp2
   go_region
   all_goals
    go_wp2
    go_roundw
    case rel => exact ⟨d, c % d, n + 1, hd, Nat.lt_of_le_of_lt (Nat.mod_le _ _) hc, rfl, by go_num, by rw [gcd_step]; exact HG, rfl⟩
    case measure => have := Nat.mod_lt c (show 0 < d by omega); simp [intOf]; omega
def Spr (c : C) : Prop := c.d - c.k + 1 ≤ 16 ∧ c.n + (c.d - 2 * c.k + 2) ≤ lim (c.d - c.k + 1).toNat
instance (c : C) : Decidable (Spr c) := inferInstanceAs (Decidable (_ ∧ _))
set_option maxRecDepth 100000 in
set_option maxHeartbeats 1600000 in
theorem spreads_calls (c : C) (h1 : 2 ≤ c.k) (h2 : 2 * c.k ≤ c.d + 2) (h3 : c.d < c.n) (h4 : c.n ≤ 255) (w : World) : Calls Try.prog 51 #[.agg (cV c)] w fun e w' => e = .returned (.bool (decide (Spr c))) ∧ Below w.heap.size w w' := by
 obtain ⟨code, n, k, d, r, t, ww⟩ := c
 dsimp only at h1 h2 h3 h4
 obtain ⟨a, ha⟩ : ∃ a : Nat, d - k + 1 = (a : Int) := ⟨(d - k + 1).toNat, by omega⟩
 have hS : Spr ⟨code, n, k, d, r, t, ww⟩ ↔ (a : Int) ≤ 16 ∧ n + (d - 2 * k + 2) ≤ (lim a : Nat) := by
  unfold Spr
  dsimp only
  rw [ha, Int.toNat_natCast]
 have hS' : decide (Spr ⟨code, n, k, d, r, t, ww⟩) = decide ((a : Int) ≤ 16 ∧ n + (d - 2 * k + 2) ≤ (lim a : Nat)) := decide_eq_decide.2 hS
 rw [hS']
 clear hS hS'
 unfold cV
 dsimp only
 have hd : Hid (∀ X : World, Calls Try.prog 69 #[.int .i64 (a : Nat), .int .i64 255] X fun e w' => e = .returned (.int .i64 (Nat.gcd a 255 : Nat)) ∧ Below X.heap.size X w') := Lib.hid fun X => (divisor_calls a 255 (by omega) (by decide) X).mono fun _ _ h => ⟨h.1, by obtain ⟨n, rfl⟩ := h.2; exact Below.drewN' (Below.refl _ _) n⟩
 have hl : lim a = 255 / Nat.gcd a 255 := by unfold lim; rw [Nat.gcd_comm]
 have hg0 : 0 < Nat.gcd a 255 := Nat.gcd_pos_of_pos_right _ (by decide)
 have hg1 : Nat.gcd a 255 ≤ 255 := Nat.gcd_le_right _ (by decide)
 rw [hl]
 clear hl
 obtain ⟨gg, hgg⟩ : ∃ gg, Nat.gcd a 255 = gg := ⟨_, rfl⟩
 rw [hgg] at hd hg0 hg1 ⊢
 have hgg' := Lib.hid hgg
 clear hgg
 obtain ⟨V, hV⟩ : ∃ V, w.alloc (.cells #[.int .u8 (code : Nat), .int .i64 n, .int .i64 k, .int .i64 d, .int .i64 r, .int .i64 t, .int .i64 ww] 23) = V := ⟨_, rfl⟩
 have hb : Below w.heap.size w V := by rw [← hV]; exact (Below.refl _ _).alloc (Nat.le_refl _) _
 have hbl : Block V w.heap.size 23 #[.int .u8 (code : Nat), .int .i64 n, .int .i64 k, .int .i64 d, .int .i64 r, .int .i64 t, .int .i64 ww] := by rw [← hV]; exact Block.new w _ _
 have HB := Lib.hid hb
 have X1 := cell_regrown (show V.cell? ⟨w.heap.size, 1, none⟩ = some (.int .i64 n) from hbl.cell 1)
 have X2 := cell_regrown (show V.cell? ⟨w.heap.size, 2, none⟩ = some (.int .i64 k) from hbl.cell 2)
 have X3 := cell_regrown (show V.cell? ⟨w.heap.size, 3, none⟩ = some (.int .i64 d) from hbl.cell 3)
 clear hb hbl
 have w1 : IntKind.i64.wrap (d - k) = d - k := IntWalk.i64_in _ (by omega)
 have w2 : IntKind.i64.wrap (d - k + 1) = (a : Int) := by rw [ha]; exact IntWalk.i64_in _ (by omega)
 have w3 : IntKind.i64.wrap (2 * k) = 2 * k := IntWalk.i64_in _ (by omega)
 have w4 : IntKind.i64.wrap (d - 2 * k) = d - 2 * k := IntWalk.i64_in _ (by omega)
 have w5 : IntKind.i64.wrap (d - 2 * k + 2) = d - 2 * k + 2 := IntWalk.i64_in _ (by omega)
 have w6 : IntKind.i64.wrap (n + (d - 2 * k + 2)) = n + (d - 2 * k + 2) := IntWalk.i64_in _ (by omega)
 have w7 : (255 : Int).tdiv (gg : Int) = ((255 / gg : Nat) : Int) := by
  rw [Int.tdiv_eq_ediv_of_nonneg (by decide)]; rfl
 obtain ⟨q, hq⟩ : ∃ q, 255 / gg = q := ⟨_, rfl⟩
 have hq2 : q ≤ 255 := by rw [← hq]; exact Nat.div_le_self _ _
 rw [hq] at w7 ⊢
 have w8 : IntKind.i64.wrap (q : Int) = (q : Int) := IntWalk.i64_in _ (by omega)
 have hg2 : ((gg : Int) == 0) = false := by simp; omega
 have hg3 : ¬ (gg : Int) = 0 := by omega
 have ha' := Lib.hid ha
 clear ha hq
 go_enter Try.func51, Try.ntmps51
 go_wp2_with fail
 clear hV
 refine wp_region_quiet_below (by kernel_rfl) (by kernel_rfl) ?_
 repeat (go_big_quiet_step (fail))
 refine wpQuiet_nil ?_
 intro _ hw'
 obtain ⟨⟨dq, osq⟩, hw''⟩ := hw'
 subst hw''
 have HQ := Lib.hid (HB.out.trans ((below_regrown V dq osq).mono HB.out.size))
 replace X1 := cell_regrown (X1 dq osq)
 dsimp only
 generalize Sort.grow (redrawn V dq) osq = wq at *
 clear X2 X3
 by_cases hal : (a : Int) ≤ 16
 ·have hal' : decide ((a : Int) ≤ 16) = true := decide_eq_true hal
  have HR : Hid (decide ((a : Int) ≤ 16 ∧ n + (d - 2 * k + 2) ≤ (q : Int)) = decide (n + (d - 2 * k + 2) ≤ (q : Int))) := Lib.hid (decide_eq_decide.2 ⟨fun h => h.2, fun h => ⟨hal, h⟩⟩)
  clear hal
  go_wp2_with fail
  refine wp_region_quiet_below (by kernel_rfl) (by kernel_rfl) ?_
  repeat (go_big_quiet_step ((go_at_call 69; (with_reducible exact Calls.regrown_of (hd.out _)))))
  refine wpQuiet_nil ?_
  intro _ hw'
  obtain ⟨⟨dq2, osq2⟩, hw''⟩ := hw'
  subst hw''
  have HQ2 := Lib.hid (HQ.out.trans ((below_regrown wq dq2 osq2).mono HQ.out.size))
  dsimp only
  generalize Sort.grow (redrawn wq dq2) osq2 = wq2 at *
  clear X1
  go_wp2
  go_ret
  exact ⟨by rw [HR.out]; rfl, HQ2.out⟩
 ·have hal' : decide ((a : Int) ≤ 16) = false := decide_eq_false hal
  have HR : Hid (decide ((a : Int) ≤ 16 ∧ n + (d - 2 * k + 2) ≤ (q : Int)) = false) := Lib.hid (decide_eq_false fun h => hal h.1)
  clear hal
  go_wp2_with fail
  refine wp_region_quiet_below (by kernel_rfl) (by kernel_rfl) ?_
  repeat (go_big_quiet_step (fail))
  refine wpQuiet_nil ?_
  intro _ hw'
  obtain ⟨⟨dq2, osq2⟩, hw''⟩ := hw'
  subst hw''
  have HQ2 := Lib.hid (HQ.out.trans ((below_regrown wq dq2 osq2).mono HQ.out.size))
  dsimp only
  generalize Sort.grow (redrawn wq dq2) osq2 = wq2 at *
  clear X1
  go_wp2
  go_ret
  exact ⟨by rw [HR.out]; rfl, HQ2.out⟩
end Go.Proofs.Ytjoghbmedfmioab.Cf

namespace Go.Proofs.Ytjoghbmedfmioab.Cf
open Go.RowKit
attribute [local go_sem] Oper.semAt_some
set_option linter.unusedVariables false
theorem i64w {x : Int} (h1 : -9223372036854775808 ≤ x) (h2 : x ≤ 9223372036854775807) : IntKind.i64.wrap x = x := IntWalk.i64_in _ ⟨h1, h2⟩
theorem pairs_le {k : Int} (h0 : 0 ≤ k) (h1 : k ≤ 255) : 0 ≤ pairs k ∧ pairs k ≤ 65025 := by
 have h2 := pairs_two k
 have h3 := pairs_nonneg k
 have h4 : k * (k - 1) ≤ 255 * 255 := by
  rcases Int.lt_or_le 0 k with h | h
  ·exact Int.mul_le_mul h1 (by omega) (by omega) (by omega)
  ·have : k = 0 := by omega
   subst this; decide
 omega
theorem pairs_255 {n : Int} (h0 : 1 ≤ n) (h1 : n ≤ 255) : pairs n ≤ 255 ↔ n ≤ 23 := by
 have h2 := pairs_two n
 constructor
 ·intro h
  rcases Int.lt_or_le n 24 with h3 | h3
  ·omega
  ·have : 24 * 23 ≤ n * (n - 1) := Int.mul_le_mul h3 (by omega) (by decide) (by omega)
   omega
 ·intro h
  have : n * (n - 1) ≤ 23 * 22 := Int.mul_le_mul h (by omega) (by omega) (by decide)
  omega
set_option maxRecDepth 100000 in
set_option maxHeartbeats 3200000 in
theorem reed_calls (c : C) (hin : In c) (hok : c.Ok) (b : Nat) (w : World) (hbl : Block w b 23 (cV c)) : Calls Try.prog 49 #[.pointer (some ⟨b, 0, none⟩)] w fun e w' => e = .returned (sV (kReed c)) ∧ Below w.heap.size w w' := by
 obtain ⟨code, n, k, d, r, t, ww⟩ := c
 have hX1 : w.cell? ⟨b, 1, none⟩ = some (.int .i64 n) := hbl.cell 1
 have hX2 : w.cell? ⟨b, 2, none⟩ = some (.int .i64 k) := hbl.cell 2
 have hX3 : w.cell? ⟨b, 3, none⟩ = some (.int .i64 d) := hbl.cell 3
 have hX4 : w.cell? ⟨b, 4, none⟩ = some (.int .i64 r) := hbl.cell 4
 have hX5 : w.cell? ⟨b, 5, none⟩ = some (.int .i64 t) := hbl.cell 5
 unfold C.Ok at hok
 unfold In at hin
 dsimp only at hok hin
 have hlt : b < w.heap.size := hbl.lt
 have hno : ¬ GReed ⟨code, n, k, d, r, t, ww⟩ → sV (kReed ⟨code, n, k, d, r, t, ww⟩) = .agg #[.int .i64 0, .int .i64 0, .int .i64 0, .int .i64 0, .int .i64 0] := fun h => by unfold kReed; rw [if_neg h]; rfl
 have hyes : GReed ⟨code, n, k, d, r, t, ww⟩ → sV (kReed ⟨code, n, k, d, r, t, ww⟩) = .agg #[.int .i64 1, .int .i64 k, .int .i64 k, .int .i64 (k + 2 * t), .int .i64 1] := fun h => by unfold kReed; rw [if_pos h]; rfl
 by_cases h1 : k < 1
 ·have HZ := Lib.hid (hno fun hg => by unfold GReed at hg; dsimp only at hg; omega)
  have d1 : decide (k < 1) = true := decide_eq_true h1
  clear hno hyes
  obtain HB := Lib.hid ((Below.refl w.heap.size w).alloc (Nat.le_refl _) (.cells #[.int .i64 0, .int .i64 0, .int .i64 0, .int .i64 0, .int .i64 0] 25))
  clear hbl
  go_enter Try.func49, Try.ntmps49
  go_wp2_with (fail)
  refine bodyPost_ret (v := .agg #[.int .i64 0, .int .i64 0, .int .i64 0, .int .i64 0, .int .i64 0]) (by simp [results, Try.results49, go_sem]) rfl ?_
  exact ⟨by rw [HZ.out], HB.out⟩
 have d1 : decide (k < 1) = false := decide_eq_false h1
 by_cases h2 : n < k
 ·have HZ := Lib.hid (hno fun hg => by unfold GReed at hg; dsimp only at hg; omega)
  have d2 : decide (n < k) = true := decide_eq_true h2
  clear hno hyes
  obtain HB := Lib.hid ((Below.refl w.heap.size w).alloc (Nat.le_refl _) (.cells #[.int .i64 0, .int .i64 0, .int .i64 0, .int .i64 0, .int .i64 0] 25))
  clear hbl
  go_enter Try.func49, Try.ntmps49
  go_wp2_with (fail)
  refine bodyPost_ret (v := .agg #[.int .i64 0, .int .i64 0, .int .i64 0, .int .i64 0, .int .i64 0]) (by simp [results, Try.results49, go_sem]) rfl ?_
  exact ⟨by rw [HZ.out], HB.out⟩
 have d2 : decide (n < k) = false := decide_eq_false h2
 by_cases h3 : ¬ d = 0
 ·have HZ := Lib.hid (hno fun hg => by unfold GReed at hg; dsimp only at hg; omega)
  have d3 : (d != 0) = true := by simpa using h3
  clear hno hyes
  obtain HB := Lib.hid ((Below.refl w.heap.size w).alloc (Nat.le_refl _) (.cells #[.int .i64 0, .int .i64 0, .int .i64 0, .int .i64 0, .int .i64 0] 25))
  clear hbl
  go_enter Try.func49, Try.ntmps49
  go_wp2_with (fail)
  refine bodyPost_ret (v := .agg #[.int .i64 0, .int .i64 0, .int .i64 0, .int .i64 0, .int .i64 0]) (by simp [results, Try.results49, go_sem]) rfl ?_
  exact ⟨by rw [HZ.out], HB.out⟩
 have d3 : (d != 0) = false := by simpa using h3
 by_cases h4 : ¬ r = 0
 ·have HZ := Lib.hid (hno fun hg => by unfold GReed at hg; dsimp only at hg; omega)
  have d4 : (r != 0) = true := by simpa using h4
  clear hno hyes
  obtain HB := Lib.hid ((Below.refl w.heap.size w).alloc (Nat.le_refl _) (.cells #[.int .i64 0, .int .i64 0, .int .i64 0, .int .i64 0, .int .i64 0] 25))
  clear hbl
  go_enter Try.func49, Try.ntmps49
  go_wp2_with (fail)
  refine bodyPost_ret (v := .agg #[.int .i64 0, .int .i64 0, .int .i64 0, .int .i64 0, .int .i64 0]) (by simp [results, Try.results49, go_sem]) rfl ?_
  exact ⟨by rw [HZ.out], HB.out⟩
 have d4 : (r != 0) = false := by simpa using h4
 have HZ := Lib.hid (hyes (by unfold GReed; dsimp only; omega))
 clear hno hyes hbl
 have w1 : IntKind.i64.wrap (2 * t) = 2 * t := i64w (by omega) (by omega)
 have w2 : IntKind.i64.wrap (k + 2 * t) = k + 2 * t := i64w (by omega) (by omega)
 have HB := Lib.hid ((Below.refl w.heap.size w).alloc (Nat.le_refl _) (.cells #[.int .i64 1, .int .i64 k, .int .i64 k, .int .i64 (k + 2 * t), .int .i64 1] 25))
 go_enter Try.func49, Try.ntmps49
 go_wp2_with (fail)
 refine bodyPost_ret (v := .agg #[.int .i64 1, .int .i64 k, .int .i64 k, .int .i64 (k + 2 * t), .int .i64 1]) (by simp [results, Try.results49, go_sem]) rfl ?_
 exact ⟨by rw [HZ.out], HB.out⟩
end Go.Proofs.Ytjoghbmedfmioab.Cf

namespace Go.Proofs.Ytjoghbmedfmioab.Cf
open Go.RowKit
attribute [local go_sem] Oper.semAt_some
set_option linter.unusedVariables false
theorem tmod_zero {n m : Int} : (n.tmod m = 0 ↔ n % m = 0) := by
 rw [← Int.dvd_iff_tmod_eq_zero, Int.dvd_iff_emod_eq_zero]
theorem tmod_in {n m : Int} (h1 : 1 ≤ m) (h2 : m ≤ 1000) : -1000 ≤ n.tmod m ∧ n.tmod m ≤ 1000 := by
 have : (n.tmod m).natAbs < m.natAbs := by rw [Int.natAbs_tmod]; exact Nat.mod_lt _ (by omega)
 omega
set_option maxRecDepth 100000 in
set_option maxHeartbeats 3200000 in
theorem grouped_calls (c : C) (h1 : 1 ≤ c.r) (h2 : c.r < c.n) (h3 : c.n ≤ 255) (w : World) : Calls Try.prog 56 #[.agg (cV c)] w fun e w' => e = .returned (.bool (decide (c.n % (c.r + 1) = 0 ∧ 255 % (c.r + 1) = 0))) ∧ Below w.heap.size w w' := by
 obtain ⟨code, n, k, d, r, t, ww⟩ := c
 dsimp only at h1 h2 h3 ⊢
 unfold cV
 dsimp only
 have HB := Lib.hid ((Below.refl w.heap.size w).alloc (Nat.le_refl _) (.cells #[.int .u8 (code : Nat), .int .i64 n, .int .i64 k, .int .i64 d, .int .i64 r, .int .i64 t, .int .i64 ww] 23))
 have hw : IntKind.i64.wrap (r + 1) = r + 1 := i64w (by omega) (by omega)
 have hs0 : ¬ r + 1 = 0 := by omega
 have hs1 : (r + 1 == 0) = false := by simp; omega
 obtain ⟨z5, hz5⟩ : ∃ z, (255 : Int).tmod (r + 1) = z := ⟨_, rfl⟩
 have hb5 := tmod_in (n := 255) (m := r + 1) (by omega) (by omega)
 rw [hz5] at hb5
 have hw5 : IntKind.i64.wrap z5 = z5 := i64w (by omega) (by omega)
 obtain ⟨z6, hz6⟩ : ∃ z, n.tmod (r + 1) = z := ⟨_, rfl⟩
 have hb6 := tmod_in (n := n) (m := r + 1) (by omega) (by omega)
 rw [hz6] at hb6
 have hw6 : IntKind.i64.wrap z6 = z6 := i64w (by omega) (by omega)
 have HD : Hid ((z6 = 0 ↔ n % (r + 1) = 0) ∧ (z5 = 0 ↔ 255 % (r + 1) = 0)) := Lib.hid ⟨by rw [← hz6]; exact tmod_zero, by rw [← hz5]; exact tmod_zero⟩
 clear hb5 hb6
 by_cases h6 : z6 = 0
 ·have d6 : (z6 == 0) = true := by simpa using h6
  by_cases h5 : z5 = 0
  ·have HR : Hid (decide (n % (r + 1) = 0 ∧ 255 % (r + 1) = 0) = true) := Lib.hid (decide_eq_true ⟨HD.out.1.1 h6, HD.out.2.1 h5⟩)
   have d5 : (z5 == 0) = true := by simpa using h5
   clear h5 h6
   go_enter Try.func56, Try.ntmps56
   go_wp2_with fail
   go_ret
   exact ⟨by rw [HR.out]; rfl, HB.out⟩
  ·have HR : Hid (decide (n % (r + 1) = 0 ∧ 255 % (r + 1) = 0) = false) := Lib.hid (decide_eq_false fun h => h5 (HD.out.2.2 h.2))
   have d5 : (z5 == 0) = false := by simpa using h5
   clear h5 h6
   go_enter Try.func56, Try.ntmps56
   go_wp2_with fail
   go_ret
   exact ⟨by rw [HR.out]; rfl, HB.out⟩
 ·have HR : Hid (decide (n % (r + 1) = 0 ∧ 255 % (r + 1) = 0) = false) := Lib.hid (decide_eq_false fun h => h6 (HD.out.1.2 h.1))
  have d6 : (z6 == 0) = false := by simpa using h6
  clear h6
  go_enter Try.func56, Try.ntmps56
  go_wp2_with fail
  go_ret
  exact ⟨by rw [HR.out]; rfl, HB.out⟩
end Go.Proofs.Ytjoghbmedfmioab.Cf

namespace Go.Proofs.Ytjoghbmedfmioab.Cf
open Go.RowKit
attribute [local go_sem] Oper.semAt_some
set_option linter.unusedVariables false
theorem put5 {B : Nat} {w w1 : World} {t : TypeId} {a0 a1 a2 a3 a4 : Value} (hb : Below B w w1) (hR : Block w1 B t #[a0, a1, a2, a3, a4]) (v0 v1 v2 v3 v4 : Value) :
  ∃ W, ((((w1.setCell ⟨B, 0, none⟩ v0).setCell ⟨B, 1, none⟩ v1).setCell ⟨B, 2, none⟩ v2).setCell ⟨B, 3, none⟩ v3).setCell ⟨B, 4, none⟩ v4 = W ∧ Block W B t #[v0, v1, v2, v3, v4] ∧ Below B w W :=
 ⟨_, rfl, ((((hR.set_ 0 v0).set_ 1 v1).set_ 2 v2).set_ 3 v3).set_ 4 v4, ((((hb.setCell (Nat.le_refl _) v0).setCell (Nat.le_refl _) v1).setCell (Nat.le_refl _) v2).setCell (Nat.le_refl _) v3).setCell (Nat.le_refl _) v4⟩
theorem tdiv_two {d : Int} : ∃ q, d.tdiv 2 = q ∧ (0 ≤ d → q = d / 2) ∧ (d < 0 → q ≤ 0) ∧ (-9223372036854775808 ≤ d → d ≤ 9223372036854775807 → -9223372036854775808 ≤ q ∧ q ≤ 4611686018427387904) := by
 refine ⟨_, rfl, ?_⟩
 rcases Int.lt_or_le d 0 with h | h
 ·obtain ⟨m, rfl⟩ : ∃ m, d = -m := ⟨-d, by omega⟩
  rw [Int.neg_tdiv, Int.tdiv_eq_ediv_of_nonneg (by omega)]
  omega
 ·rw [Int.tdiv_eq_ediv_of_nonneg h]
  omega
set_option maxRecDepth 100000 in
set_option maxHeartbeats 3200000 in
theorem msr_calls (c : C) (hin : In c) (hok : c.Ok) (b : Nat) (w : World) (hbl : Block w b 23 (cV c)) : Calls Try.prog 50 #[.pointer (some ⟨b, 0, none⟩)] w fun e w' => e = .returned (sV (kMsr c)) ∧ Below w.heap.size w w' := by
 obtain ⟨code, n, k, d, r, t, ww⟩ := c
 have hX1 : w.cell? ⟨b, 1, none⟩ = some (.int .i64 n) := hbl.cell 1
 have hX2 : w.cell? ⟨b, 2, none⟩ = some (.int .i64 k) := hbl.cell 2
 have hX3 : w.cell? ⟨b, 3, none⟩ = some (.int .i64 d) := hbl.cell 3
 have hX4 : w.cell? ⟨b, 4, none⟩ = some (.int .i64 r) := hbl.cell 4
 have hX5 : w.cell? ⟨b, 5, none⟩ = some (.int .i64 t) := hbl.cell 5
 unfold C.Ok at hok
 unfold In at hin
 dsimp only at hok hin
 have hlt : b < w.heap.size := hbl.lt
 have hno : ¬ GMsr ⟨code, n, k, d, r, t, ww⟩ → sV (kMsr ⟨code, n, k, d, r, t, ww⟩) = .agg #[.int .i64 0, .int .i64 0, .int .i64 0, .int .i64 0, .int .i64 0] := fun h => by unfold kMsr; rw [if_neg h]; rfl
 have hyes : GMsr ⟨code, n, k, d, r, t, ww⟩ → sV (kMsr ⟨code, n, k, d, r, t, ww⟩) = .agg #[.int .i64 (d - k + 1), .int .i64 (k * (d - k + 1)), .int .i64 k, .int .i64 (d + 2 * t), .int .i64 1] := fun h => by unfold kMsr; rw [if_pos h]; rfl
 obtain ⟨q, hq, hq0, hqn, hqb⟩ := @tdiv_two d
 have hqb := hqb (by omega) (by omega)
 have w1 : IntKind.i64.wrap (d.tdiv 2) = q := by rw [hq]; exact i64w (by omega) (by omega)
 have w2 : IntKind.i64.wrap (q + 1) = q + 1 := i64w (by omega) (by omega)
 have hq1 : Hid (2 ≤ k → (2 * k ≤ d + 2 ↔ ¬ q + 1 < k)) := Lib.hid fun h2 => by
  rcases Int.lt_or_le d 0 with h | h
  ·have := hqn h; omega
  ·have := hq0 h; omega
 by_cases h1 : k < 2
 ·have HZ := Lib.hid (hno fun hg => by unfold GMsr at hg; dsimp only at hg; omega)
  have d1 : decide (k < 2) = true := decide_eq_true h1
  clear hno hyes
  obtain HB := Lib.hid ((Below.refl w.heap.size w).alloc (Nat.le_refl _) (.cells #[.int .i64 0, .int .i64 0, .int .i64 0, .int .i64 0, .int .i64 0] 25))
  clear hbl
  go_enter Try.func50, Try.ntmps50
  go_wp2_with (fail)
  refine bodyPost_ret (v := .agg #[.int .i64 0, .int .i64 0, .int .i64 0, .int .i64 0, .int .i64 0]) (by simp [results, Try.results50, go_sem]) rfl ?_
  exact ⟨by rw [HZ.out], HB.out⟩
 have d1 : decide (k < 2) = false := decide_eq_false h1
 by_cases h2 : q + 1 < k
 ·have HZ := Lib.hid (hno fun hg => by unfold GMsr at hg; dsimp only at hg; have := (hq1.out (by omega)).1 (by omega); omega)
  have d2 : decide (q + 1 < k) = true := decide_eq_true h2
  clear hno hyes
  obtain HB := Lib.hid ((Below.refl w.heap.size w).alloc (Nat.le_refl _) (.cells #[.int .i64 0, .int .i64 0, .int .i64 0, .int .i64 0, .int .i64 0] 25))
  clear hbl
  go_enter Try.func50, Try.ntmps50
  go_wp2_with (fail)
  refine bodyPost_ret (v := .agg #[.int .i64 0, .int .i64 0, .int .i64 0, .int .i64 0, .int .i64 0]) (by simp [results, Try.results50, go_sem]) rfl ?_
  exact ⟨by rw [HZ.out], HB.out⟩
 have d2 : decide (q + 1 < k) = false := decide_eq_false h2
 by_cases h3 : n ≤ d
 ·have HZ := Lib.hid (hno fun hg => by unfold GMsr at hg; dsimp only at hg; omega)
  have d3 : decide (n ≤ d) = true := decide_eq_true h3
  clear hno hyes
  obtain HB := Lib.hid ((Below.refl w.heap.size w).alloc (Nat.le_refl _) (.cells #[.int .i64 0, .int .i64 0, .int .i64 0, .int .i64 0, .int .i64 0] 25))
  clear hbl
  go_enter Try.func50, Try.ntmps50
  go_wp2_with (fail)
  refine bodyPost_ret (v := .agg #[.int .i64 0, .int .i64 0, .int .i64 0, .int .i64 0, .int .i64 0]) (by simp [results, Try.results50, go_sem]) rfl ?_
  exact ⟨by rw [HZ.out], HB.out⟩
 have d3 : decide (n ≤ d) = false := decide_eq_false h3
 by_cases h4 : ¬ r = 0
 ·have HZ := Lib.hid (hno fun hg => by unfold GMsr at hg; dsimp only at hg; omega)
  have d4 : (r != 0) = true := by simpa using h4
  clear hno hyes
  obtain HB := Lib.hid ((Below.refl w.heap.size w).alloc (Nat.le_refl _) (.cells #[.int .i64 0, .int .i64 0, .int .i64 0, .int .i64 0, .int .i64 0] 25))
  clear hbl
  go_enter Try.func50, Try.ntmps50
  go_wp2_with (fail)
  refine bodyPost_ret (v := .agg #[.int .i64 0, .int .i64 0, .int .i64 0, .int .i64 0, .int .i64 0]) (by simp [results, Try.results50, go_sem]) rfl ?_
  exact ⟨by rw [HZ.out], HB.out⟩
 have d4 : (r != 0) = false := by simpa using h4
 have hq2 := (hq1.out (by omega)).2 h2
 have h1p : 2 ≤ k := by omega
 have h3p : d < n := by omega
 obtain rfl : r = 0 := by omega
 clear h4 hq hq0 hqn
 have hR0 := Lib.hid (Block.new w 25 #[.int .i64 0, .int .i64 0, .int .i64 0, .int .i64 0, .int .i64 0])
 have hC0 := Lib.hid (hbl.alloc (.cells #[.int .i64 0, .int .i64 0, .int .i64 0, .int .i64 0, .int .i64 0] 25))
 have hA := Lib.hid ((Below.refl w.heap.size w).alloc (Nat.le_refl _) (.cells #[.int .i64 0, .int .i64 0, .int .i64 0, .int .i64 0, .int .i64 0] 25))
 have HSp := Lib.hid (spreads_calls ⟨code, n, k, d, 0, t, ww⟩ (by dsimp only; omega) (by dsimp only; omega) (by dsimp only; omega) (by dsimp only; omega))
 unfold cV at HSp
 dsimp only at HSp
 have hX0 : w.cell? ⟨b, 0, none⟩ = some (.int .u8 (code : Nat)) := hbl.cell 0
 have hX6 : w.cell? ⟨b, 6, none⟩ = some (.int .i64 ww) := hbl.cell 6
 clear hbl
 by_cases h5 : Spr ⟨code, n, k, d, 0, t, ww⟩
 ·have HZ := Lib.hid (hyes ⟨⟨h1p, hq2, h3p, h5.1⟩, h5.2, rfl⟩)
  have HSq : Hid (∀ X : World, Calls Try.prog 51 #[.agg #[.int .u8 (code : Nat), .int .i64 n, .int .i64 k, .int .i64 d, .int .i64 0, .int .i64 t, .int .i64 ww]] X fun e w' => e = .returned (.bool true) ∧ Below X.heap.size X w') := by rw [decide_eq_true h5] at HSp; exact HSp
  have ha16 : d - k + 1 ≤ 16 := h5.1
  have w3 : IntKind.i64.wrap (d - k) = d - k := i64w (by omega) (by omega)
  have w4 : IntKind.i64.wrap (d - k + 1) = d - k + 1 := i64w (by omega) (by omega)
  have hka : 0 ≤ k * (d - k + 1) ∧ k * (d - k + 1) ≤ 255 * 16 := ⟨Int.mul_nonneg (by omega) (by omega), Int.mul_le_mul (by omega) (by omega) (by omega) (by omega)⟩
  have w5 : IntKind.i64.wrap (k * (d - k + 1)) = k * (d - k + 1) := i64w (by omega) (by omega)
  have w6 : IntKind.i64.wrap (2 * t) = 2 * t := i64w (by omega) (by omega)
  have w7 : IntKind.i64.wrap (d + 2 * t) = d + 2 * t := i64w (by omega) (by omega)
  clear hno hyes HSp h5
  go_enter Try.func50, Try.ntmps50
  go_wp2_with (go_at_call 51; (with_reducible refine (HSq.out _).mono ?_); rintro e w1 ⟨rfl, hb1⟩; have hR1 := hR0.out.below hb1 (by rw [World.size_alloc]; omega); have hC1 := hC0.out.below hb1 (by rw [World.size_alloc]; omega); have y0 := hR1.cell 0; have y1 := hR1.cell 1; have y2 := hR1.cell 2; have y3 := hR1.cell 3; have y4 := hR1.cell 4; have f0 := hR1.frozen 0; have f1 := hR1.frozen 1; have f2 := hR1.frozen 2; have f3 := hR1.frozen 3; have f4 := hR1.frozen 4; have x0 : w1.cell? ⟨b, 0, none⟩ = some (.int .u8 (code : Nat)) := hC1.cell 0; have x1 : w1.cell? ⟨b, 1, none⟩ = some (.int .i64 n) := hC1.cell 1; have x2 : w1.cell? ⟨b, 2, none⟩ = some (.int .i64 k) := hC1.cell 2; have x3 : w1.cell? ⟨b, 3, none⟩ = some (.int .i64 d) := hC1.cell 3; have x4 : w1.cell? ⟨b, 4, none⟩ = some (.int .i64 0) := hC1.cell 4; have x5 : w1.cell? ⟨b, 5, none⟩ = some (.int .i64 t) := hC1.cell 5; have x6 : w1.cell? ⟨b, 6, none⟩ = some (.int .i64 ww) := hC1.cell 6; have HR1 := Lib.hid hR1; have HB1 := Lib.hid (hA.out.trans (hb1.mono (by rw [World.size_alloc]; omega))); clear hR1 hC1 hb1)
  obtain ⟨W, hW, hP, hBW⟩ := put5 HB1.out HR1.out (.int .i64 (d - k + 1)) (.int .i64 (k * (d - k + 1))) (.int .i64 k) (.int .i64 (d + 2 * t)) (.int .i64 1)
  rw [hW]
  have p0 := hP.cell 0
  have p1 := hP.cell 1
  have p2 := hP.cell 2
  have p3 := hP.cell 3
  have p4 := hP.cell 4
  refine bodyPost_ret (v := .agg #[.int .i64 (d - k + 1), .int .i64 (k * (d - k + 1)), .int .i64 k, .int .i64 (d + 2 * t), .int .i64 1]) (by simp [results, Try.results50, go_sem, p0, p1, p2, p3, p4]) rfl ?_
  exact ⟨by rw [HZ.out], hBW⟩
 ·have HZ := Lib.hid (hno fun hg => h5 ⟨hg.1.2.2.2, hg.2.1⟩)
  have HSq : Hid (∀ X : World, Calls Try.prog 51 #[.agg #[.int .u8 (code : Nat), .int .i64 n, .int .i64 k, .int .i64 d, .int .i64 0, .int .i64 t, .int .i64 ww]] X fun e w' => e = .returned (.bool false) ∧ Below X.heap.size X w') := by rw [decide_eq_false h5] at HSp; exact HSp
  clear hno hyes HSp h5
  go_enter Try.func50, Try.ntmps50
  go_wp2_with (go_at_call 51; (with_reducible refine (HSq.out _).mono ?_); rintro e w1 ⟨rfl, hb1⟩; have hR1 := hR0.out.below hb1 (by rw [World.size_alloc]; omega); have hC1 := hC0.out.below hb1 (by rw [World.size_alloc]; omega); have y0 := hR1.cell 0; have y1 := hR1.cell 1; have y2 := hR1.cell 2; have y3 := hR1.cell 3; have y4 := hR1.cell 4; have f0 := hR1.frozen 0; have f1 := hR1.frozen 1; have f2 := hR1.frozen 2; have f3 := hR1.frozen 3; have f4 := hR1.frozen 4; have x0 : w1.cell? ⟨b, 0, none⟩ = some (.int .u8 (code : Nat)) := hC1.cell 0; have x1 : w1.cell? ⟨b, 1, none⟩ = some (.int .i64 n) := hC1.cell 1; have x2 : w1.cell? ⟨b, 2, none⟩ = some (.int .i64 k) := hC1.cell 2; have x3 : w1.cell? ⟨b, 3, none⟩ = some (.int .i64 d) := hC1.cell 3; have x4 : w1.cell? ⟨b, 4, none⟩ = some (.int .i64 0) := hC1.cell 4; have x5 : w1.cell? ⟨b, 5, none⟩ = some (.int .i64 t) := hC1.cell 5; have x6 : w1.cell? ⟨b, 6, none⟩ = some (.int .i64 ww) := hC1.cell 6; have HR1 := Lib.hid hR1; have HB1 := Lib.hid (hA.out.trans (hb1.mono (by rw [World.size_alloc]; omega))); clear hR1 hC1 hb1)
  obtain ⟨W, hW, hP, hBW⟩ := put5 HB1.out HR1.out (.int .i64 0) (.int .i64 0) (.int .i64 0) (.int .i64 0) (.int .i64 0)
  rw [hW]
  have p0 := hP.cell 0
  have p1 := hP.cell 1
  have p2 := hP.cell 2
  have p3 := hP.cell 3
  have p4 := hP.cell 4
  refine bodyPost_ret (v := .agg #[.int .i64 0, .int .i64 0, .int .i64 0, .int .i64 0, .int .i64 0]) (by simp [results, Try.results50, go_sem, p0, p1, p2, p3, p4]) rfl ?_
  exact ⟨by rw [HZ.out], hBW⟩
end Go.Proofs.Ytjoghbmedfmioab.Cf
