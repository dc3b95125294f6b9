/- Words for layer 2: a writer's and a reader's cells, what a call on them leaves alone, integers as bytes. -/
import Derived.Test.YtggonoppdekilaaKit2
namespace Go.Proofs.Ytggonoppdekilaa
open Go.RowKit

/-- Below B nothing but the block g has turned. -/
structure Past (B g : Nat) (w w' : World) : Prop where
  os : w'.os = w.os
  tape : w'.tape = w.tape
  output : w'.output = w.output
  size : w.heap.size ≤ w'.heap.size
  block : ∀ k, k < B → k ≠ g → w'.heap[k]? = w.heap[k]?
section
variable {B g : Nat} {a w w' : World}
theorem Past.refl (B g : Nat) (w : World) : Past B g w w := ⟨rfl, rfl, rfl, Nat.le_refl _, fun _ _ _ => rfl⟩
theorem Past.trans (h : Past B g a w) (k : Past B g w w') : Past B g a w' :=
  ⟨k.os.trans h.os, k.tape.trans h.tape, k.output.trans h.output, Nat.le_trans h.size k.size, fun i hi hn => (k.block i hi hn).trans (h.block i hi hn)⟩
theorem Past.of_below (h : Below B a w) (g : Nat) : Past B g a w := ⟨h.os, h.tape, h.output, h.size, fun i hi _ => h.block i hi⟩
theorem Past.mono {B' : Nat} (h : Past B g a w) (hB : B' ≤ B) : Past B' g a w := ⟨h.os, h.tape, h.output, h.size, fun i hi hn => h.block i (by omega) hn⟩
theorem Past.drew (h : Past B g a w) : Past B g a w.drew := ⟨h.os, h.tape, h.output, h.size, h.block⟩
theorem Past.drewN (h : Past B g a w) (n : Nat) : Past B g a (w.drewN n) := ⟨h.os, h.tape, h.output, h.size, h.block⟩
theorem Past.alloc (h : Past B g a w) (hB : B ≤ w.heap.size) (o : Obj) : Past B g a (w.alloc o) := h.trans (Past.of_below ((Below.refl B w).alloc hB o) g)
theorem Past.setCell (h : Past B g a w) {p : Addr} (hp : p.block = g ∨ B ≤ p.block) (u : Value) : Past B g a (w.setCell p u) :=
  h.trans ⟨rfl, rfl, rfl, by simp [World.setCell], fun k hk hn => Below.heap_setCell _ _ _ _ (by intro e; subst e; rcases hp with rfl | hp <;> omega)⟩
theorem Past.below (h : Past B g a w) (hB : B ≤ g) : Below B a w := ⟨h.os, h.tape, h.output, h.size, fun i hi => h.block i hi (by omega)⟩
theorem Past.grown {row : Option Nat} (h : Past B g a w) (hw : w.grownBy w' row) (hB : B ≤ w.heap.size) (hr : ∀ k, row = some k → B ≤ k) : Past B g a w' :=
  h.trans (Past.of_below ((Below.refl B w).grown hw hB hr) g)
theorem Block.past {t : TypeId} {cs : Array Value} {b : Nat} (h : Block w b t cs) (hp : Past B g w w') (hb : b < B) (hn : b ≠ g) : Block w' b t cs := (hp.block b hb hn).trans h
end

/-- A byte is no cell of this block. -/
def NoByte (cs : Array Value) : Prop := ∀ (i : Nat) (n : Int), cs[i]? ≠ some (Value.int .u8 n)
theorem NoByte.of {cs : Array Value} (h : ∀ u ∈ cs.toList, ∀ n, u ≠ Value.int .u8 n) : NoByte cs := by
  intro i n hi
  rw [← Array.getElem?_toList] at hi
  exact h _ (List.mem_of_getElem? hi) n rfl
section
variable {w w' : World} {A : Option Addr} {l : List Nat} {g B : Nat} {t : TypeId} {cs : Array Value}
theorem Bytes.keep (h : Bytes w A l) (hk : ∀ b, b < w.heap.size → (∃ i n, w.cell? ⟨b, i, none⟩ = some (.int .u8 n)) → w'.heap[b]? = w.heap[b]?) : Bytes w' A l := by
  refine ⟨fun k u hu => ?_, h.lt⟩
  obtain ⟨b, off, rfl, hc⟩ := h.row k u hu
  refine ⟨b, off, rfl, ?_⟩
  have hu' : ∃ n : Nat, u = .int .u8 (n : Int) := by
    obtain ⟨n, _, rfl⟩ := List.mem_map.1 (List.mem_of_getElem? hu)
    exact ⟨n, rfl⟩
  obtain ⟨n, rfl⟩ := hu'
  have := hk b (cell_lt hc) ⟨_, _, hc⟩
  rw [← hc]
  exact World.cell?_of_block this
theorem Bytes.past (h : Bytes w A l) (hp : Past B g w w') (hB : w.heap.size ≤ B) (hg : Block w g t cs) (hn : NoByte cs) : Bytes w' A l :=
  h.keep fun b hb ⟨i, n, hc⟩ => hp.block b (by omega) (by rintro rfl; rw [hg.cell] at hc; exact hn _ _ hc)
theorem Bytes.set_ (h : Bytes w A l) (hg : Block w g t cs) (hn : NoByte cs) (i : Nat) (u : Value) : Bytes (w.setCell ⟨g, i, none⟩ u) A l :=
  h.past (g := g) ((Past.refl w.heap.size g w).setCell (.inl rfl) u) (Nat.le_refl _) hg hn
theorem Bytes.take (h : Bytes w A l) (n : Nat) : Bytes w A (l.take n) := by
  refine ⟨fun k u hu => h.row k u ?_, fun c hc => h.lt c (List.mem_of_mem_take hc)⟩
  simp only [bv, List.map_take, List.getElem?_take] at hu ⊢
  split at hu
  · exact hu
  · cases hu
theorem Bytes.drop {b off : Nat} (h : Bytes w (some ⟨b, off, none⟩) l) (n : Nat) : Bytes w (some ⟨b, off + n, none⟩) (l.drop n) := by
  refine ⟨fun k u hu => ?_, fun c hc => h.lt c (List.mem_of_mem_drop hc)⟩
  simp only [bv, List.map_drop, List.getElem?_drop] at hu
  obtain ⟨b', off', e, hc⟩ := h.row (n + k) u hu
  simp only [Option.some.injEq, Addr.mk.injEq] at e
  obtain ⟨rfl, rfl, _⟩ := e
  exact ⟨_, _, rfl, by rw [← hc, Nat.add_assoc]⟩
end

/-- A writer at g that has written l; what it has written lies at or behind B. -/
def Wr (w : World) (B g : Nat) (l : List Nat) : Prop :=
  ∃ v, Block w g 27 #[v] ∧ Own w B 5 v (bv l) ∧ (∀ c ∈ l, c < 256) ∧ B ≤ w.heap.size
section
variable {w w' : World} {B B' g g' : Nat} {l : List Nat}
theorem Own.block_ne {e t : TypeId} {v : Value} {xs : List Value} {cs : Array Value} (h : Own w B e v xs) (hb : Block w g t cs) (hne : e ≠ t) : v.ownBlock ≠ some g := by
  rcases h.2 with ⟨rfl, _⟩ | ⟨b, cap, cur, rfl, _, hh, _⟩
  · simp [Value.ownBlock]
  · intro e1
    obtain rfl : b = g := by simpa [Value.ownBlock] using e1
    unfold Block at hb
    rw [hh] at hb
    simp only [Option.some.injEq, Obj.cells.injEq] at hb
    exact hne hb.2.1
theorem Own.past {e t : TypeId} {v : Value} {xs : List Value} {cs : Array Value} (h : Own w B e v xs) (hp : Past B' g w w') (hB : w.heap.size ≤ B') (hb : Block w g t cs) (hne : e ≠ t) : Own w' B e v xs :=
  h.grown (row := some g) ⟨hp.os, hp.tape, hp.output, hp.size, fun k hk hn => hp.block k (by omega) (fun e => hn (by rw [e]))⟩ (.inr (h.block_ne hb hne))
theorem Wr.lt (h : Wr w B g l) : g < w.heap.size := by obtain ⟨v, hb, _⟩ := h; exact hb.lt
theorem Wr.bytes (h : Wr w B g l) : ∀ c ∈ l, c < 256 := by obtain ⟨v, _, _, hl, _⟩ := h; exact hl
theorem Wr.base (h : Wr w B g l) : B ≤ w.heap.size := by obtain ⟨v, _, _, _, hl⟩ := h; exact hl
theorem Wr.below (h : Wr w B g l) (hb : Below w.heap.size w w') : Wr w' B g l := by
  obtain ⟨v, h1, h2, h3, h4⟩ := h
  exact ⟨v, h1.below hb h1.lt, h2.below hb, h3, Nat.le_trans h4 hb.size⟩
theorem Wr.drew (h : Wr w B g l) : Wr w.drew B g l := h
theorem Wr.drewN (h : Wr w B g l) (n : Nat) : Wr (w.drewN n) B g l := h
theorem Wr.alloc (h : Wr w B g l) (o : Obj) : Wr (w.alloc o) B g l := h.below ((Below.refl _ _).alloc (Nat.le_refl _) o)
theorem Wr.more (h : Wr w B g l) (hB : B' ≤ B) : Wr w B' g l := by
  obtain ⟨v, h1, h2, h3, h4⟩ := h
  exact ⟨v, h1, h2.more hB, h3, by omega⟩
theorem Wr.past {t : TypeId} {cs : Array Value} (h : Wr w B g l) (hp : Past B' g' w w') (hB : w.heap.size ≤ B') (hb : Block w g' t cs) (hne : 5 ≠ t) (hg : g ≠ g') : Wr w' B g l := by
  obtain ⟨v, h1, h2, h3, h4⟩ := h
  exact ⟨v, h1.past hp (Nat.lt_of_lt_of_le h1.lt hB) hg, h2.past hp hB hb hne, h3, Nat.le_trans h4 hp.size⟩
theorem Wr.new (w : World) (hB : B ≤ w.heap.size) : Wr (w.alloc (.cells #[.slice none 0 0] 27)) B w.heap.size [] :=
  ⟨_, Block.new _ _ _, Own.nil _ _ _, by simp, by simp; omega⟩
end

/-- A reader at g: what is ahead ('none': it has failed); what is ahead lies in a block of D. -/
def RdD (w : World) (D : Nat → Prop) (g : Nat) (st : Option (List Nat)) : Prop :=
  ∃ A n c f, Block w g 69 #[.slice A n c, .bool f] ∧ n ≤ c ∧ (f = true ↔ st = none) ∧ ∀ l, st = some l → n = l.length ∧ Bytes w A l ∧ ∀ a, A = some a → D a.block
abbrev Rd (w : World) (g : Nat) (st : Option (List Nat)) : Prop := RdD w (fun _ => True) g st
theorem noByte_rd (A : Option Addr) (n c : Nat) (f : Bool) : NoByte #[.slice A n c, .bool f] := NoByte.of (by simp)
section
variable {w w' : World} {D D' : Nat → Prop} {B g g' : Nat} {st : Option (List Nat)}
theorem RdD.lt (h : RdD w D g st) : g < w.heap.size := by obtain ⟨_, _, _, _, hb, _⟩ := h; exact hb.lt
theorem RdD.weak (h : RdD w D g st) (hD : ∀ b, D b → D' b) : RdD w D' g st := by
  obtain ⟨A, n, c, f, h1, h2, h3, h4⟩ := h
  exact ⟨A, n, c, f, h1, h2, h3, fun l hl => ⟨(h4 l hl).1, (h4 l hl).2.1, fun a ha => hD _ ((h4 l hl).2.2 a ha)⟩⟩
theorem RdD.any (h : RdD w D g st) : Rd w g st := h.weak fun _ _ => trivial
theorem RdD.bytes (h : RdD w D g st) : ∀ l, st = some l → ∀ c ∈ l, c < 256 := by
  obtain ⟨_, _, _, _, _, _, _, h⟩ := h; exact fun l hl => (h l hl).2.1.lt
theorem RdD.below (h : RdD w D g st) (hb : Below w.heap.size w w') : RdD w' D g st := by
  obtain ⟨A, n, c, f, h1, h2, h3, h4⟩ := h
  exact ⟨A, n, c, f, h1.below hb h1.lt, h2, h3, fun l hl => ⟨(h4 l hl).1, (h4 l hl).2.1.below hb, (h4 l hl).2.2⟩⟩
theorem RdD.drew (h : RdD w D g st) : RdD w.drew D g st := h.below (Below.refl _ _).drew
theorem RdD.drewN (h : RdD w D g st) (n : Nat) : RdD (w.drewN n) D g st := h.below (Below.drewN' (Below.refl _ _) n)
theorem RdD.alloc (h : RdD w D g st) (o : Obj) : RdD (w.alloc o) D g st := h.below ((Below.refl _ _).alloc (Nat.le_refl _) o)
theorem RdD.past {t : TypeId} {cs : Array Value} (h : RdD w D g st) (hp : Past B g' w w') (hB : w.heap.size ≤ B) (hb : Block w g' t cs) (hn : NoByte cs) (hg : g ≠ g') : RdD w' D g st := by
  obtain ⟨A, n, c, f, h1, h2, h3, h4⟩ := h
  exact ⟨A, n, c, f, h1.past hp (Nat.lt_of_lt_of_le h1.lt hB) hg, h2, h3, fun l hl => ⟨(h4 l hl).1, (h4 l hl).2.1.past hp hB hb hn, (h4 l hl).2.2⟩⟩
/-- Another block has turned, none of D. -/
theorem RdD.apart {R : Nat → Prop} (h : RdD w D g st) (hk : ∀ k, k < w.heap.size → ¬ R k → w'.heap[k]? = w.heap[k]?) (hg : ¬ R g) (hD : ∀ b, D b → ¬ R b) : RdD w' D g st := by
  obtain ⟨A, n, c, f, h1, h2, h3, h4⟩ := h
  refine ⟨A, n, c, f, (hk g h1.lt hg).trans h1, h2, h3, fun l hl => ⟨(h4 l hl).1, ⟨fun k u hu => ?_, (h4 l hl).2.1.lt⟩, (h4 l hl).2.2⟩⟩
  obtain ⟨b, off, e, hc⟩ := (h4 l hl).2.1.row k u hu
  refine ⟨b, off, e, ?_⟩
  rw [← hc]
  exact World.cell?_of_block (hk b (cell_lt hc) (hD _ ((h4 l hl).2.2 _ e)))
end

/-- What a request for n bytes gives, and what is ahead behind it. -/
def cutOf (st : Option (List Nat)) (n : Int) : List Nat :=
  match st with
  | some l => if 0 ≤ n ∧ n ≤ (l.length : Int) then l.take n.toNat else []
  | none => []
def cutTo (st : Option (List Nat)) (n : Int) : Option (List Nat) :=
  match st with
  | some l => if 0 ≤ n ∧ n ≤ (l.length : Int) then some (l.drop n.toNat) else none
  | none => none
theorem cutOf_none (n : Int) : cutOf none n = [] := rfl
theorem cutTo_none (n : Int) : cutTo none n = none := rfl
theorem cutOf_in {l : List Nat} {n : Nat} (h : n ≤ l.length) : cutOf (some l) (n : Int) = l.take n := by simp [cutOf]; omega
theorem cutTo_in {l : List Nat} {n : Nat} (h : n ≤ l.length) : cutTo (some l) (n : Int) = some (l.drop n) := by simp [cutTo]; omega
theorem cutOf_out {l : List Nat} {n : Int} (h : n < 0 ∨ (l.length : Int) < n) : cutOf (some l) n = [] := by
  unfold cutOf; simp only; rw [if_neg (by omega)]
theorem cutTo_out {l : List Nat} {n : Int} (h : n < 0 ∨ (l.length : Int) < n) : cutTo (some l) n = none := by
  unfold cutTo; simp only; rw [if_neg (by omega)]
theorem cutOf_app (a b : List Nat) (n : Int) (h : n = a.length) : cutOf (some (a ++ b)) n = a := by
  subst h; rw [cutOf_in (by simp)]; simp
theorem cutTo_app (a b : List Nat) (n : Int) (h : n = a.length) : cutTo (some (a ++ b)) n = some b := by
  subst h; rw [cutTo_in (by simp)]; simp
theorem cutOf_len (st : Option (List Nat)) (k : Nat) : (cutOf st (k : Int)).length ≤ k := by
  unfold cutOf; split
  · split
    · simp; omega
    · simp
  · simp
theorem cutOf_lt {st : Option (List Nat)} (h : ∀ l, st = some l → ∀ c ∈ l, c < 256) (n : Int) : ∀ c ∈ cutOf st n, c < 256 := by
  unfold cutOf; split
  · split
    · exact fun c hc => h _ rfl c (List.mem_of_mem_take hc)
    · simp
  · simp

/-- The k last bytes of n, and a number's value. -/
def be (k n : Nat) : List Nat := (List.range k).map fun i => n / 256 ^ (k - 1 - i) % 256
def num (l : List Nat) : Nat := l.foldl (fun n b => n * 256 + b) 0
theorem be_len (k n : Nat) : (be k n).length = k := by simp [be]
theorem be_lt (k n : Nat) : ∀ c ∈ be k n, c < 256 := by
  intro c hc; obtain ⟨i, _, rfl⟩ := List.mem_map.1 hc; exact Nat.mod_lt _ (by decide)
theorem be_get (k n i : Nat) (hi : i < k) : (be k n)[i]? = some (n / 256 ^ (k - 1 - i) % 256) := by
  simp [be, List.getElem?_range hi]
theorem be_take (k n i : Nat) (hi : i < k) : (be k n).take (i + 1) = (be k n).take i ++ [n / 256 ^ (k - 1 - i) % 256] := by
  rw [List.take_add_one, be_get k n i hi]; rfl
theorem be_take_all (k n : Nat) : (be k n).take k = be k n := List.take_of_length_le (by rw [be_len]; omega)
theorem snoc_ind {p : List Nat → Prop} (h0 : p []) (h1 : ∀ l b, p l → p (l ++ [b])) : ∀ l, p l := fun l => by
  rw [← List.reverse_reverse l]
  generalize l.reverse = r
  induction r with
  | nil => exact h0
  | cons b r ih => rw [List.reverse_cons]; exact h1 _ _ ih
theorem num_snoc (l : List Nat) (b : Nat) : num (l ++ [b]) = num l * 256 + b := by simp [num, List.foldl_append]
theorem num_nil : num [] = 0 := rfl
theorem num_lt (l : List Nat) : (∀ c ∈ l, c < 256) → num l < 256 ^ l.length := by
  refine snoc_ind (p := fun l => (∀ c ∈ l, c < 256) → num l < 256 ^ l.length) ?_ ?_ l
  · intro _; simp [num]
  · intro l b ih h
    have h1 := ih fun c hc => h c (by simp [hc])
    have h2 := h b (by simp)
    rw [num_snoc, List.length_append, List.length_singleton, Nat.pow_succ]
    omega
theorem num_take (l : List Nat) (k : Nat) (hk : k < l.length) : num (l.take (k + 1)) = num (l.take k) * 256 + l[k] := by
  rw [take_succ' l hk, num_snoc]
theorem be_succ (k n : Nat) : be (k + 1) n = be k (n / 256) ++ [n % 256] := by
  apply List.ext_getElem?
  intro i
  by_cases hi : i < k
  · rw [be_get _ _ _ (by omega), List.getElem?_append_left (by rw [be_len]; omega), be_get _ _ _ hi]
    rw [show k + 1 - 1 - i = (k - 1 - i) + 1 by omega, Nat.pow_succ, Nat.mul_comm, Nat.div_div_eq_div_mul]
  · by_cases hk : i = k
    · subst hk
      rw [be_get _ _ _ (by omega), List.getElem?_append_right (by rw [be_len]; omega)]
      simp [be_len]
    · rw [List.getElem?_eq_none (by rw [be_len]; omega), List.getElem?_eq_none (by simp [be_len]; omega)]
theorem num_be : ∀ (k n : Nat), num (be k n) = n % 256 ^ k
  | 0, n => by simp [be, num, Nat.mod_one]
  | k + 1, n => by
    rw [be_succ, num_snoc, num_be k, Nat.pow_succ, Nat.mul_comm (256 ^ k) 256, Nat.mod_mul]
    omega
theorem be_num (l : List Nat) : (∀ c ∈ l, c < 256) → be l.length (num l) = l := by
  refine snoc_ind (p := fun l => (∀ c ∈ l, c < 256) → be l.length (num l) = l) ?_ ?_ l
  · intro _; simp [be]
  · intro l b ih h
    have h1 := ih fun c hc => h c (by simp [hc])
    have h2 := h b (by simp)
    rw [List.length_append, List.length_singleton, be_succ, num_snoc, show (num l * 256 + b) / 256 = num l by omega, show (num l * 256 + b) % 256 = b by omega, h1]
theorem be_mod (k n : Nat) : be k (n % 256 ^ k) = be k n := by
  rw [← num_be k n]
  have := be_num (be k n) (be_lt k n)
  rw [be_len] at this
  exact this
theorem be_pad (k n : Nat) (h : n < 256 ^ k) : ∀ j, be (j + k) n = List.replicate j 0 ++ be k n
  | 0 => by simp
  | j + 1 => by
    apply List.ext_getElem?
    intro i
    by_cases hi : i < j + 1
    · rw [be_get _ _ _ (by omega), List.getElem?_append_left (by simp; omega), List.getElem?_replicate, if_pos hi]
      rw [Nat.div_eq_of_lt (Nat.lt_of_lt_of_le h (Nat.pow_le_pow_right (by decide) (by omega)))]
    · rw [List.getElem?_append_right (by simp; omega), List.length_replicate]
      by_cases h2 : i < j + 1 + k
      · rw [be_get _ _ _ h2, be_get _ _ _ (by omega), show j + 1 + k - 1 - i = k - 1 - (i - (j + 1)) by omega]
      · rw [List.getElem?_eq_none (by rw [be_len]; omega), List.getElem?_eq_none (by rw [be_len]; omega)]
theorem be_zero (k : Nat) : be k 0 = List.replicate k 0 := by
  have := be_pad 0 0 (by decide) k
  simpa [be] using this
end Go.Proofs.Ytggonoppdekilaa
