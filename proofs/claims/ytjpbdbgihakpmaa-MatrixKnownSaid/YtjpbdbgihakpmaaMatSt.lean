/- A law's field and lists, kept over its calls on matrices; the calls, each as what it adds. -/
import Derived.Test.YtjpbdbgihakpmaaMatSame
import Derived.Test.YtjpbdbgihakpmaaMatBad
import Derived.Test.YtjpbdbgihakpmaaMatPick
import Derived.Test.YtjpbdbgihakpmaaMatRank
import Derived.Test.YtjpbdbgihakpmaaMatInv
import Derived.Test.YtjpbdbgihakpmaaMatPowers
import Derived.Test.YtjpbdbgihakpmaaMatSymm
import Derived.Test.YtjpbdbgihakpmaaGfSt
import Derived.Test.YtjpbdbgihakpmaaPolySame
namespace Go.Proofs.Ytjpbdbgihakpmaa.Mat
open Go.RowKit F8 Poly GF

/-- A variable that holds a matrix: its block, what it holds. -/
structure Bx where
  b : Nat
  R : Int
  C : Int
  A : Option Addr
  n : Nat
  c : Nat
def Bx.In (w : World) (x : Bx) : Prop := Block w x.b 24 #[.int .i64 x.R, .int .i64 x.C, .slice x.A x.n x.c]
/-- Behind w0, ahead of the field: variables. -/
structure Q (w0 : World) (bx : List Bx) (w : World) : Prop where
  bel : Below w0.heap.size w0 w
  bx : ∀ x ∈ bx, x.In w
/-- Behind w0: a field at g; lists that lie elsewhere; variables. -/
structure W (w0 : World) (g : Nat) (ls : List (Option Addr × List F8)) (bx : List Bx) (w : World) : Prop where
  st : St w0.heap.size w0 [g] w
  ls : ∀ x ∈ ls, Bytes w x.1 (bs x.2) ∧ (x.2 ≠ [] → ∀ a, x.1 = some a → a.block ≠ g)
  bx : ∀ x ∈ bx, x.In w
section
variable {w0 w w' : World} {g : Nat} {ls : List (Option Addr × List F8)} {bx : List Bx} {A B : Option Addr} {p q : List F8}
theorem Q.start (w : World) : Q w [] w := ⟨Below.refl _ _, by simp⟩
theorem Q.below (h : Q w0 bx w) (hb : Below w.heap.size w w') : Q w0 bx w' := ⟨h.bel.trans (hb.mono h.bel.size), fun x hx => (h.bx x hx).below hb (h.bx x hx).lt⟩
theorem Q.param (h : Q w0 bx w) (R C : Int) (A : Option Addr) (n c : Nat) : Q w0 (⟨w.heap.size, R, C, A, n, c⟩ :: bx) (w.alloc (.cells #[.int .i64 R, .int .i64 C, .slice A n c] 24)) :=
  ⟨h.bel.alloc h.bel.size _, fun x hx => by
    rcases List.mem_cons.1 hx with rfl | hx
    · exact Block.new _ _ _
    · exact (h.bx x hx).alloc _⟩
theorem W.fld (h : W w0 g ls bx w) : FldP w (some ⟨g, 0, none⟩) := FldP.of (h.st.fld g (by simp)).1
theorem W.glt (h : W w0 g ls bx w) : g < w.heap.size := (h.st.fld g (by simp)).1.lt
theorem W.bytes (h : W w0 g ls bx w) (hx : (A, p) ∈ ls) : Bytes w A (bs p) := (h.ls _ hx).1
theorem W.far (h : W w0 g ls bx w) (hx : (A, p) ∈ ls) : Far (some ⟨g, 0, none⟩) A p := fun hp a b ha hb => by cases hb; exact (h.ls _ hx).2 hp a ha
theorem W.past (h : W w0 g ls bx w) (h1 : FldP w' (some ⟨g, 0, none⟩)) (h2 : Past w.heap.size g w w') : W w0 g ls bx w' :=
  ⟨h.st.go (Rc.of (by simp)) h1 h2, fun x hx => ⟨bytes_far (h.ls x hx).1 (h.ls x hx).2 h2, (h.ls x hx).2⟩,
    fun x hx => (h.bx x hx).past h2 (h.bx x hx).lt (Ne.symm (Fld.ne_block (h.st.fld g (by simp)).1 (h.bx x hx) (by decide)))⟩
theorem W.below (h : W w0 g ls bx w) (hb : Below w.heap.size w w') : W w0 g ls bx w' :=
  ⟨h.st.below hb, fun x hx => ⟨(h.ls x hx).1.below hb, (h.ls x hx).2⟩, fun x hx => (h.bx x hx).below hb (h.bx x hx).lt⟩
theorem W.drewN (h : W w0 g ls bx w) (n : Nat) : W w0 g ls bx (w.drewN n) := h.below (Below.drewN' (Below.refl _ _) n)
theorem W.drew (h : W w0 g ls bx w) : W w0 g ls bx w.drew := h.drewN 1
theorem W.alloc (h : W w0 g ls bx w) (o : Obj) : W w0 g ls bx (w.alloc o) := h.below ((Below.refl _ _).alloc (Nat.le_refl _) o)
theorem W.cons (h : W w0 g ls bx w) (hb : Bytes w A (bs p)) (hg : p ≠ [] → ∀ a, A = some a → a.block ≠ g) : W w0 g ((A, p) :: ls) bx w :=
  ⟨h.st, fun x hx => by rcases List.mem_cons.1 hx with rfl | hx; exact ⟨hb, hg⟩; exact h.ls x hx, h.bx⟩
theorem W.box (h : W w0 g ls bx w) (R C : Int) (A : Option Addr) (n c : Nat) : W w0 g ls (⟨w.heap.size, R, C, A, n, c⟩ :: bx) (w.alloc (.cells #[.int .i64 R, .int .i64 C, .slice A n c] 24)) :=
  have k := h.alloc (.cells #[.int .i64 R, .int .i64 C, .slice A n c] 24)
  ⟨k.st, k.ls, fun x hx => by rcases List.mem_cons.1 hx with rfl | hx; exact Block.new _ _ _; exact k.bx x hx⟩
theorem W.boxk (h : W w0 g ls bx w) (k : Nat) (hk : w.heap.size = k) (R C : Int) (A : Option Addr) (n c : Nat) : W w0 g ls (⟨k, R, C, A, n, c⟩ :: bx) (w.alloc (.cells #[.int .i64 R, .int .i64 C, .slice A n c] 24)) := hk ▸ h.box R C A n c
/-- .. its world by a name. -/
theorem W.var (h : W w0 g ls bx w) (R C : Int) (A : Option Addr) (n c : Nat) : ∃ v, w.alloc (.cells #[.int .i64 R, .int .i64 C, .slice A n c] 24) = v ∧ v.heap.size = w.heap.size + 1 ∧ W w0 g ls (⟨w.heap.size, R, C, A, n, c⟩ :: bx) v := ⟨_, rfl, by simp, h.box R C A n c⟩
theorem W.fresh (h : W w0 g ls bx w) : ∀ x ∈ bx, x.b ≠ w.heap.size := fun x hx => by have : x.b < w.heap.size := (h.bx x hx).lt; omega
theorem far_set3 {b : Nat} {x y z x' y' z' : Value} {A : Option Addr} {p : List F8} (hb : Block w b 24 #[x, y, z]) (hx : ∀ n : Int, x ≠ .int .u8 n) (hy : ∀ n : Int, y ≠ .int .u8 n) (hz : ∀ n : Int, z ≠ .int .u8 n) (h : Bytes w A (bs p)) : Bytes (set3 w b x' y' z') A (bs p) := by
  refine ⟨fun k u hu => ?_, h.lt⟩
  obtain ⟨b', off, rfl, hc⟩ := h.row k u hu
  refine ⟨b', off, rfl, ?_⟩
  have hne : b' ≠ b := by
    rintro rfl
    rw [hb.cell] at hc
    obtain ⟨n, hn⟩ : ∃ n : Int, u = .int .u8 n := by
      have := List.mem_of_getElem? hu
      simp only [bv, List.mem_map] at this
      obtain ⟨m, _, e⟩ := this
      exact ⟨_, e.symm⟩
    subst hn
    have : off + k < 3 := by
      rcases Nat.lt_or_ge (off + k) 3 with h3 | h3
      · exact h3
      · rw [Array.getElem?_eq_none (by simpa using h3)] at hc; cases hc
    rcases (by omega : off + k = 0 ∨ off + k = 1 ∨ off + k = 2) with e | e | e
    · rw [e] at hc; exact hx n (by simpa using hc)
    · rw [e] at hc; exact hy n (by simpa using hc)
    · rw [e] at hc; exact hz n (by simpa using hc)
  rw [← hc]
  exact World.cell?_of_block (by
    unfold set3
    rw [Below.heap_setCell _ _ _ _ (by simpa using hne), Below.heap_setCell _ _ _ _ (by simpa using hne), Below.heap_setCell _ _ _ _ (by simpa using hne)])
/-- A matrix stored into a variable that stands first. -/
theorem W.put (h : W w0 g ls bx w) {b : Nat} {R0 C0 : Int} {A0 : Option Addr} {n0 c0 : Nat} (hx : (⟨b, R0, C0, A0, n0, c0⟩ : Bx) ∈ bx) (hB : w0.heap.size ≤ b) (bx' : List Bx) (hs : ∀ y ∈ bx', y ∈ bx ∧ y.b ≠ b) (R C : Int) (A : Option Addr) (n c : Nat) :
    ∃ v, ((w.setCell ⟨b, 0, none⟩ (.int .i64 R)).setCell ⟨b, 1, none⟩ (.int .i64 C)).setCell ⟨b, 2, none⟩ (.slice A n c) = v ∧ W w0 g ls (⟨b, R, C, A, n, c⟩ :: bx') v := by
  have hbl : Block w b 24 #[.int .i64 R0, .int .i64 C0, .slice A0 n0 c0] := h.bx _ hx
  have hF := (h.st.fld g (by simp)).1
  have hne : g ≠ b := Fld.ne_block hF hbl (by decide)
  refine ⟨set3 w b (.int .i64 R) (.int .i64 C) (.slice A n c), rfl, ⟨fun k hk => ?_, below_set3 h.st.bel hB _ _ _, by rw [set3_size]; exact h.st.le⟩, fun x hx => ⟨far_set3 hbl (fun n => by simp) (fun n => by simp) (fun n => by simp) (h.ls x hx).1, (h.ls x hx).2⟩, fun y hy => ?_⟩
  · obtain rfl : k = g := by simpa using hk
    exact ⟨fld_set3 hF hne _ _ _, (h.st.fld _ (by simp)).2⟩
  · rcases List.mem_cons.1 hy with rfl | hy
    · exact block_set3_self hbl _ _ _
    · exact block_set3 (h.bx y (hs y hy).1) (hs y hy).2 _ _ _
/-- One way out of a piece of code, told by what it has written. -/
theorem wp_to_upd {α : Type} {P : Program} {c : Code} {Q : Exit → Act → World → Prop} {a : Act} {w : World} (upd : α → Act → Act) (R : α → World → Prop) (h : c.wp P (fun e a' w' => e = .normal ∧ ∃ m, a' = upd m a ∧ R m w') a w) (hK : ∀ m w', R m w' → Q .normal (upd m a) w') : c.wp P Q a w :=
  wp_mono h (by rintro e a w ⟨rfl, m, rfl, hr⟩; exact hK m _ hr)
/-- What a variable's cells hold. -/
theorem W.at_ (h : W w0 g ls bx w) {b : Nat} {R C : Int} {n c : Nat} (hx : (⟨b, R, C, A, n, c⟩ : Bx) ∈ bx) : w.cell? ⟨b, 0, none⟩ = some (.int .i64 R) ∧ w.cell? ⟨b, 1, none⟩ = some (.int .i64 C) ∧ w.cell? ⟨b, 2, none⟩ = some (.slice A n c) := cells3 (h.bx _ hx)
theorem Q.at_ (h : Q w0 bx w) {b : Nat} {R C : Int} {n c : Nat} (hx : (⟨b, R, C, A, n, c⟩ : Bx) ∈ bx) : w.cell? ⟨b, 0, none⟩ = some (.int .i64 R) ∧ w.cell? ⟨b, 1, none⟩ = some (.int .i64 C) ∧ w.cell? ⟨b, 2, none⟩ = some (.slice A n c) := cells3 (h.bx _ hx)
theorem own_bytes {B0 : Nat} {e : TypeId} {n c : Nat} (h : Own w B0 e (.slice A n c) (bv (bs p))) : Bytes w A (bs p) := by
  obtain ⟨A', c', e1, hr, _⟩ := h.form
  injection e1 with e2 _ _
  subst e2
  exact ⟨hr, bs_lt p⟩
theorem W.own {B0 : Nat} {e : TypeId} {n c : Nat} (h : W w0 g ls bx w) (ho : Own w B0 e (.slice A n c) (bv (bs p))) (hB : g < B0) : W w0 g ((A, p) :: ls) bx w :=
  h.cons (own_bytes ho) (fun _ a ha => by have := own_block ho a ha; omega)
theorem W.subx {bx' : List Bx} (h : W w0 g ls bx w) (hs : ∀ x ∈ bx', x ∈ bx) : W w0 g ls bx' w := ⟨h.st, h.ls, fun x hx => h.bx x (hs x hx)⟩
theorem W.sub {ls' : List (Option Addr × List F8)} (h : W w0 g ls bx w) (hs : ∀ x ∈ ls', x ∈ ls) : W w0 g ls' bx w := ⟨h.st, fun x hx => h.ls x (hs x hx), h.bx⟩
theorem W.bel (h : W w0 g ls bx w) : Below w0.heap.size w0 w := h.st.bel
/-- A list that was there at the start. -/
theorem W.arg (h : W w0 g ls bx w) (hb : Bytes w0 A (bs p)) : W w0 g ((A, p) :: ls) bx w :=
  h.cons (hb.below h.bel) (fun hp a ha => by
    obtain ⟨b, off, e⟩ := where_ hb (List.length_pos_iff.2 hp)
    rw [ha] at e; cases e
    obtain ⟨b', off', e', hc⟩ := cellF hb 0 (List.length_pos_iff.2 hp)
    rw [ha] at e'; cases e'
    have := cell_lt hc
    have := (h.st.fld g (by simp)).2
    simp at *; omega)
/-- field.New() behind it all. -/
theorem Q.new (h : Q w0 bx w) : Calls Try.prog 26 #[] w fun e w' => e = .returned (.pointer (some ⟨w.heap.size, 0, none⟩)) ∧ W w0 w.heap.size [] bx w' :=
  (new_calls w).mono fun e w' ⟨h1, h2⟩ => by
    rw [h2]
    have hs : St w0.heap.size w0 [] w := ⟨by simp, h.bel, h.bel.size⟩
    exact ⟨h1, hs.new, by simp, fun x hx => (h.bx x hx).alloc _⟩
/-- A row that is written out. -/
theorem W.lit (h : W w0 g ls bx w) (cs : Array Value) (p : List F8) (hp : cs.toList = bv (bs p)) : W w0 g ((some ⟨w.heap.size, 0, none⟩, p) :: ls) bx (w.alloc (.cells cs 5)) := by
  refine (h.alloc _).cons ⟨?_, bs_lt p⟩ (fun _ a ha => ?_)
  · have := Row.new w cs 5 (0, 0)
    rw [hp] at this; exact this
  · cases ha; have := h.glt; simp; omega
theorem W.litk (h : W w0 g ls bx w) (k : Nat) (hk : w.heap.size = k) (cs : Array Value) (p : List F8) (hp : cs.toList = bv (bs p)) : W w0 g ((some ⟨k, 0, none⟩, p) :: ls) bx (w.alloc (.cells cs 5)) := hk ▸ h.lit cs p hp
theorem alloc_size (w : World) (o : Obj) : (w.alloc o).heap.size = w.heap.size + 1 := by simp
theorem W.lit2 (h : W w0 g ls bx w) (cs ds : Array Value) (p q : List F8) (hp : cs.toList = bv (bs p)) (hq : ds.toList = bv (bs q)) :
    W w0 g ((some ⟨w.heap.size + 1, 0, none⟩, q) :: (some ⟨w.heap.size, 0, none⟩, p) :: ls) bx ((w.alloc (.cells cs 5)).alloc (.cells ds 5)) := by
  have := (h.lit cs p hp).lit ds q hq
  rw [alloc_size] at this; exact this
theorem W.nil (h : W w0 g ls bx w) : W w0 g ((none, []) :: ls) bx w := h.cons (Bytes.nil _ _) (fun _ a ha => by cases ha)
end
/-- A matrix more and an error's number. -/
def MoreE (w0 : World) (g : Nat) (ls : List (Option Addr × List F8)) (bx : List Bx) (r c N : Nat) (u : List F8) (k : Int) (e : Ending) (w' : World) : Prop :=
  ∃ A cap, e = .returned (.tuple #[.agg #[.int .i64 r, .int .i64 c, .slice A N cap], .int .i64 k]) ∧ N ≤ cap ∧ W w0 g ((A, u) :: ls) bx w'
/-- A matrix more. -/
def MoreM (w0 : World) (g : Nat) (ls : List (Option Addr × List F8)) (bx : List Bx) (r c N : Nat) (u : List F8) (e : Ending) (w' : World) : Prop :=
  ∃ A cap, e = .returned (.agg #[.int .i64 r, .int .i64 c, .slice A N cap]) ∧ N ≤ cap ∧ W w0 g ((A, u) :: ls) bx w'
/-- A row more and an error's number. -/
def MoreR (w0 : World) (g : Nat) (ls : List (Option Addr × List F8)) (bx : List Bx) (N : Nat) (u : List F8) (k : Int) (e : Ending) (w' : World) : Prop :=
  ∃ A cap, e = .returned (.tuple #[.slice A N cap, .int .i64 k]) ∧ N ≤ cap ∧ W w0 g ((A, u) :: ls) bx w'
section
variable {w0 w w' : World} {g : Nat} {ls : List (Option Addr × List F8)} {bx : List Bx} {r c N : Nat} {u : List F8} {e : Ending} {k : Int}
theorem MoreE.of_F (h : W w0 g ls bx w) (hN : u.length = N) (hr : MatResF (some ⟨g, 0, none⟩) w w' e r c u k) : MoreE w0 g ls bx r c N u k e w' := by
  subst hN
  obtain ⟨A, cap, h1, h2, h3, h4, h5⟩ := hr
  exact ⟨A, cap, h1, h2, (h.past h4 h5).own h3 h.glt⟩
theorem MoreE.of_E (h : W w0 g ls bx w) (hN : u.length = N) (hr : MatResE w w' e r c u k) : MoreE w0 g ls bx r c N u k e w' := by
  subst hN
  obtain ⟨A, cap, h1, h2, h3, h4⟩ := hr
  exact ⟨A, cap, h1, h2, (h.below h4).own h3 h.glt⟩
theorem MoreM.of (h : W w0 g ls bx w) (hN : u.length = N) (hr : MatRes w w' e r c u) : MoreM w0 g ls bx r c N u e w' := by
  subst hN
  obtain ⟨A, cap, h1, h2, h3, h4⟩ := hr
  exact ⟨A, cap, h1, h2, (h.below h4).own h3 h.glt⟩
theorem MoreM.of_P (h : W w0 g ls bx w) (hN : u.length = N) (hr : PowRes (some ⟨g, 0, none⟩) r c u w e w') : MoreM w0 g ls bx r c N u e w' := by
  subst hN
  obtain ⟨A, cap, h1, h2, h3, h4, h5⟩ := hr
  exact ⟨A, cap, h1, h2, (h.past h4 h5).own h3 h.glt⟩
theorem MoreR.of (h : W w0 g ls bx w) (hN : u.length = N) (hr : PackRes u k w e w') : MoreR w0 g ls bx N u k e w' := by
  subst hN
  obtain ⟨A, cap, h1, h2, h3, h4⟩ := hr
  exact ⟨A, cap, h1, h2, (h.below h4).own h3 h.glt⟩
end
theorem solAny_len {r n q rr cc : Nat} {s t u : List F8} {k : Int} (hs : SolAny r n q s t rr cc u k) : u.length = rr * cc := by
  rcases hs with ⟨X, _, rfl, rfl, rfl, _⟩ | ⟨_, rfl, rfl, rfl, _⟩
  · exact flat_length _ _ _
  · rfl
/-- The product of two, refused where they don't fit. -/
structure Fits (Ra Ca : Int) (n1 : Nat) (Rb Cb : Int) (n2 : Nat) : Prop where
  a : RightB Ra Ca n1 = true
  b : RightB Rb Cb n2 = true
  eq : Ca = Rb
theorem sameB_refl (R C : Int) (p : List F8) : SameB R C R C p p = true := by unfold SameB; simp
section
variable {w0 w : World} {g : Nat} {ls : List (Option Addr × List F8)} {bx : List Bx} (h : W w0 g ls bx w)
include h
theorem mulW (r n m N1 N2 N3 c1 c2 : Nat) (A B : Option Addr) (s q u : List F8) (ha : (A, s) ∈ ls) (hb : (B, q) ∈ ls) (hr : r ≤ 100) (hn : n ≤ 100) (hm : m ≤ 100) (hN1 : r * n = N1) (hN2 : n * m = N2) (hN3 : r * m = N3) (hc1 : N1 ≤ c1) (hc2 : N2 ≤ c2) (hl1 : s.length = N1) (hl2 : q.length = N2) (hu : flat r m (mulF n (ent s n) (ent q m)) = u) :
    Calls Try.prog 54 #[.pointer (some ⟨g, 0, none⟩), .agg #[.int .i64 r, .int .i64 n, .slice A N1 c1], .agg #[.int .i64 n, .int .i64 m, .slice B N2 c2]] w fun e w' => MoreE w0 g ls bx r m N3 u 0 e w' := by
  have := mul_bound hr hm
  exact (mul_pcalls r n m N1 N2 N3 c1 c2 A B s q (by omega) (by omega) (by omega) hN1 hN2 hN3 (by omega) hc1 hc2 hl1 hl2 w (h.bytes ha) (h.bytes hb) _ h.fld (h.far ha) (h.far hb)).mono fun _ _ hx => MoreE.of_F h (by rw [← hu, flat_length, hN3]) (hu ▸ hx)
theorem mulW_bad (Ra Ca Rb Cb : Int) (n1 n2 c1 c2 : Nat) (A B : Option Addr) (hx : ¬ Fits Ra Ca n1 Rb Cb n2) :
    Calls Try.prog 54 #[.pointer (some ⟨g, 0, none⟩), .agg #[.int .i64 Ra, .int .i64 Ca, .slice A n1 c1], .agg #[.int .i64 Rb, .int .i64 Cb, .slice B n2 c2]] w fun e w' => MoreE w0 g ls bx 0 0 0 [] 50 e w' :=
  (mul_bad _ Ra Ca Rb Cb A B n1 n2 c1 c2 (fun hy => hx ⟨hy.1, hy.2.1, hy.2.2.1⟩) w).mono fun _ _ hx => MoreE.of_E h rfl hx
theorem mulW_any (Ra Ca Rb Cb : Int) (n1 n2 c1 c2 : Nat) (A B : Option Addr) (s q : List F8) (ha : (A, s) ∈ ls) (hb : (B, q) ∈ ls) (hr : Ra ≤ 100) (hn : Ca ≤ 100) (hm : Cb ≤ 100) (hc1 : n1 ≤ c1) (hc2 : n2 ≤ c2) (hl1 : s.length = n1) (hl2 : q.length = n2) :
    Calls Try.prog 54 #[.pointer (some ⟨g, 0, none⟩), .agg #[.int .i64 Ra, .int .i64 Ca, .slice A n1 c1], .agg #[.int .i64 Rb, .int .i64 Cb, .slice B n2 c2]] w fun e w' => ∃ r c N u k, MoreE w0 g ls bx r c N u k e w' := by
  by_cases hx : Fits Ra Ca n1 Rb Cb n2
  · obtain ⟨x1, x2, x3⟩ := hx
    obtain ⟨r, n, rfl, rfl, k1, k2, k3⟩ := rightB_iff.1 x1
    obtain ⟨n', m, rfl, rfl, k4, k5, k6⟩ := rightB_iff.1 x2
    obtain rfl : n = n' := by omega
    exact (mulW h r n m n1 n2 _ c1 c2 A B s q _ ha hb (by omega) (by omega) (by omega) k3.symm k6.symm rfl hc1 hc2 hl1 hl2 rfl).mono fun _ _ hy => ⟨_, _, _, _, _, hy⟩
  · exact (mulW_bad h Ra Ca Rb Cb n1 n2 c1 c2 A B hx).mono fun _ _ hy => ⟨_, _, _, _, _, hy⟩
theorem turnedW (r c N cap : Nat) (A : Option Addr) (s u : List F8) (ha : (A, s) ∈ ls) (hr : r ≤ 100) (hc : c ≤ 100) (hN : r * c = N) (hcap : N ≤ cap) (hl : s.length = N) (hu : flat c r (tr (ent s c)) = u) :
    Calls Try.prog 44 #[.agg #[.int .i64 r, .int .i64 c, .slice A N cap]] w fun e w' => MoreE w0 g ls bx c r N u 0 e w' := by
  have := mul_bound hr hc
  exact (turned_calls r c N cap A s hN.symm (by omega) (by omega) (by omega) hcap hl w (h.bytes ha)).mono fun _ _ hx => MoreE.of_E h (by rw [← hu, flat_length, ← hN, Nat.mul_comm]) (hu ▸ hx)
theorem turnedW_bad (R C : Int) (A : Option Addr) (n cap : Nat) (hb : RightB R C n = false) :
    Calls Try.prog 44 #[.agg #[.int .i64 R, .int .i64 C, .slice A n cap]] w fun e w' => MoreE w0 g ls bx 0 0 0 [] 50 e w' :=
  (turned_bad R C A n cap hb w).mono fun _ _ hx => MoreE.of_E h rfl hx
theorem rankW (r c N cap : Nat) (A : Option Addr) (s : List F8) (ha : (A, s) ∈ ls) (hr : r ≤ 100) (hc : c ≤ 100) (hN : r * c = N) (hl : s.length = N) :
    Calls Try.prog 46 #[.pointer (some ⟨g, 0, none⟩), .agg #[.int .i64 r, .int .i64 c, .slice A N cap]] w fun e w' => ∃ k : Nat, RankIs r c (ent s c) c k ∧ e = .returned (.tuple #[.int .i64 k, .int .i64 0]) ∧ W w0 g ls bx w' := by
  have := mul_bound hr hc
  refine (rank_calls r c N cap A _ s (by omega) (by omega) hN (by omega) hl w (h.bytes ha) h.fld).mono ?_
  rintro e w' ⟨k, ord, bg, t, h1, h2, h3, h4, h5⟩
  exact ⟨k, h2 ▸ h3.rank (Nat.le_refl c), h1, h.past h4 h5⟩
theorem rankW_bad (R C : Int) (A : Option Addr) (n cap : Nat) (hb : RightB R C n = false) :
    Calls Try.prog 46 #[.pointer (some ⟨g, 0, none⟩), .agg #[.int .i64 R, .int .i64 C, .slice A n cap]] w fun e w' => e = .returned (.tuple #[.int .i64 0, .int .i64 50]) ∧ W w0 g ls bx w' :=
  (rank_bad R C A n cap _ hb w).mono fun _ _ ⟨h1, h2⟩ => ⟨h1, h.below h2⟩
theorem solveW (r n q N1 N2 c1 c2 : Nat) (A B : Option Addr) (s t : List F8) (ha : (A, s) ∈ ls) (hb : (B, t) ∈ ls) (hr : r ≤ 100) (hn : n ≤ 100) (hq : q ≤ 100) (hN1 : r * n = N1) (hN2 : r * q = N2) (hc1 : N1 ≤ c1) (hc2 : N2 ≤ c2) (hl1 : s.length = N1) (hl2 : t.length = N2) :
    Calls Try.prog 56 #[.pointer (some ⟨g, 0, none⟩), .agg #[.int .i64 r, .int .i64 n, .slice A N1 c1], .agg #[.int .i64 r, .int .i64 q, .slice B N2 c2]] w fun e w' => ∃ (rr cc : Nat) (u : List F8) (k : Int), SolAny r n q s t rr cc u k ∧ MoreE w0 g ls bx rr cc (rr * cc) u k e w' := by
  have := mul_bound hr hn
  have := mul_bound hr hq
  refine (solve_calls _ r n q N1 N2 c1 c2 A B s t (by omega) (by omega) (by omega) hN1 hN2 hc1 hc2 hl1 hl2 (by omega) w (h.bytes ha) (h.bytes hb) h.fld).mono ?_
  rintro e w' ⟨rr, cc, u, k, h1, h2⟩
  exact ⟨rr, cc, u, k, h1, MoreE.of_F h (solAny_len h1) h2⟩
theorem solveW_bad (Ra Ca Rb Cb : Int) (n1 n2 c1 c2 : Nat) (A B : Option Addr) (hx : ¬ (RightB Ra Ca n1 = true ∧ RightB Rb Cb n2 = true ∧ Ra = Rb)) :
    Calls Try.prog 56 #[.pointer (some ⟨g, 0, none⟩), .agg #[.int .i64 Ra, .int .i64 Ca, .slice A n1 c1], .agg #[.int .i64 Rb, .int .i64 Cb, .slice B n2 c2]] w fun e w' => MoreE w0 g ls bx 0 0 0 [] 50 e w' :=
  (solve_bad _ Ra Ca Rb Cb A B n1 n2 c1 c2 hx w).mono fun _ _ hx => MoreE.of_E h rfl hx
theorem inverseW (n N cap : Nat) (A : Option Addr) (s : List F8) (ha : (A, s) ∈ ls) (hn : n ≤ 100) (hN : n * n = N) (hcap : N ≤ cap) (hl : s.length = N) :
    Calls Try.prog 49 #[.pointer (some ⟨g, 0, none⟩), .agg #[.int .i64 n, .int .i64 n, .slice A N cap]] w fun e w' => ∃ (rr cc : Nat) (u : List F8) (k : Int), SolAny n n n s (flat n n oneF) rr cc u k ∧ MoreE w0 g ls bx rr cc (rr * cc) u k e w' := by
  refine (inverse_calls _ n N cap A s (by omega) hN hcap hl w (h.bytes ha) h.fld).mono ?_
  rintro e w' ⟨rr, cc, u, k, h1, h2⟩
  exact ⟨rr, cc, u, k, h1, MoreE.of_F h (solAny_len h1) h2⟩
theorem inverseW_bad (R C : Int) (A : Option Addr) (n cap : Nat) (hx : ¬ (RightB R C n = true ∧ R = C)) :
    Calls Try.prog 49 #[.pointer (some ⟨g, 0, none⟩), .agg #[.int .i64 R, .int .i64 C, .slice A n cap]] w fun e w' => MoreE w0 g ls bx 0 0 0 [] 50 e w' :=
  (inverse_bad _ R C A n cap (fun hy => hx ⟨hy.1, hy.2.1⟩) w).mono fun _ _ hx => MoreE.of_E h rfl hx
theorem oneW (n N : Nat) (u : List F8) (hn : n ≤ 100) (hN : n * n = N) (hu : flat n n oneF = u) :
    Calls Try.prog 59 #[.int .i64 n] w fun e w' => MoreM w0 g ls bx n n N u e w' :=
  (one_calls n (by omega) w).mono fun _ _ hx => MoreM.of h (by rw [← hu, flat_length, hN]) (hu ▸ hx)
theorem powersW (m n N cap : Nat) (A : Option Addr) (xs u : List F8) (ha : (A, xs) ∈ ls) (hm : m ≤ 100) (hn : n ≤ 100) (hN : m * n = N) (hl : xs.length = m) (hu : flat m n (powF xs) = u) :
    Calls Try.prog 61 #[.pointer (some ⟨g, 0, none⟩), .slice A m cap, .int .i64 n] w fun e w' => MoreM w0 g ls bx m n N u e w' := by
  have := mul_bound hm hn
  exact (powers_calls _ A xs m n cap hl (by omega) (by omega) (by omega) w (h.bytes ha) (h.far ha) h.fld).mono fun _ _ hx => MoreM.of_P h (by rw [← hu, flat_length, hN]) (hu ▸ hx)
theorem symmW (n m N cap : Nat) (A : Option Addr) (b u : List F8) (ha : (A, b) ∈ ls) (hn : n ≤ 100) (hl : b.length = m) (hm : m = tri n) (hN : n * n = N) (hcap : m ≤ cap) (hu : flat n n (symF b n) = u) :
    Calls Try.prog 60 #[.int .i64 n, .slice A m cap] w fun e w' => MoreE w0 g ls bx n n N u 0 e w' := by
  have := mul_bound hn hn
  exact (symm_calls n m cap A b (by omega) (by omega) hl hm hcap w (h.bytes ha)).mono fun _ _ hx => MoreE.of_E h (by rw [← hu, flat_length, hN]) (hu ▸ hx)
theorem symmW_bad (N : Int) (A : Option Addr) (m cap : Nat) (hx : ¬ (0 ≤ N ∧ N ≤ 65536 ∧ (2 * m : Int) = N * (N + 1))) :
    Calls Try.prog 60 #[.int .i64 N, .slice A m cap] w fun e w' => MoreE w0 g ls bx 0 0 0 [] 50 e w' :=
  (symm_size N A m cap hx w).mono fun _ _ hx => MoreE.of_E h rfl hx
theorem packedW (n N cap : Nat) (A : Option Addr) (s u : List F8) (ha : (A, s) ∈ ls) (hn : n ≤ 100) (hN : n * n = N) (hcap : N ≤ cap) (hl : s.length = N) (hs : SymB n n s = true) (hu : packL s n n = u) :
    Calls Try.prog 51 #[.agg #[.int .i64 n, .int .i64 n, .slice A N cap]] w fun e w' => MoreR w0 g ls bx u.length u 0 e w' := by
  have := mul_bound hn hn
  exact (packed_calls n N cap A s hN.symm (by omega) (by omega) hcap hl hs w (h.bytes ha)).mono fun _ _ hx => MoreR.of h rfl (hu ▸ hx)
theorem packedW_unlike (r c N cap : Nat) (A : Option Addr) (s : List F8) (ha : (A, s) ∈ ls) (hr : r ≤ 100) (hc : c ≤ 100) (hN : r * c = N) (hcap : N ≤ cap) (hl : s.length = N) (hs : SymB r c s = false) :
    Calls Try.prog 51 #[.agg #[.int .i64 r, .int .i64 c, .slice A N cap]] w fun e w' => MoreR w0 g ls bx 0 [] 50 e w' := by
  have := mul_bound hr hc
  exact (packed_unlike r c N cap A s hN.symm (by omega) (by omega) (by omega) hcap hl hs w (h.bytes ha)).mono fun _ _ hx => MoreR.of h rfl hx
theorem packedW_bad (R C : Int) (A : Option Addr) (n cap : Nat) (hb : RightB R C n = false) :
    Calls Try.prog 51 #[.agg #[.int .i64 R, .int .i64 C, .slice A n cap]] w fun e w' => MoreR w0 g ls bx 0 [] 50 e w' :=
  (packed_bad R C A n cap hb w).mono fun _ _ hx => MoreR.of h rfl hx
theorem msameW (R C R' C' : Int) (A B : Option Addr) (p q : List F8) (m n c d : Nat) (ha : (A, p) ∈ ls) (hb : (B, q) ∈ ls) (hm : p.length = m) (hn : q.length = n) (x : Bool) (hx : SameB R C R' C' p q = x) :
    Calls Try.prog 53 #[.agg #[.int .i64 R, .int .i64 C, .slice A m c], .agg #[.int .i64 R', .int .i64 C', .slice B n d]] w fun e w' => e = .returned (.bool x) ∧ W w0 g ls bx w' ∧ Below w.heap.size w w' :=
  hx ▸ (msame_calls R C R' C' A B p q m n c d w hm hn (h.bytes ha) (h.bytes hb)).mono fun _ _ ⟨h1, h2⟩ => ⟨h1, h.below h2, h2⟩
theorem rightW (R C : Int) (A : Option Addr) (n cap : Nat) (x : Bool) (hx : RightB R C n = x) :
    Calls Try.prog 19 #[.agg #[.int .i64 R, .int .i64 C, .slice A n cap]] w fun e w' => e = .returned (.bool x) ∧ W w0 g ls bx w' ∧ Below w.heap.size w w' :=
  hx ▸ (right_calls R C A n cap w).mono fun _ _ ⟨h1, h2⟩ => ⟨h1, h.below h2, h2⟩
theorem sameW (A B : Option Addr) (p q : List F8) (m n c d : Nat) (ha : (A, p) ∈ ls) (hb : (B, q) ∈ ls) (hm : p.length = m) (hn : q.length = n) (x : Bool) (hx : decide (p = q) = x) :
    Calls Try.prog 29 #[.slice A m c, .slice B n d] w fun e w' => e = .returned (.bool x) ∧ w = w' :=
  hx ▸ same_calls A B p q m n c d w hm hn (h.bytes ha) (h.bytes hb)
end
end Go.Proofs.Ytjpbdbgihakpmaa.Mat
