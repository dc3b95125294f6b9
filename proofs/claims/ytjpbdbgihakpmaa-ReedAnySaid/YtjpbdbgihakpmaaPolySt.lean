/- A law's field and lists, kept over its calls. -/
import Derived.Test.YtjpbdbgihakpmaaPolySpec
namespace Go.Proofs.Ytjpbdbgihakpmaa.Poly
open Go.RowKit F8 GF

/-- Behind w0: a field at g; lists that lie elsewhere. -/
structure W (w0 : World) (g : Nat) (ls : List (Option Addr × List F8)) (w : World) : Prop where
  st : St w0.heap.size w0 [g] w
  ls : ∀ x ∈ ls, Bytes w x.1 (bs x.2) ∧ (x.2 ≠ [] → ∀ a, x.1 = some a → a.block ≠ g)
section
variable {w0 w w' : World} {g : Nat} {ls : List (Option Addr × List F8)} {A B : Option Addr} {p q : List F8}
theorem bytes_far (h : Bytes w A (bs p)) (hg : p ≠ [] → ∀ a, A = some a → a.block ≠ g) (hp : Past w.heap.size g w w') : Bytes w' A (bs p) := by
  refine ⟨fun k u hu => ?_, bs_lt p⟩
  obtain ⟨b, off, rfl, hc⟩ := h.row k u hu
  refine ⟨b, off, rfl, ?_⟩
  rw [← hc]
  exact World.cell?_of_block (hp.block b (cell_lt hc) (hg (by rintro rfl; simp [bs, bv] at hu) _ rfl))
theorem own_block {B0 : Nat} {e : TypeId} {xs : List Value} {n c : Nat} (h : Own w B0 e (.slice A n c) xs) : ∀ a, A = some a → B0 ≤ a.block := by
  intro a ha
  rcases h.2 with ⟨h1, _⟩ | ⟨b, cap, cur, h1, h2, _⟩
  · injection h1 with h1; rw [h1] at ha; cases ha
  · injection h1 with h1; rw [h1] at ha; cases ha; exact h2
theorem W.fld (h : W w0 g ls w) : FldP w (some ⟨g, 0, none⟩) := FldP.of (h.st.fld g (by simp)).1
theorem W.glt (h : W w0 g ls w) : g < w.heap.size := (h.st.fld g (by simp)).1.lt
theorem W.bytes (h : W w0 g ls w) (hx : (A, p) ∈ ls) : Bytes w A (bs p) := (h.ls _ hx).1
theorem W.far (h : W w0 g ls w) (hx : (A, p) ∈ ls) : Far (some ⟨g, 0, none⟩) A p := fun hp a b ha hb => by cases hb; exact (h.ls _ hx).2 hp a ha
theorem W.past (h : W w0 g ls w) (h1 : FldP w' (some ⟨g, 0, none⟩)) (h2 : Past w.heap.size g w w') : W w0 g ls w' :=
  ⟨h.st.go (Rc.of (by simp)) h1 h2, fun x hx => ⟨bytes_far (h.ls x hx).1 (h.ls x hx).2 h2, (h.ls x hx).2⟩⟩
theorem W.below (h : W w0 g ls w) (hb : Below w.heap.size w w') : W w0 g ls w' :=
  ⟨h.st.below hb, fun x hx => ⟨(h.ls x hx).1.below hb, (h.ls x hx).2⟩⟩
theorem W.drewN (h : W w0 g ls w) (n : Nat) : W w0 g ls (w.drewN n) := h.below (Below.drewN' (Below.refl _ _) n)
theorem W.alloc (h : W w0 g ls w) (o : Obj) : W w0 g ls (w.alloc o) := h.below ((Below.refl _ _).alloc (Nat.le_refl _) o)
theorem W.cons (h : W w0 g ls w) (hb : Bytes w A (bs p)) (hg : p ≠ [] → ∀ a, A = some a → a.block ≠ g) : W w0 g ((A, p) :: ls) w :=
  ⟨h.st, fun x hx => by rcases List.mem_cons.1 hx with rfl | hx; exact ⟨hb, hg⟩; exact h.ls x hx⟩
theorem W.own {B0 : Nat} {e : TypeId} {c : Nat} (h : W w0 g ls w) (ho : Own w B0 e (.slice A p.length c) (bv (bs p))) (hB : g < B0) : W w0 g ((A, p) :: ls) w :=
  h.cons (Own.bytes ho) (fun _ a ha => by have := own_block ho a ha; omega)
theorem W.sub {ls' : List (Option Addr × List F8)} (h : W w0 g ls w) (hs : ∀ x ∈ ls', x ∈ ls) : W w0 g ls' w := ⟨h.st, fun x hx => h.ls x (hs x hx)⟩
theorem W.bel (h : W w0 g ls w) : Below w0.heap.size w0 w := h.st.bel
/-- A list that was there at the start. -/
theorem W.arg (h : W w0 g ls w) (hb : Bytes w0 A (bs p)) : W w0 g ((A, p) :: ls) w :=
  h.cons (hb.below h.bel) (fun hp a ha => by
    obtain ⟨b, off, e⟩ := where_ hb (List.length_pos_iff.2 hp)
    rw [ha] at e; cases e
    obtain ⟨b', off', e', hc⟩ := cellF hb 0 (List.length_pos_iff.2 hp)
    rw [ha] at e'; cases e'
    have := cell_lt hc
    have := (h.st.fld g (by simp)).2
    simp at *; omega)
theorem W.start (h : St w0.heap.size w0 [g] w) : W w0 g [] w := ⟨h, by simp⟩
end
theorem own_ne {w : World} {g B : Nat} {e t : TypeId} {v : Value} {xs : List Value} {cs : Array Value} (h : Own w B e v xs) (hb : Block w g t cs) (hne : e ≠ t) : v.ownBlock ≠ some g := by
  rcases h.2 with ⟨rfl, _⟩ | ⟨b, cap, cur, rfl, _, hh, _⟩
  · simp [Value.ownBlock]
  · intro e1
    obtain rfl : b = g := by simpa [Value.ownBlock] using e1
    unfold Block at hb
    rw [hh] at hb
    simp only [Option.some.injEq, Obj.cells.injEq] at hb
    exact hne hb.2.1
/-- A row of bytes of the call's own, over a call that turns a field. -/
theorem own_keep {w w' : World} {g B : Nat} {v : Value} {xs : List Value} (h : Own w B 5 v xs) (hf : FldP w (some ⟨g, 0, none⟩)) (hp : Past w.heap.size g w w') : Own w' B 5 v xs := by
  refine h.grown (row := some g) ⟨hp.os, hp.tape, hp.output, hp.size, fun k hk hn => hp.block k hk (fun e => hn (by rw [e]))⟩ (.inr ?_)
  rcases hf.fld with hb | hb
  · exact own_ne h hb (by decide)
  · exact own_ne h hb (by decide)
theorem _root_.Go.Proofs.Ytjpbdbgihakpmaa.GF.Fld.kept_grown {w w' : World} {g B : Nat} {row : Option Nat} (h : Fld w g) (hw : w.grownBy w' row) (hg : g < B) (hr : ∀ k, row = some k → B ≤ k) : Fld w' g :=
  have e := hw.block g h.lt (fun e => by have := hr g e.symm; omega)
  h.imp (fun h => e.trans h) (fun h => e.trans h)
/-- A list more, and all else as it was. -/
def More (w0 : World) (g : Nat) (ls : List (Option Addr × List F8)) (r : List F8) (e : Ending) (w' : World) : Prop :=
  ∃ A c, e = .returned (.slice A r.length c) ∧ r.length ≤ c ∧ W w0 g ((A, r) :: ls) w'
/-- Two lists more and an error's number. -/
def More2 (w0 : World) (g : Nat) (ls : List (Option Addr × List F8)) (u v : List F8) (k : Int) (e : Ending) (w' : World) : Prop :=
  ∃ A c B d, e = .returned (.tuple #[.slice A u.length c, .slice B v.length d, .int .i64 k]) ∧ u.length ≤ c ∧ v.length ≤ d ∧ W w0 g ((A, u) :: (B, v) :: ls) w'
/-- A list more and an error's number. -/
def MoreE (w0 : World) (g : Nat) (ls : List (Option Addr × List F8)) (r : List F8) (k : Int) (e : Ending) (w' : World) : Prop :=
  ∃ A c, e = .returned (.tuple #[.slice A r.length c, .int .i64 k]) ∧ r.length ≤ c ∧ W w0 g ((A, r) :: ls) w'
section
variable {w0 w w' : World} {g : Nat} {ls : List (Option Addr × List F8)} {r u v : List F8} {e : Ending} {k : Int}
theorem More.of_res (h : W w0 g ls w) (hr : Res w w' e r) : More w0 g ls r e w' := by
  obtain ⟨A, c, h1, h2, h3, h4⟩ := hr
  exact ⟨A, c, h1, h2, (h.below h4).own h3 h.glt⟩
theorem More.of_poly (h : W w0 g ls w) (hr : PolyRes (some ⟨g, 0, none⟩) w w' e r) : More w0 g ls r e w' := by
  obtain ⟨A, c, h1, h2, h3, h4, h5⟩ := hr
  exact ⟨A, c, h1, h2, (h.past h4 h5).own h3 h.glt⟩
theorem More2.of_poly (h : W w0 g ls w) (hr : PolyRes2 (some ⟨g, 0, none⟩) w w' e u v k) : More2 w0 g ls u v k e w' := by
  obtain ⟨A, c, B, d, h1, h2, h2', h3, h3', h4, h5⟩ := hr
  exact ⟨A, c, B, d, h1, h2, h2', ((h.past h4 h5).own h3' h.glt).own h3 h.glt⟩
theorem MoreE.of_poly (h : W w0 g ls w) (hr : PolyResE (some ⟨g, 0, none⟩) w w' e r k) : MoreE w0 g ls r k e w' := by
  obtain ⟨A, c, h1, h2, h3, h4, h5⟩ := hr
  exact ⟨A, c, h1, h2, (h.past h4 h5).own h3 h.glt⟩
end
theorem trimW (S : Spec) {w0 : World} {g : Nat} {ls : List (Option Addr × List F8)} (A : Option Addr) (p : List F8) (m c : Nat) (w : World) (h : W w0 g ls w) (ha : (A, p) ∈ ls) (hm : p.length = m) (hc : m ≤ c) (hl : m ≤ 1000) (r : List F8) (hr : trim p = r) : Calls Try.prog 132 #[.slice A m c] w fun e w' => More w0 g ls r e w' :=
  hr ▸ (S.trimP A p m c w hm (h.bytes ha) hc hl).mono fun _ _ hx => More.of_res h hx
theorem degreeW (S : Spec) {w0 : World} {g : Nat} {ls : List (Option Addr × List F8)} (A : Option Addr) (p : List F8) (m c : Nat) (w : World) (h : W w0 g ls w) (ha : (A, p) ∈ ls) (hm : p.length = m) (hc : m ≤ c) (hl : m ≤ 1000) (k : Int) (hk : (len p : Int) - 1 = k) : Calls Try.prog 125 #[.slice A m c] w fun e w' => e = .returned (.int .i64 k) ∧ W w0 g ls w' :=
  hk ▸ (S.degreeP A p m c w hm (h.bytes ha) hc hl).mono fun _ _ ⟨h1, h2⟩ => ⟨h1, h.below h2⟩
theorem atW (S : Spec) {w0 : World} {g : Nat} {ls : List (Option Addr × List F8)} (A : Option Addr) (p : List F8) (m c : Nat) (w : World) (h : W w0 g ls w) (ha : (A, p) ∈ ls) (hm : p.length = m) (hc : m ≤ c) (hl : m ≤ 1000) (x y : F8) (hy : eval p x = y) : Calls Try.prog 103 #[.pointer (some ⟨g, 0, none⟩), .slice A m c, .int .u8 x.n] w fun e w' => e = .returned (.int .u8 y.n) ∧ W w0 g ls w' :=
  hy ▸ (S.atP A p m c w hm (h.bytes ha) hc hl _ h.fld (h.far ha) x).mono fun _ _ ⟨h1, h2, h3⟩ => ⟨h1, h.past h2 h3⟩
theorem rootsW (S : Spec) {w0 : World} {g : Nat} {ls : List (Option Addr × List F8)} (A : Option Addr) (p : List F8) (m c : Nat) (w : World) (h : W w0 g ls w) (ha : (A, p) ∈ ls) (hm : p.length = m) (hc : m ≤ c) (hl : m ≤ 1000) (r : List F8) (hr : trim (roots p) = r) : Calls Try.prog 41 #[.pointer (some ⟨g, 0, none⟩), .slice A m c] w fun e w' => More w0 g ls r e w' :=
  hr ▸ (S.rootsP A p m c w hm (h.bytes ha) hc hl _ h.fld (h.far ha)).mono fun _ _ hx => More.of_poly h hx
theorem mulW (S : Spec) {w0 : World} {g : Nat} {ls : List (Option Addr × List F8)} (A B : Option Addr) (p q : List F8) (m n c d : Nat) (w : World) (h : W w0 g ls w) (ha : (A, p) ∈ ls) (hb : (B, q) ∈ ls) (hm : p.length = m) (hn : q.length = n) (hc : m ≤ c) (hd : n ≤ d) (hl : m ≤ 1000) (hl2 : n ≤ 1000) (r : List F8) (hr : trim (pmul p q) = r) : Calls Try.prog 86 #[.pointer (some ⟨g, 0, none⟩), .slice A m c, .slice B n d] w fun e w' => More w0 g ls r e w' :=
  hr ▸ (S.mulP A B p q m n c d w hm hn (h.bytes ha) (h.bytes hb) hc hd hl hl2 _ h.fld (h.far ha) (h.far hb)).mono fun _ _ hx => More.of_poly h hx
theorem divW_zero (S : Spec) {w0 : World} {g : Nat} {ls : List (Option Addr × List F8)} (A B : Option Addr) (p q : List F8) (m n c d : Nat) (w : World) (h : W w0 g ls w) (ha : (A, p) ∈ ls) (hb : (B, q) ∈ ls) (hm : p.length = m) (hn : q.length = n) (hc : m ≤ c) (hd : n ≤ d) (hl : m ≤ 1000) (hl2 : n ≤ 1000) (hz : trim q = []) : Calls Try.prog 122 #[.pointer (some ⟨g, 0, none⟩), .slice A m c, .slice B n d] w fun e w' => More2 w0 g ls [] [] 30 e w' :=
  (S.divP_zero A B p q m n c d w hm hn (h.bytes ha) (h.bytes hb) hc hd hl hl2 _ h.fld (h.far ha) (h.far hb) hz).mono fun _ _ hx => More2.of_poly h hx
theorem divW (S : Spec) {w0 : World} {g : Nat} {ls : List (Option Addr × List F8)} (A B : Option Addr) (p q : List F8) (m n c d : Nat) (w : World) (h : W w0 g ls w) (ha : (A, p) ∈ ls) (hb : (B, q) ∈ ls) (hm : p.length = m) (hn : q.length = n) (hc : m ≤ c) (hd : n ≤ d) (hl : m ≤ 1000) (hl2 : n ≤ 1000) (hz : 0 < len q) : Calls Try.prog 122 #[.pointer (some ⟨g, 0, none⟩), .slice A m c, .slice B n d] w fun e w' => ∃ u v, DivBy p q u v ∧ More2 w0 g ls u v 0 e w' :=
  (S.divP A B p q m n c d w hm hn (h.bytes ha) (h.bytes hb) hc hd hl hl2 _ h.fld (h.far ha) (h.far hb) hz).mono fun _ _ ⟨u, v, hx, hy⟩ => ⟨u, v, hx, More2.of_poly h hy⟩
theorem throughW_bad (S : Spec) {w0 : World} {g : Nat} {ls : List (Option Addr × List F8)} (A B : Option Addr) (p q : List F8) (m n c d : Nat) (w : World) (h : W w0 g ls w) (ha : (A, p) ∈ ls) (hb : (B, q) ∈ ls) (hm : p.length = m) (hn : q.length = n) (hc : m ≤ c) (hd : n ≤ d) (hl : m ≤ 1000) (hl2 : n ≤ 1000) (hx : m ≠ n ∨ ¬ p.Nodup) : Calls Try.prog 104 #[.pointer (some ⟨g, 0, none⟩), .slice A m c, .slice B n d] w fun e w' => MoreE w0 g ls [] 2 e w' :=
  (S.throughP_bad A B p q m n c d w hm hn (h.bytes ha) (h.bytes hb) hc hd hl hl2 _ h.fld (h.far ha) (h.far hb) hx).mono fun _ _ hx => MoreE.of_poly h hx
theorem throughW (S : Spec) {w0 : World} {g : Nat} {ls : List (Option Addr × List F8)} (A B : Option Addr) (p q : List F8) (m n c d : Nat) (w : World) (h : W w0 g ls w) (ha : (A, p) ∈ ls) (hb : (B, q) ∈ ls) (hm : p.length = m) (hn : q.length = n) (hc : m ≤ c) (hd : n ≤ d) (hl : m ≤ 1000) (hl2 : n ≤ 1000) (hx : m = n) (hnd : p.Nodup) : Calls Try.prog 104 #[.pointer (some ⟨g, 0, none⟩), .slice A m c, .slice B n d] w fun e w' => ∃ r, Thru p q r ∧ MoreE w0 g ls r 0 e w' :=
  (S.throughP A B p q m n c d w hm hn (h.bytes ha) (h.bytes hb) hc hd hl hl2 _ h.fld (h.far ha) (h.far hb) hx hnd).mono fun _ _ ⟨r, hx, hy⟩ => ⟨r, hx, MoreE.of_poly h hy⟩
theorem sameW {w0 : World} {g : Nat} {ls : List (Option Addr × List F8)} (A B : Option Addr) (p q : List F8) (m n c d : Nat) (w : World) (h : W w0 g ls w) (ha : (A, p) ∈ ls) (hb : (B, q) ∈ ls) (hm : p.length = m) (hn : q.length = n) (s : Bool) (hs : decide (p = q) = s) : Calls Try.prog 29 #[.slice A m c, .slice B n d] w fun e w' => e = .returned (.bool s) ∧ w = w' :=
  hs ▸ same_calls A B p q m n c d w hm hn (h.bytes ha) (h.bytes hb)
/-- The field's own calls. -/
theorem fmulW {w0 : World} {g : Nat} {ls : List (Option Addr × List F8)} (w : World) (h : W w0 g ls w) (a b r : F8) (hr : a * b = r) :
    Calls Try.prog 32 #[.pointer (some ⟨g, 0, none⟩), .int .u8 a.n, .int .u8 b.n] w fun e w' => e = .returned (.int .u8 r.n) ∧ W w0 g ls w' :=
  hr ▸ (mul_calls _ a.n b.n a.h b.h w h.fld).mono fun _ _ ⟨h1, h2, h3⟩ => ⟨h1, h.past h2 h3⟩
theorem faddW (a b r : F8) (hr : a + b = r) (w : World) : Calls Try.prog 40 #[.int .u8 a.n, .int .u8 b.n] w fun e w' => e = .returned (.int .u8 r.n) ∧ w = w' :=
  hr ▸ add_calls a.n b.n a.h b.h w
end Go.Proofs.Ytjpbdbgihakpmaa.Poly
