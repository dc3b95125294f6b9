/- Of the program and its document, joined: PolyRefSt, RdSt, RdLaw, RdMath2, RdLaw2. -/
import Derived.Test.YtiapokojlkdddaaGreatPk17
import Derived.Test.YtiapokojlkdddaaGreatPk10
/- The definition's calls, between the program's. -/
namespace Go.Proofs.YtiapokojlkdddaaGreat.Poly
open Go.RowKit F8 GF

section
variable {w0 : World} {g : Nat} {ls : List (Option Addr × List F8)}
theorem refTrimW (A : Option Addr) (p : List F8) (m c : Nat) (w : World) (h : W w0 g ls w) (ha : (A, p) ∈ ls) (hm : p.length = m) (hc : m ≤ c) (hl : m ≤ 1000) (r : List F8) (hr : trim p = r) :
    Calls Tryz.prog 180 #[.slice A m c] w fun e w' => More w0 g ls r e w' :=
  hr ▸ (refTrim_len A p m c w hm (h.bytes ha) hc (by omega)).mono fun _ _ hx => More.of_res h hx
theorem refRootsW (A : Option Addr) (p : List F8) (m c : Nat) (w : World) (h : W w0 g ls w) (ha : (A, p) ∈ ls) (hm : p.length = m) (hl : m ≤ 1000) (r : List F8) (hr : trim (roots p) = r) :
    Calls Tryz.prog 135 #[.slice A m c] w fun e w' => More w0 g ls r e w' :=
  hr ▸ (refRoots_calls A p m c w hm (h.bytes ha) (by omega)).mono fun _ _ hx => More.of_res h hx
theorem refAtW (A : Option Addr) (p : List F8) (m c : Nat) (w : World) (h : W w0 g ls w) (ha : (A, p) ∈ ls) (hm : p.length = m) (hl : m ≤ 1000) (x y : F8) (hy : eval p x = y) :
    Calls Tryz.prog 106 #[.slice A m c, .int .u8 x.n] w fun e w' => e = .returned (.int .u8 y.n) ∧ w = w' :=
  hy ▸ refAt_calls A p m c x w hm (h.bytes ha) (by omega)
theorem refAddW (A B : Option Addr) (p q : List F8) (m n c d : Nat) (w : World) (h : W w0 g ls w) (ha : (A, p) ∈ ls) (hb : (B, q) ∈ ls) (hm : p.length = m) (hn : q.length = n) (hl : m ≤ 1000) (hl2 : n ≤ 1000) (r : List F8) (hr : trim (padd p q) = r) :
    Calls Tryz.prog 137 #[.slice A m c, .slice B n d] w fun e w' => More w0 g ls r e w' :=
  hr ▸ (refAdd_len A B p q m n c d w hm hn (h.bytes ha) (h.bytes hb) (by omega) (by omega)).mono fun _ _ hx => More.of_res h hx
theorem refMulW (A B : Option Addr) (p q : List F8) (m n c d : Nat) (w : World) (h : W w0 g ls w) (ha : (A, p) ∈ ls) (hb : (B, q) ∈ ls) (hm : p.length = m) (hn : q.length = n) (hl : m ≤ 1000) (hl2 : n ≤ 1000) (r : List F8) (hr : trim (pmul p q) = r) :
    Calls Tryz.prog 138 #[.slice A m c, .slice B n d] w fun e w' => More w0 g ls r e w' :=
  hr ▸ (refPMul_len A B p q m n c d w hm hn (h.bytes ha) (h.bytes hb) (by omega) (by omega)).mono fun _ _ hx => More.of_res h hx
theorem refThroughW_bad (A B : Option Addr) (p q : List F8) (m n c d : Nat) (w : World) (h : W w0 g ls w) (ha : (A, p) ∈ ls) (hb : (B, q) ∈ ls) (hm : p.length = m) (hn : q.length = n) (hc : m ≤ c) (hl : m ≤ 1000) (hx : m ≠ n ∨ ¬ p.Nodup) :
    Calls Tryz.prog 84 #[.slice A m c, .slice B n d] w fun e w' => MoreE w0 g ls [] 2 e w' := by
  by_cases hmn : m = n
  · refine (refThrough_calls A B p q m n c d w hm hn hmn (h.bytes ha) (h.bytes hb) hc (by omega)).mono fun e w' hr => ?_
    rcases hr with ⟨hn', _⟩ | ⟨_, h1, h2⟩
    · rcases hx with hx | hx
      · exact absurd hmn hx
      · exact absurd hn' hx
    · exact ⟨none, 0, h1, Nat.le_refl _, (h.below h2).nil⟩
  · exact (refThrough_unlike A B m n c d w hmn).mono fun e w' ⟨h1, h2⟩ => ⟨none, 0, h1, Nat.le_refl _, h2 ▸ h.nil⟩
theorem refThroughW (A B : Option Addr) (p q : List F8) (m n c d : Nat) (w : World) (h : W w0 g ls w) (ha : (A, p) ∈ ls) (hb : (B, q) ∈ ls) (hm : p.length = m) (hn : q.length = n) (hc : m ≤ c) (hl : m ≤ 1000) (hmn : m = n) (hnd : p.Nodup) (r : List F8) (ht : Thru p q r) :
    Calls Tryz.prog 84 #[.slice A m c, .slice B n d] w fun e w' => MoreE w0 g ls r 0 e w' := by
  refine (refThrough_calls A B p q m n c d w hm hn hmn (h.bytes ha) (h.bytes hb) hc (by omega)).mono fun e w' hr => ?_
  rcases hr with ⟨_, r', A', c', ht', h1, h2, h3, h4⟩ | ⟨hnot, _⟩
  · obtain rfl := ht'.only hnd (by omega) ht
    exact ⟨A', c', h1, h2, (h.below h4).own h3 h.glt⟩
  · exact absurd hnd hnot
end
theorem Thru.len {xs ys r : List F8} (h : Thru xs ys r) : r.length ≤ xs.length := by
  have := len_le_of_bdd h.bdd
  unfold Poly.len at this
  rwa [h.tr] at this
end Go.Proofs.YtiapokojlkdddaaGreat.Poly

/- A law's field, code and lists, kept over its calls; the chapter's examples. -/
namespace Go.Proofs.YtiapokojlkdddaaGreat.Rd
open Go.RowKit Go.Shelf F8 Poly GF
attribute [local go_sem] Oper.semAt_some

/-- Behind w0: a field at g, a code at b over it, lists that lie elsewhere. -/
structure R (w0 : World) (g b : Nat) (A : Option Addr) (xs : List F8) (n c k : Nat) (ls : List (Option Addr × List F8)) (w : World) : Prop where
  kw : W w0 g ls w
  cd : Cd w b g A xs n c k
section
variable {w0 w w' : World} {g b : Nat} {A B C : Option Addr} {xs p q : List F8} {n c k : Nat} {ls ls' : List (Option Addr × List F8)}
theorem R.past (h : R w0 g b A xs n c k ls w) (h1 : FldP w' (some ⟨g, 0, none⟩)) (h2 : Past w.heap.size g w w') : R w0 g b A xs n c k ls w' := ⟨h.kw.past h1 h2, h.cd.past h1 h2⟩
theorem R.below (h : R w0 g b A xs n c k ls w) (hb : Below w.heap.size w w') : R w0 g b A xs n c k ls w' := ⟨h.kw.below hb, h.cd.below hb⟩
theorem R.drewN (h : R w0 g b A xs n c k ls w) (q : Nat) : R w0 g b A xs n c k ls (w.drewN q) := h.below (Below.drewN' (Below.refl _ _) q)
theorem R.alloc (h : R w0 g b A xs n c k ls w) (o : Obj) : R w0 g b A xs n c k ls (w.alloc o) := h.below ((Below.refl _ _).alloc (Nat.le_refl _) o)
theorem R.sub (h : R w0 g b A xs n c k ls w) (hs : ∀ x ∈ ls', x ∈ ls) : R w0 g b A xs n c k ls' w := ⟨h.kw.sub hs, h.cd⟩
theorem R.nil (h : R w0 g b A xs n c k ls w) : R w0 g b A xs n c k ((none, []) :: ls) w := ⟨h.kw.cons (Bytes.nil _ _) (fun _ a ha => by cases ha), h.cd⟩
theorem R.lit (h : R w0 g b A xs n c k ls w) (cs : Array Value) (p : List F8) (hp : cs.toList = bv (bs p)) : R w0 g b A xs n c k ((some ⟨w.heap.size, 0, none⟩, p) :: ls) (w.alloc (.cells cs 5)) := ⟨h.kw.lit cs p hp, h.cd.below ((Below.refl _ _).alloc (Nat.le_refl _) _)⟩
theorem R.own {B0 : Nat} {e : TypeId} {c' : Nat} (h : R w0 g b A xs n c k ls w) (ho : Own w B0 e (.slice B p.length c') (bv (bs p))) (hB : g < B0) : R w0 g b A xs n c k ((B, p) :: ls) w := ⟨h.kw.own ho hB, h.cd⟩
/-- A list of one's own, made by what turns nothing. -/
theorem R.made (h : R w0 g b A xs n c k ls w) {m c' : Nat} (hm : p.length = m) (ho : Own w' w.heap.size 5 (.slice B m c') (bv (bs p))) (hb : Below w.heap.size w w') : R w0 g b A xs n c k ((B, p) :: ls) w' :=
  (h.below hb).own (hm ▸ ho) h.kw.glt
theorem R.of (hw : W w0 g ls w) (hc : Cd w' b g A xs n c k) (hb : Below w.heap.size w w') : R w0 g b A xs n c k ls w' := ⟨hw.below hb, hc⟩
/-- Two places and two lists that are written out. -/
theorem R.lit2 (h : R w0 g b A xs n c k ls w) (ds : Array Value) (t : TypeId) (cs : Array Value) (p : List F8) (hp : cs.toList = bv (bs p)) :
    R w0 g b A xs n c k ((some ⟨w.heap.size + 1, 0, none⟩, p) :: ls) ((w.alloc (.cells ds t)).alloc (.cells cs 5)) := by
  have := (h.alloc (.cells ds t)).lit cs p hp
  rw [alloc_size] at this; exact this
end
/-- What New gives, kept. -/
def NewW (w0 : World) (g : Nat) (ls : List (Option Addr × List F8)) (xs : List F8) (n : Nat) (k : Int) (w : World) (e : Ending) (w' : World) : Prop :=
  (newR xs k = 0 ∧ ∃ (b : Nat) (A : Option Addr) (c q : Nat), (q : Int) = k ∧ e = .returned (.tuple #[.pointer (some ⟨b, 0, none⟩), .int .i64 0]) ∧ w.heap.size ≤ b ∧ (∀ a, A = some a → w.heap.size ≤ a.block) ∧ R w0 g b A xs n c q ls w') ∨
  (newR xs k = 2 ∧ e = .returned (.tuple #[.pointer none, .int .i64 2]) ∧ W w0 g ls w')
section
variable {w0 w : World} {g b : Nat} {A : Option Addr} {xs : List F8} {n c k : Nat} {ls : List (Option Addr × List F8)}
theorem newW (h : W w0 g ls w) (B : Option Addr) (p : List F8) (m d : Nat) (z : Int) (hB : (B, p) ∈ ls) (hm : p.length = m) (hd : m ≤ d) (hm2 : m ≤ 1000000) :
    Calls Tryz.prog 56 #[.pointer (some ⟨g, 0, none⟩), .slice B m d, .int .i64 z] w (NewW w0 g ls p m z w) :=
  (Rd.new_calls g B p m d z w hm (h.bytes hB) hd hm2 h.fld).mono fun e w' hx => by
    rcases hx with ⟨h0, b, A, c, q, hq, he, hb, hA, hC, hBl⟩ | ⟨h0, he, hBl⟩
    · exact .inl ⟨h0, b, A, c, q, hq, he, hb, hA, h.below hBl, hC⟩
    · exact .inr ⟨h0, he, h.below hBl⟩
/-- A list more, an error's number, and all else as it was. -/
def MoreR (w0 : World) (g b : Nat) (A : Option Addr) (xs : List F8) (n c k : Nat) (ls : List (Option Addr × List F8)) (r : List F8) (z : Int) (e : Ending) (w' : World) : Prop :=
  ∃ B d, e = .returned (.tuple #[.slice B r.length d, .int .i64 z]) ∧ r.length ≤ d ∧ R w0 g b A xs n c k ((B, r) :: ls) w'
theorem MoreR.of {e : Ending} {w' : World} {r : List F8} {z : Int} (h : R w0 g b A xs n c k ls w) (hr : PolyResE (some ⟨g, 0, none⟩) w w' e r z) : MoreR w0 g b A xs n c k ls r z e w' := by
  obtain ⟨B, d, h1, h2, h3, h4, h5⟩ := hr
  exact ⟨B, d, h1, h2, (h.past h4 h5).own h3 h.kw.glt⟩
variable (S : Poly.Spec) (h : R w0 g b A xs n c k ls w)
include S h
theorem encodeW (B : Option Addr) (q : List F8) (m d : Nat) (hB : (B, q) ∈ ls) (hm : q.length = m) (hd : m ≤ d) (hl : m ≤ 1000) (r : List F8) (z : Int) (hr : encR xs k q = (r, z)) :
    Calls Tryz.prog 49 #[.pointer (some ⟨b, 0, none⟩), .slice B m d] w fun e w' => MoreR w0 g b A xs n c k ls r z e w' :=
  (encode_calls S h.cd B q m d hm (h.kw.bytes hB) hd hl (h.kw.far hB)).mono fun e w' hx => by rw [hr] at hx; exact MoreR.of (r := r) (z := z) h hx
theorem decodeW (P : Option Addr) (pl : List Int) (m d : Nat) (hl : pl.length = m) (hr : Row w P (zs pl)) (hm : m ≤ 1000) (B : Option Addr) (q : List F8) (o e : Nat) (hB : (B, q) ∈ ls) (ho : q.length = o) (he : o ≤ e) (ho2 : o ≤ 1000) :
    Calls Tryz.prog 54 #[.pointer (some ⟨b, 0, none⟩), .slice P m d, .slice B o e] w fun e w' => ∃ r z, DecIs xs k pl q r z ∧ MoreR w0 g b A xs n c k ls r z e w' :=
  (decode_calls S h.cd P pl m d hl hr hm B q o e ho (h.kw.bytes hB) he ho2 (h.kw.far hB)).mono fun _ _ ⟨r, z, hx, hy⟩ => ⟨r, z, hx, MoreR.of (r := r) (z := z) h hy⟩
/-- .. where the answer is known. -/
theorem decodeW' (P : Option Addr) (pl : List Int) (m d : Nat) (hl : pl.length = m) (hr : Row w P (zs pl)) (hm : m ≤ 1000) (B : Option Addr) (q : List F8) (o e : Nat) (hB : (B, q) ∈ ls) (ho : q.length = o) (he : o ≤ e) (ho2 : o ≤ 1000) (r : List F8) (z : Int) (hd : DecIs xs k pl q r z) :
    Calls Tryz.prog 54 #[.pointer (some ⟨b, 0, none⟩), .slice P m d, .slice B o e] w fun e w' => MoreR w0 g b A xs n c k ls r z e w' :=
  (decodeW S h P pl m d hl hr hm B q o e hB ho he ho2).mono fun e w' ⟨r', z', hx, hy⟩ => by
    obtain ⟨rfl, rfl⟩ := hx.only h.cd.nd hd
    exact hy
end
/-- A byte that is written out. -/
def f (n : Nat) (h : n < 256 := by decide) : F8 := ⟨n, h⟩
theorem ex1 : DecIs [1, f 2, f 4] 2 [2, 0] [f 3, f 6] [f 7, 1] 0 := .inr (.inr (.inl ⟨⟨rfl, by decide, by decide⟩, by decide, rfl, rfl, by decide +kernel⟩))
theorem ex2 : DecIs [1, f 2, f 4] 2 [0] [f 6] [] 70 := .inr (.inl ⟨⟨rfl, by decide, by decide⟩, by decide, rfl, rfl⟩)
theorem ex3 : DecIs [1, f 2, f 4] 2 [0, 1, 2] [f 6, f 5, f 2] [] 71 :=
  .inr (.inr (.inr ⟨⟨rfl, by decide, by decide⟩, by decide, rfl, rfl, split_no (l := [f 7, 1]) (k := 2) rfl (by decide) (by decide +kernel) (by decide +kernel) (by decide +kernel)⟩))
theorem ex4 : encR [1, f 2, f 4] 2 [f 7, 1] = ([f 6, f 5, f 3], 0) := by decide +kernel
theorem zl (l : List Int) (w : World) (cs : Array Value) (h : cs.toList = zs l) (t : TypeId) (o : Obj) : Row ((w.alloc (.cells cs t)).alloc o) (some ⟨w.heap.size, 0, none⟩) (zs l) := by
  have := (Row.new w cs t (0, 0)).alloc o
  rwa [h] at this

end Go.Proofs.YtiapokojlkdddaaGreat.Rd

/- Frames for a code where another block turns; conversions; the definition's calls over a law's state. -/
namespace Go.Proofs.YtiapokojlkdddaaGreat.Rd
open Go.RowKit Go.Shelf F8 Poly GF
attribute [local go_sem] Oper.semAt_some

theorem _root_.Go.Proofs.YtiapokojlkdddaaGreat.Past.below' {B B' g : Nat} {w w' : World} (h : Past B' g w w') (h1 : B ≤ g) (h2 : B ≤ B') : Below B w w' := (h.mono h2).below h1
section
variable {w0 w w' : World} {a b g B : Nat} {A : Option Addr} {xs : List F8} {n c k : Nat} {ls : List (Option Addr × List F8)}
theorem Cd.turn (h : Cd w b g A xs n c k) (hp : Past B a w w') (hB : w.heap.size ≤ B) (hb : b ≠ a) (hg : g ≠ a) (hA : ∀ x, A = some x → x.block ≠ a) : Cd w' b g A xs n c k :=
  { h with
    blk := h.blk.past hp (by have := h.blk.lt; omega) hb
    by_ := bytes_far h.by_ (fun _ => hA) (hp.mono hB)
    fld := FldP.of (h.fld.fld.imp (fun x => x.past hp (by have := x.lt; omega) hg) (fun x => x.past hp (by have := x.lt; omega) hg)) }
theorem Cd.alt (h : Cd w b g A xs n c k) : ∀ x, A = some x → x.block < w.heap.size := fun a ha => by
  have h0 : 0 < xs.length := by have := h.k1; have := h.kn; have := h.len; omega
  obtain ⟨b', off, e, hc⟩ := cellF h.by_ 0 h0
  rw [ha] at e; cases e
  exact cell_lt hc
/-- A row of one's own, over a call that turns another block. -/
theorem own_past {e : TypeId} {v : Value} {xs : List Value} (h : Own w B e v xs) (hg : g < B) (hp : Past w.heap.size g w w') : Own w' B e v xs :=
  h.grown (row := some g) ⟨hp.os, hp.tape, hp.output, hp.size, fun k hk hn => hp.block k hk (fun e => hn (by rw [e]))⟩ (.inr (fun e => by have := (h.lt g e).1; omega))
theorem conv_b (p : List F8) (n : Nat) (hn : p.length = n) (w : World) : (convert 9 22 (.string (str (bs p)))).run Tryz.prog w = .ok (.slice (some ⟨w.heap.size, 0, none⟩) n (grownCap w n 0 5)) (Lib.bytesWorld w 5 (str (bs p))) := by
  have h := conv_bytes (P := Tryz.prog) w (bs p) 9 22 5 Tryz.underlying9 Tryz.underlying22 Tryz.underlying5
  rw [bs_length, hn] at h; exact h
theorem bw_below (w : World) (p : List F8) : Below w.heap.size w (Lib.bytesWorld w 5 (str (bs p))) := bytesWorld_below w _ _
theorem bw_bytes (w : World) (p : List F8) : Bytes (Lib.bytesWorld w 5 (str (bs p))) (some ⟨w.heap.size, 0, none⟩) (bs p) := bytesWorld_bytes w _ (bs p) (bs_lt p)
theorem le_grown (w : World) (n : Nat) : n ≤ grownCap w n 0 5 := grownCap_ge w n 0 _
/-- A copy by '[]byte(string(p))'. -/
theorem R.conv (h : R w0 g b A xs n c k ls w) (p : List F8) : R w0 g b A xs n c k ((some ⟨w.heap.size, 0, none⟩, p) :: ls) (Lib.bytesWorld w 5 (str (bs p))) :=
  ⟨(h.kw.below (bw_below w p)).cons (bw_bytes w p) (fun _ a ha => by cases ha; have := h.kw.glt; simp; omega), h.cd.below (bw_below w p)⟩
/-- The row that a conversion has made, written by index. -/
def Conv (w : World) (a : Nat) (n : Nat) : Prop := ∃ cs : Array Value, w.heap[a]? = some (.cells cs 5 (cs.size, cs.size + 1)) ∧ n ≤ cs.size ∧ ∀ i, i < n → ∃ x : Int, cs[i]? = some (.int .u8 x)
theorem Conv.new (w : World) (p : List F8) (hn : p.length = n) : Conv (Lib.bytesWorld w 5 (str (bs p))) w.heap.size n := by
  refine ⟨_, Lib.bytesWorld_at_new w _ _, ?_, fun i hi => ?_⟩
  · simp [Lib.bytesCells, ByteArray.size, str, bs, hn]
  · have hs : i < (str (bs p)).data.size := by simp [str, bs, hn, hi]
    refine ⟨((str (bs p)).data[i]).toNat, ?_⟩
    simp only [Lib.bytesCells]
    rw [Array.getElem?_append_left (by simpa using hs)]
    simp only [Array.getElem?_map, Option.map_eq_some_iff]
    exact ⟨_, Array.getElem?_eq_getElem hs, rfl⟩
theorem Conv.cell (h : Conv w a n) {i : Nat} (hi : i < n) : (∃ x : Int, w.cell? ⟨a, i, none⟩ = some (.int .u8 x)) ∧ w.frozen? ⟨a, i, none⟩ = false := by
  obtain ⟨cs, h1, h2, h3⟩ := h
  obtain ⟨x, hx⟩ := h3 i hi
  refine ⟨⟨x, by simp [World.cell?, h1, hx]⟩, ?_⟩
  simp [World.frozen?, h1]
  omega
theorem Conv.set_ (h : Conv w a n) (i : Nat) (x : Int) : Conv (w.setCell ⟨a, i, none⟩ (.int .u8 x)) a n := by
  obtain ⟨cs, h1, h2, h3⟩ := h
  refine ⟨cs.setIfInBounds i (.int .u8 x), ?_, by simpa using h2, fun j hj => ?_⟩
  · simp [World.setCell, Array.getElem?_modify, h1]
  · rw [Array.getElem?_setIfInBounds]
    by_cases e : i = j
    · rw [if_pos e, if_pos (by omega)]; exact ⟨x, rfl⟩
    · rw [if_neg e]; exact h3 j hj
theorem Conv.below (h : Conv w a n) (hb : Below w.heap.size w w') : Conv w' a n := by
  obtain ⟨cs, h1, h2, h3⟩ := h
  refine ⟨cs, ?_, h2, h3⟩
  rw [hb.block a (by
    rcases Nat.lt_or_ge a w.heap.size with h | h
    · exact h
    · rw [Array.getElem?_eq_none h] at h1; cases h1)]
  exact h1
theorem Conv.past (h : Conv w a n) (hp : Past w.heap.size g w w') (hg : a ≠ g) : Conv w' a n := by
  obtain ⟨cs, h1, h2, h3⟩ := h
  refine ⟨cs, ?_, h2, h3⟩
  rw [hp.block a (by
    rcases Nat.lt_or_ge a w.heap.size with h | h
    · exact h
    · rw [Array.getElem?_eq_none h] at h1; cases h1) hg]
  exact h1
theorem refEncodeW (h : R w0 g b A xs n c k ls w) (P : Option Addr) (p : List F8) (m d : Nat) (B : Option Addr) (q : List F8) (o e : Nat) (hP : (P, p) ∈ ls) (hB : (B, q) ∈ ls) (hm : p.length = m) (hm2 : m ≤ 1000000) (ho : q.length = o) (ho2 : o ≤ 1000000) (r : List F8) (z : Int) (hr : encR p k q = (r, z)) :
    Calls Tryz.prog 58 #[.slice P m d, .int .i64 k, .slice B o e] w fun e w' => MoreR w0 g b A xs n c k ls r z e w' :=
  (refEncode_calls P p m d k B q o e w hm (h.kw.bytes hP) hm2 ho (h.kw.bytes hB) ho2).mono fun e w' hx => by
    rw [hr] at hx
    obtain ⟨A, c, h1, h2, h3, h4⟩ := hx
    exact ⟨A, c, h1, h2, (h.below h4).own h3 h.kw.glt⟩
theorem refDecodeW (h : R w0 g b A xs n c k ls w) (P : Option Addr) (p : List F8) (m d : Nat) (C : Option Addr) (pl : List Int) (u v : Nat) (B : Option Addr) (q : List F8) (o e : Nat) (hP : (P, p) ∈ ls) (hB : (B, q) ∈ ls) (hm : p.length = m) (hm2 : m ≤ 1000000) (hnd : p.Nodup) (hk : k ≤ 1000000)
    (hl : pl.length = u) (hr : Row w C (zs pl)) (hu : u ≤ 1000000) (ho : q.length = o) (r : List F8) (z : Int) (hd : DecIs p k pl q r z) :
    Calls Tryz.prog 105 #[.slice P m d, .int .i64 k, .slice C u v, .slice B o e] w fun e w' => MoreR w0 g b A xs n c k ls r z e w' :=
  (refDecode_calls P p m d k C pl u v B q o e w hm (h.kw.bytes hP) hm2 hnd hk hl hr hu ho (h.kw.bytes hB)).mono fun e w' hx => by
    obtain ⟨l, y, hx, A, c, h1, h2, h3, h4⟩ := hx
    obtain ⟨rfl, rfl⟩ := hx.only hnd hd
    exact ⟨A, c, h1, h2, (h.below h4).own h3 h.kw.glt⟩
/-- What Reed gives, as a law's state. -/
theorem KReed.start {e : Ending} {n k : Nat} (h : KReed w n k e w') :
    (k ≤ n ∧ ∃ b A c, e = .returned (.pointer (some ⟨b, 0, none⟩)) ∧ w.heap.size < b ∧ (∀ a, A = some a → w.heap.size ≤ a.block) ∧ R w w.heap.size b A (pts n) n c k [] w') ∨ (n < k ∧ e = .returned (.pointer none) ∧ Below w.heap.size w w') := by
  rcases h with ⟨h1, b, A, c, rfl, hb, hA, hC, hB⟩ | h
  · refine .inl ⟨h1, b, A, c, rfl, by have := hC.ne; omega, hA, ⟨⟨?_, hB, hB.size⟩, by simp⟩, hC⟩
    intro g hg
    obtain rfl := List.mem_singleton.1 hg
    exact ⟨hC.fld.fld, Nat.le_refl _⟩
  · exact .inr h
end
end Go.Proofs.YtiapokojlkdddaaGreat.Rd

/- What the laws of evaluation codes rest on: words at places, a symbol that is another one. -/
namespace Go.Proofs.YtiapokojlkdddaaGreat.Rd
open F8 Poly

theorem okP_reverse {n : Nat} {l : List Int} (h : OkP n l) : OkP n l.reverse := ⟨fun i hi => h.1 i (List.mem_reverse.1 hi), by
  have := h.2
  rw [List.nodup_iff_pairwise_ne] at this ⊢
  rw [List.pairwise_reverse]
  exact this.imp fun h => h.symm⟩
theorem ptsAt_word {xs : List F8} (m : List F8) {pl : List Int} (h : OkP xs.length pl) : ptsAt (word m xs) pl = word m (ptsAt xs pl) := by
  have e : word m (ptsAt xs pl) = pl.map fun i => eval m (coef xs i.toNat) := by unfold word ptsAt; rw [List.map_map]; rfl
  rw [e]
  unfold ptsAt
  refine List.map_congr_left fun i hi => ?_
  have := h.1 i hi
  show coef (word m xs) i.toNat = eval m (coef xs i.toNat)
  exact word_get (by omega)
theorem dec_all {xs : List F8} {k : Nat} {pl : List Int} (m : List F8) (h : OkP xs.length pl) (hk : k ≤ pl.length) (hm : m.length = k) : DecIs xs k pl (ptsAt (word m xs) pl) m 0 :=
  .inr (.inr (.inl ⟨⟨by rw [ptsAt_length], h⟩, hk, rfl, hm, (ptsAt_word m h).symm⟩))
theorem dec_few {xs : List F8} {k : Nat} {pl : List Int} (ys : List F8) (hl : pl.length = ys.length) (h : OkP xs.length pl) (hk : pl.length < k) : DecIs xs k pl ys [] 70 :=
  .inr (.inl ⟨⟨hl, h⟩, hk, rfl, rfl⟩)
/-- One of the symbols is another one. -/
def turn (ys : List F8) (i : Nat) (x : F8) : List F8 := ys.set i (coef ys i + x)
theorem turn_length (ys : List F8) (i : Nat) (x : F8) : (turn ys i x).length = ys.length := by simp [turn]
theorem turn_zero {ys : List F8} {i : Nat} (h : i < ys.length) : turn ys i 0 = ys := by
  unfold turn
  rw [F8.add_zero, coef_of_lt h, List.set_getElem_self]
theorem turn_ne {ys : List F8} {i : Nat} {x : F8} (h : i < ys.length) (hx : x ≠ 0) : turn ys i x ≠ ys := by
  intro e
  have h1 : coef (turn ys i x) i = coef ys i := by rw [e]
  rw [turn, coef_of_lt (by simpa using h)] at h1
  simp only [List.getElem_set_self] at h1
  exact hx (by have := F8.add_self_add (coef ys i) x; rw [h1, F8.add_self] at this; exact this.symm)
theorem turn_erase (ys : List F8) (i : Nat) (x : F8) : (turn ys i x).eraseIdx i = ys.eraseIdx i := by
  unfold turn
  exact List.eraseIdx_set_eq
theorem word_erase (m xs : List F8) (i : Nat) : word m (xs.eraseIdx i) = (word m xs).eraseIdx i := by
  unfold word
  induction xs generalizing i with
  | nil => simp
  | cons x xs ih => cases i with
    | zero => simp
    | succ i => simp [ih]
/-- What is told when one of a word's symbols is another one. -/
theorem turned {xs : List F8} {k : Nat} {pl : List Int} {m ys r : List F8} {z : Int} {i : Nat} {x : F8} (hn : xs.Nodup) (hok : OkP xs.length pl) (hk : k ≤ pl.length) (hm : m.length = k) (hw : word m (ptsAt xs pl) = ys) (hi : i < ys.length) (D : DecIs xs k pl (turn ys i x) r z) :
    (x = 0 ∨ pl.length = k → z = 0 ∧ decide (r = m) = decide (x = 0)) ∧ (x ≠ 0 → pl.length ≠ k → z = 71) := by
  have hpn := ptsAt_nodup hn hok
  have hpl := ptsAt_length xs pl
  have hl : pl.length = ys.length := by rw [← hw, word_length, hpl]
  by_cases hx : x = 0
  · refine ⟨fun _ => ?_, fun h => absurd hx h⟩
    rw [hx, turn_zero hi] at D
    obtain ⟨rfl, rfl⟩ := D.only hn (.inr (.inr (.inl ⟨⟨hl, hok⟩, hk, rfl, hm, hw⟩)))
    exact ⟨rfl, by simp [hx]⟩
  · have hne := turn_ne hi hx
    refine ⟨fun h => ?_, fun _ hlk => ?_⟩
    · have hlk : pl.length = k := by rcases h with h | h; exact absurd h hx; exact h
      obtain ⟨m', hm', hw'⟩ := msg_of (ptsAt xs pl) (turn ys i x) hpn (by rw [hpl, turn_length, hl])
      obtain ⟨rfl, rfl⟩ := D.only hn (.inr (.inr (.inl ⟨⟨by rw [turn_length, hl], hok⟩, hk, rfl, by rw [hm', hpl, hlk], hw'⟩)))
      refine ⟨rfl, ?_⟩
      rw [decide_eq_false hx]
      refine decide_eq_false fun e => ?_
      subst e
      exact hne (hw'.symm.trans hw)
    · rcases D with ⟨h, _⟩ | ⟨_, h, _⟩ | ⟨_, _, _, hr, hw'⟩ | ⟨_, _, h, _⟩
      · exact absurd ⟨by rw [turn_length, hl], hok⟩ h
      · omega
      · refine absurd ?_ hne
        have h1 : word r ((ptsAt xs pl).eraseIdx i) = word m ((ptsAt xs pl).eraseIdx i) := by
          rw [word_erase, word_erase, hw', hw, turn_erase]
        have h2 := msg_only hr hm (by rw [List.length_eraseIdx]; split <;> omega) (hpn.sublist (List.eraseIdx_sublist _ _)) h1
        subst h2
        exact hw'.symm.trans hw
      · exact h
/-- A code of some of the points. -/
theorem newR_part {xs : List F8} {k : Nat} {pl : List Int} (hn : xs.Nodup) (hok : OkP xs.length pl) (h1 : 1 ≤ k) : newR (ptsAt xs pl) (k : Int) = if k ≤ pl.length then 0 else 2 := by
  unfold newR
  have hpn := ptsAt_nodup hn hok
  have hpl := ptsAt_length xs pl
  by_cases h : k ≤ pl.length
  · rw [if_pos h, if_pos ⟨hpn, by omega, by omega⟩]
  · rw [if_neg h, if_neg]
    rintro ⟨_, _, h3⟩
    omega
theorem mem_ptsAt {xs : List F8} {pl : List Int} (hn : xs.Nodup) (hok : OkP xs.length pl) {i : Nat} (hi : i < xs.length) : coef xs i ∈ ptsAt xs pl ↔ (i : Int) ∈ pl := by
  unfold ptsAt
  rw [List.mem_map]
  constructor
  · rintro ⟨a, ha, e⟩
    have hb := hok.1 a ha
    rw [coef_of_lt (by omega), coef_of_lt hi] at e
    have := (List.getElem_inj hn).1 e
    have : a = (i : Int) := by omega
    rw [← this]; exact ha
  · intro h
    exact ⟨_, h, by rw [Int.toNat_natCast]⟩
end Go.Proofs.YtiapokojlkdddaaGreat.Rd

/- Decode over a law's state, with what it keeps; rows of places. -/
namespace Go.Proofs.YtiapokojlkdddaaGreat.Rd
open Go.RowKit Go.Shelf F8 Poly GF
attribute [local go_sem] Oper.semAt_some

theorem own_row {w : World} {B n c : Nat} {e : TypeId} {A : Option Addr} {xs : List Value} (h : Own w B e (.slice A n c) xs) : Row w A xs := by
  obtain ⟨A', c', e1, hr, _⟩ := h.form
  injection e1 with e2 _ _
  subst e2
  exact hr
theorem own_apart {w : World} {B B' : Nat} {e e' : TypeId} {v v' : Value} {xs ys : List Value} (h : Own w B e v xs) (h' : Own w B' e' v' ys) (hne : e ≠ e') : v.ownBlock = none ∨ v.ownBlock ≠ v'.ownBlock := by
  rcases h.2 with ⟨rfl, _⟩ | ⟨b, cap, cur, rfl, _, hh, _⟩
  · exact .inl rfl
  · right
    rcases h'.2 with ⟨rfl, _⟩ | ⟨b', cap', cur', rfl, _, hh', _⟩
    · simp [Value.ownBlock]
    · intro e1
      obtain rfl : b = b' := by simpa [Value.ownBlock] using e1
      rw [hh] at hh'
      simp only [Option.some.injEq, Obj.cells.injEq] at hh'
      exact hne hh'.2.1
/-- An append to another row of one's own. -/
theorem own_other {w w' : World} {B B' : Nat} {e e' : TypeId} {v v' : Value} {xs ys : List Value} (h : Own w B e v xs) (h' : Own w B' e' v' ys) (hne : e ≠ e') (hg : w.grownBy w' v'.ownBlock) : Own w' B e v xs :=
  h.grown hg (own_apart h h' hne)
section
variable {w0 w w' : World} {a b g B : Nat} {A : Option Addr} {xs : List F8} {n c k : Nat} {ls : List (Option Addr × List F8)}
/-- A list more, one's own, an error's number, and what has been kept. -/
def MoreP (w0 : World) (g b : Nat) (A : Option Addr) (xs : List F8) (n c k : Nat) (ls : List (Option Addr × List F8)) (r : List F8) (z : Int) (w : World) (e : Ending) (w' : World) : Prop :=
  ∃ B d, e = .returned (.tuple #[.slice B r.length d, .int .i64 z]) ∧ r.length ≤ d ∧ Own w' w.heap.size 5 (.slice B r.length d) (bv (bs r)) ∧ R w0 g b A xs n c k ls w' ∧ Past w.heap.size g w w'
theorem decodeP (S : Poly.Spec) (h : R w0 g b A xs n c k ls w) (P : Option Addr) (pl : List Int) (m d : Nat) (hl : pl.length = m) (hr : Row w P (zs pl)) (hm : m ≤ 1000) (B : Option Addr) (q : List F8) (o e : Nat) (hB : Bytes w B (bs q)) (hfar : Far (some ⟨g, 0, none⟩) B q) (ho : q.length = o) (he : o ≤ e) (ho2 : o ≤ 1000) :
    Calls Tryz.prog 54 #[.pointer (some ⟨b, 0, none⟩), .slice P m d, .slice B o e] w fun e w' => ∃ r z, DecIs xs k pl q r z ∧ MoreP w0 g b A xs n c k ls r z w e w' :=
  (decode_calls S h.cd P pl m d hl hr hm B q o e ho hB he ho2 hfar).mono fun e w' ⟨r, z, hx, hy⟩ => by
    obtain ⟨B, d, h1, h2, h3, h4, h5⟩ := hy
    exact ⟨r, z, hx, B, d, h1, h2, h3, h.past h4 h5, h5⟩
/-- .. where the answer is known. -/
theorem decodeP' (S : Poly.Spec) (h : R w0 g b A xs n c k ls w) (P : Option Addr) (pl : List Int) (m d : Nat) (hl : pl.length = m) (hr : Row w P (zs pl)) (hm : m ≤ 1000) (B : Option Addr) (q : List F8) (o e : Nat) (hB : Bytes w B (bs q)) (hfar : Far (some ⟨g, 0, none⟩) B q) (ho : q.length = o) (he : o ≤ e) (ho2 : o ≤ 1000) (r : List F8) (z : Int) (hd : DecIs xs k pl q r z) :
    Calls Tryz.prog 54 #[.pointer (some ⟨b, 0, none⟩), .slice P m d, .slice B o e] w fun e w' => MoreP w0 g b A xs n c k ls r z w e w' :=
  (decodeP S h P pl m d hl hr hm B q o e hB hfar ho he ho2).mono fun e w' ⟨r', z', hx, hy⟩ => by
    obtain ⟨rfl, rfl⟩ := hx.only h.cd.nd hd
    exact hy
theorem R.arg (h : R w0 g b A xs n c k ls w) {P : Option Addr} {p : List F8} (hb : Bytes w0 P (bs p)) : R w0 g b A xs n c k ((P, p) :: ls) w := ⟨h.kw.arg hb, h.cd⟩
end
theorem cellI {w : World} {b off : Nat} {l : List Int} (h : Row w (some ⟨b, off, none⟩) (zs l)) {k : Nat} (hk : k < l.length) : w.cell? ⟨b, off + k, none⟩ = some (.int .i64 l[k]) := by
  obtain ⟨b', off', e, hc⟩ := zs_at h hk
  cases e
  exact hc
theorem grown_set (w : World) (p : Addr) (u : Value) : w.grownBy (w.setCell p u) (some p.block) := ⟨rfl, rfl, rfl, by simp [World.setCell], fun k _ hk => Below.heap_setCell _ _ _ _ (fun e => hk (by rw [e]))⟩
theorem bvs_put (ys : List F8) (i : Nat) (v : F8) : (bv (bs ys)).set i (.int .u8 (v.n : Nat)) = bv (bs (ys.set i v)) := by simp [bv, bs, List.map_set]
theorem drop_snoc {α : Type} {l : List α} {t : Nat} (h : t < l.length) : (l.drop t).reverse = (l.drop (t + 1)).reverse ++ [l[t]] := by
  rw [List.drop_eq_getElem_cons h, List.reverse_cons]
theorem ptsAt_app (xs : List F8) (a : List Int) (z : Int) : ptsAt xs (a ++ [z]) = ptsAt xs a ++ [coef xs z.toNat] := by simp [ptsAt]
theorem f8_xor (x y : F8) : bits .xor .u8 (x.n : Int) (y.n : Int) = (((x + y).n : Nat) : Int) := u8_xor' x.n y.n x.h y.h
end Go.Proofs.YtiapokojlkdddaaGreat.Rd
