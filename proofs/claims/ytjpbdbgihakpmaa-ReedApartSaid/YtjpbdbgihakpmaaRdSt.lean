/- A law's field, code and lists, kept over its calls; the chapter's examples. -/
import Derived.Test.YtjpbdbgihakpmaaRdKit
import Derived.Test.YtjpbdbgihakpmaaPolyRefSt
namespace Go.Proofs.Ytjpbdbgihakpmaa.Rd
open Go.RowKit Go.Shelf F8 Poly GF
attribute [local go_sem] Oper.semAt_some

/-- Behind w0: a field at g, a code at b over it, lists that lie elsewhere. -/
structure R (w0 : World) (g b : Nat) (A : Option Addr) (xs : List F8) (n c k : Nat) (ls : List (Option Addr × List F8)) (w : World) : Prop where
  kw : W w0 g ls w
  cd : Cd w b g A xs n c k
section
variable {w0 w w' : World} {g b : Nat} {A B C : Option Addr} {xs p q : List F8} {n c k : Nat} {ls ls' : List (Option Addr × List F8)}
theorem R.past (h : R w0 g b A xs n c k ls w) (h1 : FldP w' (some ⟨g, 0, none⟩)) (h2 : Past w.heap.size g w w') : R w0 g b A xs n c k ls w' := ⟨h.kw.past h1 h2, h.cd.past h1 h2⟩
theorem R.below (h : R w0 g b A xs n c k ls w) (hb : Below w.heap.size w w') : R w0 g b A xs n c k ls w' := ⟨h.kw.below hb, h.cd.below hb⟩
theorem R.drewN (h : R w0 g b A xs n c k ls w) (q : Nat) : R w0 g b A xs n c k ls (w.drewN q) := h.below (Below.drewN' (Below.refl _ _) q)
theorem R.alloc (h : R w0 g b A xs n c k ls w) (o : Obj) : R w0 g b A xs n c k ls (w.alloc o) := h.below ((Below.refl _ _).alloc (Nat.le_refl _) o)
theorem R.sub (h : R w0 g b A xs n c k ls w) (hs : ∀ x ∈ ls', x ∈ ls) : R w0 g b A xs n c k ls' w := ⟨h.kw.sub hs, h.cd⟩
theorem R.nil (h : R w0 g b A xs n c k ls w) : R w0 g b A xs n c k ((none, []) :: ls) w := ⟨h.kw.cons (Bytes.nil _ _) (fun _ a ha => by cases ha), h.cd⟩
theorem R.lit (h : R w0 g b A xs n c k ls w) (cs : Array Value) (p : List F8) (hp : cs.toList = bv (bs p)) : R w0 g b A xs n c k ((some ⟨w.heap.size, 0, none⟩, p) :: ls) (w.alloc (.cells cs 5)) := ⟨h.kw.lit cs p hp, h.cd.below ((Below.refl _ _).alloc (Nat.le_refl _) _)⟩
theorem R.own {B0 : Nat} {e : TypeId} {c' : Nat} (h : R w0 g b A xs n c k ls w) (ho : Own w B0 e (.slice B p.length c') (bv (bs p))) (hB : g < B0) : R w0 g b A xs n c k ((B, p) :: ls) w := ⟨h.kw.own ho hB, h.cd⟩
/-- A list of one's own, made by what turns nothing. -/
theorem R.made (h : R w0 g b A xs n c k ls w) {m c' : Nat} (hm : p.length = m) (ho : Own w' w.heap.size 5 (.slice B m c') (bv (bs p))) (hb : Below w.heap.size w w') : R w0 g b A xs n c k ((B, p) :: ls) w' :=
  (h.below hb).own (hm ▸ ho) h.kw.glt
theorem R.of (hw : W w0 g ls w) (hc : Cd w' b g A xs n c k) (hb : Below w.heap.size w w') : R w0 g b A xs n c k ls w' := ⟨hw.below hb, hc⟩
/-- Two places and two lists that are written out. -/
theorem R.lit2 (h : R w0 g b A xs n c k ls w) (ds : Array Value) (t : TypeId) (cs : Array Value) (p : List F8) (hp : cs.toList = bv (bs p)) :
    R w0 g b A xs n c k ((some ⟨w.heap.size + 1, 0, none⟩, p) :: ls) ((w.alloc (.cells ds t)).alloc (.cells cs 5)) := by
  have := (h.alloc (.cells ds t)).lit cs p hp
  rw [alloc_size] at this; exact this
end
/-- What New gives, kept. -/
def NewW (w0 : World) (g : Nat) (ls : List (Option Addr × List F8)) (xs : List F8) (n : Nat) (k : Int) (w : World) (e : Ending) (w' : World) : Prop :=
  (newR xs k = 0 ∧ ∃ (b : Nat) (A : Option Addr) (c q : Nat), (q : Int) = k ∧ e = .returned (.tuple #[.pointer (some ⟨b, 0, none⟩), .int .i64 0]) ∧ w.heap.size ≤ b ∧ (∀ a, A = some a → w.heap.size ≤ a.block) ∧ R w0 g b A xs n c q ls w') ∨
  (newR xs k = 2 ∧ e = .returned (.tuple #[.pointer none, .int .i64 2]) ∧ W w0 g ls w')
section
variable {w0 w : World} {g b : Nat} {A : Option Addr} {xs : List F8} {n c k : Nat} {ls : List (Option Addr × List F8)}
theorem newW (h : W w0 g ls w) (B : Option Addr) (p : List F8) (m d : Nat) (z : Int) (hB : (B, p) ∈ ls) (hm : p.length = m) (hd : m ≤ d) (hm2 : m ≤ 1000000) :
    Calls Try.prog 25 #[.pointer (some ⟨g, 0, none⟩), .slice B m d, .int .i64 z] w (NewW w0 g ls p m z w) :=
  (Rd.new_calls g B p m d z w hm (h.bytes hB) hd hm2 h.fld).mono fun e w' hx => by
    rcases hx with ⟨h0, b, A, c, q, hq, he, hb, hA, hC, hBl⟩ | ⟨h0, he, hBl⟩
    · exact .inl ⟨h0, b, A, c, q, hq, he, hb, hA, h.below hBl, hC⟩
    · exact .inr ⟨h0, he, h.below hBl⟩
/-- A list more, an error's number, and all else as it was. -/
def MoreR (w0 : World) (g b : Nat) (A : Option Addr) (xs : List F8) (n c k : Nat) (ls : List (Option Addr × List F8)) (r : List F8) (z : Int) (e : Ending) (w' : World) : Prop :=
  ∃ B d, e = .returned (.tuple #[.slice B r.length d, .int .i64 z]) ∧ r.length ≤ d ∧ R w0 g b A xs n c k ((B, r) :: ls) w'
theorem MoreR.of {e : Ending} {w' : World} {r : List F8} {z : Int} (h : R w0 g b A xs n c k ls w) (hr : PolyResE (some ⟨g, 0, none⟩) w w' e r z) : MoreR w0 g b A xs n c k ls r z e w' := by
  obtain ⟨B, d, h1, h2, h3, h4, h5⟩ := hr
  exact ⟨B, d, h1, h2, (h.past h4 h5).own h3 h.kw.glt⟩
variable (S : Poly.Spec) (h : R w0 g b A xs n c k ls w)
include S h
theorem encodeW (B : Option Addr) (q : List F8) (m d : Nat) (hB : (B, q) ∈ ls) (hm : q.length = m) (hd : m ≤ d) (hl : m ≤ 1000) (r : List F8) (z : Int) (hr : encR xs k q = (r, z)) :
    Calls Try.prog 33 #[.pointer (some ⟨b, 0, none⟩), .slice B m d] w fun e w' => MoreR w0 g b A xs n c k ls r z e w' :=
  (encode_calls S h.cd B q m d hm (h.kw.bytes hB) hd hl (h.kw.far hB)).mono fun e w' hx => by rw [hr] at hx; exact MoreR.of (r := r) (z := z) h hx
theorem decodeW (P : Option Addr) (pl : List Int) (m d : Nat) (hl : pl.length = m) (hr : Row w P (zs pl)) (hm : m ≤ 1000) (B : Option Addr) (q : List F8) (o e : Nat) (hB : (B, q) ∈ ls) (ho : q.length = o) (he : o ≤ e) (ho2 : o ≤ 1000) :
    Calls Try.prog 35 #[.pointer (some ⟨b, 0, none⟩), .slice P m d, .slice B o e] w fun e w' => ∃ r z, DecIs xs k pl q r z ∧ MoreR w0 g b A xs n c k ls r z e w' :=
  (decode_calls S h.cd P pl m d hl hr hm B q o e ho (h.kw.bytes hB) he ho2 (h.kw.far hB)).mono fun _ _ ⟨r, z, hx, hy⟩ => ⟨r, z, hx, MoreR.of (r := r) (z := z) h hy⟩
/-- .. where the answer is known. -/
theorem decodeW' (P : Option Addr) (pl : List Int) (m d : Nat) (hl : pl.length = m) (hr : Row w P (zs pl)) (hm : m ≤ 1000) (B : Option Addr) (q : List F8) (o e : Nat) (hB : (B, q) ∈ ls) (ho : q.length = o) (he : o ≤ e) (ho2 : o ≤ 1000) (r : List F8) (z : Int) (hd : DecIs xs k pl q r z) :
    Calls Try.prog 35 #[.pointer (some ⟨b, 0, none⟩), .slice P m d, .slice B o e] w fun e w' => MoreR w0 g b A xs n c k ls r z e w' :=
  (decodeW S h P pl m d hl hr hm B q o e hB ho he ho2).mono fun e w' ⟨r', z', hx, hy⟩ => by
    obtain ⟨rfl, rfl⟩ := hx.only h.cd.nd hd
    exact hy
end
/-- A byte that is written out. -/
def f (n : Nat) (h : n < 256 := by decide) : F8 := ⟨n, h⟩
theorem ex1 : DecIs [1, f 2, f 4] 2 [2, 0] [f 3, f 6] [f 7, 1] 0 := .inr (.inr (.inl ⟨⟨rfl, by decide, by decide⟩, by decide, rfl, rfl, by decide +kernel⟩))
theorem ex2 : DecIs [1, f 2, f 4] 2 [0] [f 6] [] 70 := .inr (.inl ⟨⟨rfl, by decide, by decide⟩, by decide, rfl, rfl⟩)
theorem ex3 : DecIs [1, f 2, f 4] 2 [0, 1, 2] [f 6, f 5, f 2] [] 71 :=
  .inr (.inr (.inr ⟨⟨rfl, by decide, by decide⟩, by decide, rfl, rfl, split_no (l := [f 7, 1]) (k := 2) rfl (by decide) (by decide +kernel) (by decide +kernel) (by decide +kernel)⟩))
theorem ex4 : encR [1, f 2, f 4] 2 [f 7, 1] = ([f 6, f 5, f 3], 0) := by decide +kernel
theorem zl (l : List Int) (w : World) (cs : Array Value) (h : cs.toList = zs l) (t : TypeId) (o : Obj) : Row ((w.alloc (.cells cs t)).alloc o) (some ⟨w.heap.size, 0, none⟩) (zs l) := by
  have := (Row.new w cs t (0, 0)).alloc o
  rwa [h] at this

set_option maxRecDepth 100000 in
set_option maxHeartbeats 4000000 in
theorem works_calls (S : Poly.Spec) (w : World) : Calls Try.prog 24 #[] w fun e w' => e = .returned (.bool true) ∧ Below w.heap.size w w' := by
  have HS := St.refl w
  go_enter Try.func24, Try.ntmps24
  go_wp2_with fail
  refine (newS _ HS).mono ?_
  rintro e w1 ⟨rfl, HN⟩
  have HW := Lib.hid (W.start HN)
  clear HS HN
  go_wp2_with fail
  have H1 := HW.out.lit #[.int .u8 1, .int .u8 2, .int .u8 4] [1, f 2, f 4] rfl
  refine (newW H1 _ [1, f 2, f 4] 3 3 2 (by simp) rfl (by decide) (by decide)).mono ?_
  clear H1
  rintro e w2 (⟨-, b, A, c, q, hq, rfl, -, -, HN⟩ | ⟨h0, -⟩)
  rotate_left
  · exact absurd h0 (by decide +kernel)
  obtain ⟨-⟩ : True := trivial
  have hq2 : q = 2 := by omega
  rw [hq2] at HN
  have HW := Lib.hid (HN.sub (ls' := []) (by simp))
  clear HN hq hq2
  -- Encode(7 1)
  go_wp2_with fail
  have H1 := HW.out.lit #[.int .u8 7, .int .u8 1] [f 7, 1] rfl
  refine (encodeW S H1 _ [f 7, 1] 2 2 (by simp) rfl (by decide) (by decide) _ _ ex4).mono ?_
  clear H1
  rintro e w3 ⟨A3, c3, rfl, hc3, HN⟩
  have HW := Lib.hid (HN.sub (ls' := [(A3, [f 6, f 5, f 3])]) (by simp))
  clear HN
  -- Decode(2 0, 3 6)
  go_wp2_with fail
  have H1 := HW.out.lit2 #[.int .i64 2, .int .i64 0] 3 #[.int .u8 3, .int .u8 6] [f 3, f 6] rfl
  refine (decodeW' S H1 (some ⟨w3.heap.size, 0, none⟩) [2, 0] 2 2 rfl (zl _ _ _ rfl _ _) (by decide) _ [f 3, f 6] 2 2 (by simp) rfl (by decide) (by decide) _ _ ex1).mono ?_
  clear H1
  rintro e w4 ⟨A4, c4, rfl, hc4, HN⟩
  have HW := Lib.hid (HN.sub (ls' := [(A4, [f 7, 1]), (A3, [f 6, f 5, f 3])]) (by simp))
  clear HN
  -- Decode(0, 6)
  go_wp2_with fail
  have H1 := HW.out.lit2 #[.int .i64 0] 3 #[.int .u8 6] [f 6] rfl
  refine (decodeW' S H1 (some ⟨w4.heap.size, 0, none⟩) [0] 1 1 rfl (zl _ _ _ rfl _ _) (by decide) _ [f 6] 1 1 (by simp) rfl (by decide) (by decide) _ _ ex2).mono ?_
  clear H1
  rintro e w5 ⟨A5, c5, rfl, -, HN⟩
  have HW := Lib.hid (HN.sub (ls' := [(A4, [f 7, 1]), (A3, [f 6, f 5, f 3])]) (by simp))
  clear HN
  -- Decode(0 1 2, 6 5 2)
  go_wp2_with fail
  have H1 := HW.out.lit2 #[.int .i64 0, .int .i64 1, .int .i64 2] 3 #[.int .u8 6, .int .u8 5, .int .u8 2] [f 6, f 5, f 2] rfl
  refine (decodeW' S H1 (some ⟨w5.heap.size, 0, none⟩) [0, 1, 2] 3 3 rfl (zl _ _ _ rfl _ _) (by decide) _ [f 6, f 5, f 2] 3 3 (by simp) rfl (by decide) (by decide) _ _ ex3).mono ?_
  clear H1
  rintro e w6 ⟨A6, c6, rfl, -, HN⟩
  have HW := Lib.hid (HN.kw.sub (ls' := [(A4, [f 7, 1]), (A3, [f 6, f 5, f 3])]) (by simp))
  clear HN
  -- New(1 2 1, 2)
  go_wp2_with fail
  have H1 := HW.out.lit #[.int .u8 1, .int .u8 2, .int .u8 1] [1, f 2, 1] rfl
  refine (newW H1 _ [1, f 2, 1] 3 3 2 (by simp) rfl (by decide) (by decide)).mono ?_
  clear H1
  rintro e w7 (⟨h0, -⟩ | ⟨-, rfl, HN⟩)
  · exact absurd h0 (by decide +kernel)
  have HW := Lib.hid (HN.sub (ls' := [(A4, [f 7, 1]), (A3, [f 6, f 5, f 3])]) (by simp))
  clear HN
  -- New(1 2, 3)
  go_wp2_with fail
  have H1 := HW.out.lit #[.int .u8 1, .int .u8 2] [1, f 2] rfl
  refine (newW H1 _ [1, f 2] 2 2 3 (by simp) rfl (by decide) (by decide)).mono ?_
  clear H1
  rintro e w8 (⟨h0, -⟩ | ⟨-, rfl, HN⟩)
  · exact absurd h0 (by decide +kernel)
  have HW := Lib.hid (HN.sub (ls' := [(A4, [f 7, 1]), (A3, [f 6, f 5, f 3])]) (by simp))
  clear HN
  -- the comparisons
  go_wp2_with fail
  have H1 := Lib.hid (HW.out.lit #[.int .u8 6, .int .u8 5, .int .u8 3] [f 6, f 5, f 3] rfl)
  refine (sameW A3 _ [f 6, f 5, f 3] [f 6, f 5, f 3] 3 3 c3 3 _ H1.out (by simp) (by simp) rfl rfl true (by decide +kernel)).mono ?_
  rintro e w9 ⟨rfl, rfl⟩
  have HW := Lib.hid (H1.out.sub (ls' := [(A4, [f 7, 1])]) (by simp))
  clear H1
  generalize w8.alloc (.cells #[.int .u8 6, .int .u8 5, .int .u8 3] 5) = v9 at HW ⊢
  go_wp2_with fail
  have H1 := Lib.hid (HW.out.lit #[.int .u8 7, .int .u8 1] [f 7, 1] rfl)
  refine (sameW A4 _ [f 7, 1] [f 7, 1] 2 2 c4 2 _ H1.out (by simp) (by simp) rfl rfl true (by decide +kernel)).mono ?_
  rintro e w10 ⟨rfl, rfl⟩
  go_wp2
  go_ret
  exact ⟨rfl, H1.out.bel⟩
end Go.Proofs.Ytjpbdbgihakpmaa.Rd
