/- Decode over a law's state, with what it keeps; rows of places. -/
import Derived.Test.YtjpbdbgihakpmaaRdLaw
import Derived.Test.YtjpbdbgihakpmaaRdMath2
namespace Go.Proofs.Ytjpbdbgihakpmaa.Rd
open Go.RowKit Go.Shelf F8 Poly GF
attribute [local go_sem] Oper.semAt_some

theorem own_row {w : World} {B n c : Nat} {e : TypeId} {A : Option Addr} {xs : List Value} (h : Own w B e (.slice A n c) xs) : Row w A xs := by
  obtain ⟨A', c', e1, hr, _⟩ := h.form
  injection e1 with e2 _ _
  subst e2
  exact hr
theorem own_apart {w : World} {B B' : Nat} {e e' : TypeId} {v v' : Value} {xs ys : List Value} (h : Own w B e v xs) (h' : Own w B' e' v' ys) (hne : e ≠ e') : v.ownBlock = none ∨ v.ownBlock ≠ v'.ownBlock := by
  rcases h.2 with ⟨rfl, _⟩ | ⟨b, cap, cur, rfl, _, hh, _⟩
  · exact .inl rfl
  · right
    rcases h'.2 with ⟨rfl, _⟩ | ⟨b', cap', cur', rfl, _, hh', _⟩
    · simp [Value.ownBlock]
    · intro e1
      obtain rfl : b = b' := by simpa [Value.ownBlock] using e1
      rw [hh] at hh'
      simp only [Option.some.injEq, Obj.cells.injEq] at hh'
      exact hne hh'.2.1
/-- An append to another row of one's own. -/
theorem own_other {w w' : World} {B B' : Nat} {e e' : TypeId} {v v' : Value} {xs ys : List Value} (h : Own w B e v xs) (h' : Own w B' e' v' ys) (hne : e ≠ e') (hg : w.grownBy w' v'.ownBlock) : Own w' B e v xs :=
  h.grown hg (own_apart h h' hne)
section
variable {w0 w w' : World} {a b g B : Nat} {A : Option Addr} {xs : List F8} {n c k : Nat} {ls : List (Option Addr × List F8)}
/-- A list more, one's own, an error's number, and what has been kept. -/
def MoreP (w0 : World) (g b : Nat) (A : Option Addr) (xs : List F8) (n c k : Nat) (ls : List (Option Addr × List F8)) (r : List F8) (z : Int) (w : World) (e : Ending) (w' : World) : Prop :=
  ∃ B d, e = .returned (.tuple #[.slice B r.length d, .int .i64 z]) ∧ r.length ≤ d ∧ Own w' w.heap.size 5 (.slice B r.length d) (bv (bs r)) ∧ R w0 g b A xs n c k ls w' ∧ Past w.heap.size g w w'
theorem decodeP (S : Poly.Spec) (h : R w0 g b A xs n c k ls w) (P : Option Addr) (pl : List Int) (m d : Nat) (hl : pl.length = m) (hr : Row w P (zs pl)) (hm : m ≤ 1000) (B : Option Addr) (q : List F8) (o e : Nat) (hB : Bytes w B (bs q)) (hfar : Far (some ⟨g, 0, none⟩) B q) (ho : q.length = o) (he : o ≤ e) (ho2 : o ≤ 1000) :
    Calls Try.prog 35 #[.pointer (some ⟨b, 0, none⟩), .slice P m d, .slice B o e] w fun e w' => ∃ r z, DecIs xs k pl q r z ∧ MoreP w0 g b A xs n c k ls r z w e w' :=
  (decode_calls S h.cd P pl m d hl hr hm B q o e ho hB he ho2 hfar).mono fun e w' ⟨r, z, hx, hy⟩ => by
    obtain ⟨B, d, h1, h2, h3, h4, h5⟩ := hy
    exact ⟨r, z, hx, B, d, h1, h2, h3, h.past h4 h5, h5⟩
/-- .. where the answer is known. -/
theorem decodeP' (S : Poly.Spec) (h : R w0 g b A xs n c k ls w) (P : Option Addr) (pl : List Int) (m d : Nat) (hl : pl.length = m) (hr : Row w P (zs pl)) (hm : m ≤ 1000) (B : Option Addr) (q : List F8) (o e : Nat) (hB : Bytes w B (bs q)) (hfar : Far (some ⟨g, 0, none⟩) B q) (ho : q.length = o) (he : o ≤ e) (ho2 : o ≤ 1000) (r : List F8) (z : Int) (hd : DecIs xs k pl q r z) :
    Calls Try.prog 35 #[.pointer (some ⟨b, 0, none⟩), .slice P m d, .slice B o e] w fun e w' => MoreP w0 g b A xs n c k ls r z w e w' :=
  (decodeP S h P pl m d hl hr hm B q o e hB hfar ho he ho2).mono fun e w' ⟨r', z', hx, hy⟩ => by
    obtain ⟨rfl, rfl⟩ := hx.only h.cd.nd hd
    exact hy
theorem R.arg (h : R w0 g b A xs n c k ls w) {P : Option Addr} {p : List F8} (hb : Bytes w0 P (bs p)) : R w0 g b A xs n c k ((P, p) :: ls) w := ⟨h.kw.arg hb, h.cd⟩
end
theorem cellI {w : World} {b off : Nat} {l : List Int} (h : Row w (some ⟨b, off, none⟩) (zs l)) {k : Nat} (hk : k < l.length) : w.cell? ⟨b, off + k, none⟩ = some (.int .i64 l[k]) := by
  obtain ⟨b', off', e, hc⟩ := zs_at h hk
  cases e
  exact hc
theorem grown_set (w : World) (p : Addr) (u : Value) : w.grownBy (w.setCell p u) (some p.block) := ⟨rfl, rfl, rfl, by simp [World.setCell], fun k _ hk => Below.heap_setCell _ _ _ _ (fun e => hk (by rw [e]))⟩
theorem bvs_put (ys : List F8) (i : Nat) (v : F8) : (bv (bs ys)).set i (.int .u8 (v.n : Nat)) = bv (bs (ys.set i v)) := by simp [bv, bs, List.map_set]
theorem drop_snoc {α : Type} {l : List α} {t : Nat} (h : t < l.length) : (l.drop t).reverse = (l.drop (t + 1)).reverse ++ [l[t]] := by
  rw [List.drop_eq_getElem_cons h, List.reverse_cons]
theorem ptsAt_app (xs : List F8) (a : List Int) (z : Int) : ptsAt xs (a ++ [z]) = ptsAt xs a ++ [coef xs z.toNat] := by simp [ptsAt]
theorem f8_xor (x y : F8) : bits .xor .u8 (x.n : Int) (y.n : Int) = (((x + y).n : Nat) : Int) := u8_xor' x.n y.n x.h y.h
end Go.Proofs.Ytjpbdbgihakpmaa.Rd
