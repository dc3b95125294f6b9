/- The definition's calls, between the program's. -/
import Derived.Test.YtjpbdbgihakpmaaPolyWorks
namespace Go.Proofs.Ytjpbdbgihakpmaa.Poly
open Go.RowKit F8 GF

section
variable {w0 : World} {g : Nat} {ls : List (Option Addr × List F8)}
theorem refTrimW (A : Option Addr) (p : List F8) (m c : Nat) (w : World) (h : W w0 g ls w) (ha : (A, p) ∈ ls) (hm : p.length = m) (hc : m ≤ c) (hl : m ≤ 1000) (r : List F8) (hr : trim p = r) :
    Calls Try.prog 124 #[.slice A m c] w fun e w' => More w0 g ls r e w' :=
  hr ▸ (refTrim_len A p m c w hm (h.bytes ha) hc (by omega)).mono fun _ _ hx => More.of_res h hx
theorem refRootsW (A : Option Addr) (p : List F8) (m c : Nat) (w : World) (h : W w0 g ls w) (ha : (A, p) ∈ ls) (hm : p.length = m) (hl : m ≤ 1000) (r : List F8) (hr : trim (roots p) = r) :
    Calls Try.prog 105 #[.slice A m c] w fun e w' => More w0 g ls r e w' :=
  hr ▸ (refRoots_calls A p m c w hm (h.bytes ha) (by omega)).mono fun _ _ hx => More.of_res h hx
theorem refAtW (A : Option Addr) (p : List F8) (m c : Nat) (w : World) (h : W w0 g ls w) (ha : (A, p) ∈ ls) (hm : p.length = m) (hl : m ≤ 1000) (x y : F8) (hy : eval p x = y) :
    Calls Try.prog 75 #[.slice A m c, .int .u8 x.n] w fun e w' => e = .returned (.int .u8 y.n) ∧ w = w' :=
  hy ▸ refAt_calls A p m c x w hm (h.bytes ha) (by omega)
theorem refAddW (A B : Option Addr) (p q : List F8) (m n c d : Nat) (w : World) (h : W w0 g ls w) (ha : (A, p) ∈ ls) (hb : (B, q) ∈ ls) (hm : p.length = m) (hn : q.length = n) (hl : m ≤ 1000) (hl2 : n ≤ 1000) (r : List F8) (hr : trim (padd p q) = r) :
    Calls Try.prog 107 #[.slice A m c, .slice B n d] w fun e w' => More w0 g ls r e w' :=
  hr ▸ (refAdd_len A B p q m n c d w hm hn (h.bytes ha) (h.bytes hb) (by omega) (by omega)).mono fun _ _ hx => More.of_res h hx
theorem refMulW (A B : Option Addr) (p q : List F8) (m n c d : Nat) (w : World) (h : W w0 g ls w) (ha : (A, p) ∈ ls) (hb : (B, q) ∈ ls) (hm : p.length = m) (hn : q.length = n) (hl : m ≤ 1000) (hl2 : n ≤ 1000) (r : List F8) (hr : trim (pmul p q) = r) :
    Calls Try.prog 108 #[.slice A m c, .slice B n d] w fun e w' => More w0 g ls r e w' :=
  hr ▸ (refPMul_len A B p q m n c d w hm hn (h.bytes ha) (h.bytes hb) (by omega) (by omega)).mono fun _ _ hx => More.of_res h hx
theorem refThroughW_bad (A B : Option Addr) (p q : List F8) (m n c d : Nat) (w : World) (h : W w0 g ls w) (ha : (A, p) ∈ ls) (hb : (B, q) ∈ ls) (hm : p.length = m) (hn : q.length = n) (hc : m ≤ c) (hl : m ≤ 1000) (hx : m ≠ n ∨ ¬ p.Nodup) :
    Calls Try.prog 81 #[.slice A m c, .slice B n d] w fun e w' => MoreE w0 g ls [] 2 e w' := by
  by_cases hmn : m = n
  · refine (refThrough_calls A B p q m n c d w hm hn hmn (h.bytes ha) (h.bytes hb) hc (by omega)).mono fun e w' hr => ?_
    rcases hr with ⟨hn', _⟩ | ⟨_, h1, h2⟩
    · rcases hx with hx | hx
      · exact absurd hmn hx
      · exact absurd hn' hx
    · exact ⟨none, 0, h1, Nat.le_refl _, (h.below h2).nil⟩
  · exact (refThrough_unlike A B m n c d w hmn).mono fun e w' ⟨h1, h2⟩ => ⟨none, 0, h1, Nat.le_refl _, h2 ▸ h.nil⟩
theorem refThroughW (A B : Option Addr) (p q : List F8) (m n c d : Nat) (w : World) (h : W w0 g ls w) (ha : (A, p) ∈ ls) (hb : (B, q) ∈ ls) (hm : p.length = m) (hn : q.length = n) (hc : m ≤ c) (hl : m ≤ 1000) (hmn : m = n) (hnd : p.Nodup) (r : List F8) (ht : Thru p q r) :
    Calls Try.prog 81 #[.slice A m c, .slice B n d] w fun e w' => MoreE w0 g ls r 0 e w' := by
  refine (refThrough_calls A B p q m n c d w hm hn hmn (h.bytes ha) (h.bytes hb) hc (by omega)).mono fun e w' hr => ?_
  rcases hr with ⟨_, r', A', c', ht', h1, h2, h3, h4⟩ | ⟨hnot, _⟩
  · obtain rfl := ht'.only hnd (by omega) ht
    exact ⟨A', c', h1, h2, (h.below h4).own h3 h.glt⟩
  · exact absurd hnd hnot
end
theorem Thru.len {xs ys r : List F8} (h : Thru xs ys r) : r.length ≤ xs.length := by
  have := len_le_of_bdd h.bdd
  unfold Poly.len at this
  rwa [h.tr] at this
end Go.Proofs.Ytjpbdbgihakpmaa.Poly
