/- Lists and variables kept over calls that make no use of a field. -/
import Derived.Test.YthenpfcnpcgfbaaMatWorks
namespace Go.Proofs.Ythenpfcnpcgfbaa.Mat
open Go.RowKit F8 Poly GF

/-- Behind w0: lists, variables. -/
structure V (w0 : World) (ls : List (Option Addr × List F8)) (bx : List Bx) (w : World) : Prop where
  bel : Below w0.heap.size w0 w
  ls : ∀ x ∈ ls, Bytes w x.1 (bs x.2)
  bx : ∀ x ∈ bx, x.In w
section
variable {w0 w w' : World} {ls : List (Option Addr × List F8)} {bx : List Bx} {A B : Option Addr} {p q : List F8}
theorem V.start (h : Q w0 bx w) : V w0 [] bx w := ⟨h.bel, by simp, h.bx⟩
theorem V.bytes (h : V w0 ls bx w) (hx : (A, p) ∈ ls) : Bytes w A (bs p) := h.ls _ hx
theorem V.below (h : V w0 ls bx w) (hb : Below w.heap.size w w') : V w0 ls bx w' :=
  ⟨h.bel.trans (hb.mono h.bel.size), fun x hx => (h.ls x hx).below hb, fun x hx => (h.bx x hx).below hb (h.bx x hx).lt⟩
theorem V.alloc (h : V w0 ls bx w) (o : Obj) : V w0 ls bx (w.alloc o) := h.below ((Below.refl _ _).alloc (Nat.le_refl _) o)
theorem V.drewN (h : V w0 ls bx w) (n : Nat) : V w0 ls bx (w.drewN n) := h.below (Below.drewN' (Below.refl _ _) n)
theorem V.drew (h : V w0 ls bx w) : V w0 ls bx w.drew := h.drewN 1
theorem V.fresh (h : V w0 ls bx w) : ∀ x ∈ bx, x.b ≠ w.heap.size := fun x hx => by have : x.b < w.heap.size := (h.bx x hx).lt; omega
theorem V.cons (h : V w0 ls bx w) (hb : Bytes w A (bs p)) : V w0 ((A, p) :: ls) bx w :=
  ⟨h.bel, fun x hx => by rcases List.mem_cons.1 hx with rfl | hx; exact hb; exact h.ls x hx, h.bx⟩
theorem V.arg (h : V w0 ls bx w) (hb : Bytes w0 A (bs p)) : V w0 ((A, p) :: ls) bx w := h.cons (hb.below h.bel)
theorem V.own {B0 : Nat} {e : TypeId} {n c : Nat} (h : V w0 ls bx w) (ho : Own w B0 e (.slice A n c) (bv (bs p))) : V w0 ((A, p) :: ls) bx w := h.cons (own_bytes ho)
theorem V.sub {ls' : List (Option Addr × List F8)} {bx' : List Bx} (h : V w0 ls bx w) (hs : ∀ x ∈ ls', x ∈ ls) (hb : ∀ x ∈ bx', x ∈ bx) : V w0 ls' bx' w := ⟨h.bel, fun x hx => h.ls x (hs x hx), fun x hx => h.bx x (hb x hx)⟩
theorem V.var (h : V w0 ls bx w) (R C : Int) (A : Option Addr) (n c : Nat) : ∃ v, w.alloc (.cells #[.int .i64 R, .int .i64 C, .slice A n c] 24) = v ∧ v.heap.size = w.heap.size + 1 ∧ V w0 ls (⟨w.heap.size, R, C, A, n, c⟩ :: bx) v :=
  have k := h.alloc (.cells #[.int .i64 R, .int .i64 C, .slice A n c] 24)
  ⟨_, rfl, by simp, k.bel, k.ls, fun x hx => by rcases List.mem_cons.1 hx with rfl | hx; exact Block.new _ _ _; exact k.bx x hx⟩
theorem V.at_ (h : V w0 ls bx w) {b : Nat} {R C : Int} {n c : Nat} (hx : (⟨b, R, C, A, n, c⟩ : Bx) ∈ bx) : w.cell? ⟨b, 0, none⟩ = some (.int .i64 R) ∧ w.cell? ⟨b, 1, none⟩ = some (.int .i64 C) ∧ w.cell? ⟨b, 2, none⟩ = some (.slice A n c) := cells3 (h.bx _ hx)
theorem V.new (h : V w0 ls bx w) : Calls Try.prog 13 #[] w fun e w' => e = .returned (.pointer (some ⟨w.heap.size, 0, none⟩)) ∧ W w0 w.heap.size ls bx w' :=
  (new_calls w).mono fun e w' ⟨h1, h2⟩ => by
    rw [h2]
    have hs : St w0.heap.size w0 [] w := ⟨by simp, h.bel, h.bel.size⟩
    refine ⟨h1, hs.new, fun x hx => ⟨(h.ls x hx).alloc _, fun hp a ha => ?_⟩, fun x hx => (h.bx x hx).alloc _⟩
    obtain ⟨b, off, e⟩ := where_ (h.ls x hx) (List.length_pos_iff.2 hp)
    rw [ha] at e; cases e
    obtain ⟨b', off', e', hc⟩ := cellF (h.ls x hx) 0 (List.length_pos_iff.2 hp)
    rw [ha] at e'; cases e'
    have := cell_lt hc
    simp at *; omega
end
/-- A matrix more and an error's number. -/
def MoreEV (w0 : World) (ls : List (Option Addr × List F8)) (bx : List Bx) (r c N : Nat) (u : List F8) (k : Int) (e : Ending) (w' : World) : Prop :=
  ∃ A cap, e = .returned (.tuple #[.agg #[.int .i64 r, .int .i64 c, .slice A N cap], .int .i64 k]) ∧ N ≤ cap ∧ V w0 ((A, u) :: ls) bx w'
/-- A row more and an error's number. -/
def MoreRV (w0 : World) (ls : List (Option Addr × List F8)) (bx : List Bx) (N : Nat) (u : List F8) (k : Int) (e : Ending) (w' : World) : Prop :=
  ∃ A cap, e = .returned (.tuple #[.slice A N cap, .int .i64 k]) ∧ N ≤ cap ∧ V w0 ((A, u) :: ls) bx w'
section
variable {w0 w w' : World} {ls : List (Option Addr × List F8)} {bx : List Bx} {r c N : Nat} {u : List F8} {e : Ending} {k : Int} (h : V w0 ls bx w)
include h
theorem MoreEV.of_E (hN : u.length = N) (hr : MatResE w w' e r c u k) : MoreEV w0 ls bx r c N u k e w' := by
  subst hN
  obtain ⟨A, cap, h1, h2, h3, h4⟩ := hr
  exact ⟨A, cap, h1, h2, (h.below h4).own h3⟩
theorem MoreRV.of (hN : u.length = N) (hr : PackRes u k w e w') : MoreRV w0 ls bx N u k e w' := by
  subst hN
  obtain ⟨A, cap, h1, h2, h3, h4⟩ := hr
  exact ⟨A, cap, h1, h2, (h.below h4).own h3⟩
theorem turnedV (r c N cap : Nat) (A : Option Addr) (s u : List F8) (ha : (A, s) ∈ ls) (hr : r ≤ 100) (hc : c ≤ 100) (hN : r * c = N) (hcap : N ≤ cap) (hl : s.length = N) (hu : flat c r (tr (ent s c)) = u) :
    Calls Try.prog 15 #[.agg #[.int .i64 r, .int .i64 c, .slice A N cap]] w fun e w' => MoreEV w0 ls bx c r N u 0 e w' := by
  have := mul_bound hr hc
  exact (turned_calls r c N cap A s hN.symm (by omega) (by omega) (by omega) hcap hl w (h.bytes ha)).mono fun _ _ hx => MoreEV.of_E h (by rw [← hu, flat_length, ← hN, Nat.mul_comm]) (hu ▸ hx)
theorem turnedV_bad (R C : Int) (A : Option Addr) (n cap : Nat) (hb : RightB R C n = false) :
    Calls Try.prog 15 #[.agg #[.int .i64 R, .int .i64 C, .slice A n cap]] w fun e w' => MoreEV w0 ls bx 0 0 0 [] 50 e w' :=
  (turned_bad R C A n cap hb w).mono fun _ _ hx => MoreEV.of_E h rfl hx
theorem symmV (n m N cap : Nat) (A : Option Addr) (b u : List F8) (ha : (A, b) ∈ ls) (hn : n ≤ 100) (hl : b.length = m) (hm : m = tri n) (hN : n * n = N) (hcap : m ≤ cap) (hu : flat n n (symF b n) = u) :
    Calls Try.prog 36 #[.int .i64 n, .slice A m cap] w fun e w' => MoreEV w0 ls bx n n N u 0 e w' := by
  have := mul_bound hn hn
  exact (symm_calls n m cap A b (by omega) (by omega) hl hm hcap w (h.bytes ha)).mono fun _ _ hx => MoreEV.of_E h (by rw [← hu, flat_length, hN]) (hu ▸ hx)
theorem symmV_bad (N : Int) (A : Option Addr) (m cap : Nat) (hx : ¬ (0 ≤ N ∧ N ≤ 65536 ∧ (2 * m : Int) = N * (N + 1))) :
    Calls Try.prog 36 #[.int .i64 N, .slice A m cap] w fun e w' => MoreEV w0 ls bx 0 0 0 [] 50 e w' :=
  (symm_size N A m cap hx w).mono fun _ _ hx => MoreEV.of_E h rfl hx
theorem packedV (n N cap : Nat) (A : Option Addr) (s u : List F8) (ha : (A, s) ∈ ls) (hn : n ≤ 100) (hN : n * n = N) (hcap : N ≤ cap) (hl : s.length = N) (hs : SymB n n s = true) (hu : packL s n n = u) :
    Calls Try.prog 25 #[.agg #[.int .i64 n, .int .i64 n, .slice A N cap]] w fun e w' => MoreRV w0 ls bx u.length u 0 e w' := by
  have := mul_bound hn hn
  exact (packed_calls n N cap A s hN.symm (by omega) (by omega) hcap hl hs w (h.bytes ha)).mono fun _ _ hx => MoreRV.of h rfl (hu ▸ hx)
theorem msameV (R C R' C' : Int) (A B : Option Addr) (p q : List F8) (m n c d : Nat) (ha : (A, p) ∈ ls) (hb : (B, q) ∈ ls) (hm : p.length = m) (hn : q.length = n) (x : Bool) (hx : SameB R C R' C' p q = x) :
    Calls Try.prog 28 #[.agg #[.int .i64 R, .int .i64 C, .slice A m c], .agg #[.int .i64 R', .int .i64 C', .slice B n d]] w fun e w' => e = .returned (.bool x) ∧ V w0 ls bx w' :=
  hx ▸ (msame_calls R C R' C' A B p q m n c d w hm hn (h.bytes ha) (h.bytes hb)).mono fun _ _ ⟨h1, h2⟩ => ⟨h1, h.below h2⟩
theorem sameV (A B : Option Addr) (p q : List F8) (m n c d : Nat) (ha : (A, p) ∈ ls) (hb : (B, q) ∈ ls) (hm : p.length = m) (hn : q.length = n) (x : Bool) (hx : decide (p = q) = x) :
    Calls Try.prog 27 #[.slice A m c, .slice B n d] w fun e w' => e = .returned (.bool x) ∧ w = w' :=
  hx ▸ same_calls A B p q m n c d w hm hn (h.bytes ha) (h.bytes hb)
end
end Go.Proofs.Ythenpfcnpcgfbaa.Mat
