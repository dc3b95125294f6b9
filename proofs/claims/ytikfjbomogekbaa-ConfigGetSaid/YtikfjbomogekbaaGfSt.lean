/- Fields and what a row of calls on them leaves alone. -/
import Derived.Test.YtikfjbomogekbaaGfOps
import Derived.Test.YtikfjbomogekbaaGfRef
namespace Go.Proofs.Ytikfjbomogekbaa.GF
open Go.RowKit

/-- Behind w0, whose blocks below B are as they were, the fields gs, all at or behind B. -/
structure St (B : Nat) (w0 : World) (gs : List Nat) (w : World) : Prop where
  fld : ∀ g ∈ gs, Fld w g ∧ B ≤ g
  bel : Below B w0 w
  le : B ≤ w.heap.size
section
variable {B : Nat} {w0 w w' : World} {gs : List Nat} {g : Nat}
theorem St.refl (w : World) : St w.heap.size w [] w := ⟨by simp, Below.refl _ _, Nat.le_refl _⟩
theorem St.new (h : St B w0 gs w) : St B w0 (w.heap.size :: gs) (w.alloc (.cells (fcells 0 0 0) 76)) :=
  ⟨fun g hg => by
    rcases List.mem_cons.1 hg with rfl | hg
    · exact ⟨Fld.new _, h.le⟩
    · exact ⟨(h.fld g hg).1.alloc _, (h.fld g hg).2⟩, h.bel.alloc h.le _, by simp; have := h.le; omega⟩
theorem St.drewN (h : St B w0 gs w) (n : Nat) : St B w0 gs (w.drewN n) := ⟨h.fld, Below.drewN' h.bel n, h.le⟩
theorem St.below (h : St B w0 gs w) (hb : Below w.heap.size w w') : St B w0 gs w' :=
  ⟨fun g hg => ⟨(h.fld g hg).1.below hb (h.fld g hg).1.lt, (h.fld g hg).2⟩, h.bel.trans (hb.mono h.le), Nat.le_trans h.le hb.size⟩
theorem St.next (h : St B w0 gs w) (hg : g ∈ gs) (h1 : FldP w' (some ⟨g, 0, none⟩)) (h2 : Past w.heap.size g w w') : St B w0 gs w' :=
  ⟨fun k hk => by
    by_cases e : k = g
    · subst e; exact ⟨h1.fld, (h.fld _ hg).2⟩
    · exact ⟨(h.fld k hk).1.past h2 (h.fld k hk).1.lt e, (h.fld k hk).2⟩, h.bel.trans ((h2.mono h.le).below (h.fld g hg).2), Nat.le_trans h.le h2.size⟩
/-- A receiver: nil or one of the fields. -/
def Rc (gs : List Nat) (p : Option Addr) : Prop := p = none ∨ ∃ g ∈ gs, p = some ⟨g, 0, none⟩
theorem Rc.nil : Rc gs none := .inl rfl
theorem Rc.of (h : g ∈ gs) : Rc gs (some ⟨g, 0, none⟩) := .inr ⟨g, h, rfl⟩
theorem Rc.fldP {p : Option Addr} (hp : Rc gs p) (h : St B w0 gs w) : FldP w p := by
  rcases hp with rfl | ⟨g, hg, rfl⟩
  · exact .inl rfl
  · exact FldP.of (h.fld g hg).1
theorem St.go {p : Option Addr} (h : St B w0 gs w) (hp : Rc gs p) (h1 : FldP w' p) (h2 : Past w.heap.size (rb w p) w w') : St B w0 gs w' := by
  rcases hp with rfl | ⟨g, hg, rfl⟩
  · exact h.below (h2.below (Nat.le_refl _))
  · exact h.next hg h1 h2
end
section
variable {B : Nat} {w0 : World} {gs : List Nat} (p : Option Addr) (w : World) (h : St B w0 gs w) (hp : Rc gs p)
include h
theorem newS : Calls Try.prog 16 #[] w fun e w' => e = .returned (.pointer (some ⟨w.heap.size, 0, none⟩)) ∧ St B w0 (w.heap.size :: gs) w' :=
  (new_calls w).mono fun e w' ⟨h1, h2⟩ => ⟨h1, by rw [h2]; exact h.new⟩
include hp
/-- The calls, at any field and in any row; the result by a name of its own. -/
theorem mulS (a b r : Nat) (ha : a < 256) (hb : b < 256) (hr : gm a b = r) : Calls Try.prog 64 #[.pointer p, .int .u8 a, .int .u8 b] w fun e w' => e = .returned (.int .u8 r) ∧ St B w0 gs w' :=
  (mul_calls p a b ha hb w (hp.fldP h)).mono fun e w' ⟨h1, h2, h3⟩ => ⟨by rw [h1, hr], h.go hp h2 h3⟩
theorem expS (n : Int) (r : Nat) (hl : -9223372036854775808 ≤ n) (hh : n < 9223372036854775808) (hr : ge n = r) : Calls Try.prog 31 #[.pointer p, .int .i64 n] w fun e w' => e = .returned (.int .u8 r) ∧ St B w0 gs w' :=
  (exp_calls p n hl hh w (hp.fldP h)).mono fun e w' ⟨h1, h2, h3⟩ => ⟨by rw [h1, hr], h.go hp h2 h3⟩
theorem logS (a r : Nat) (ha : a < 256) (a0 : a ≠ 0) (hr : gl a = r) : Calls Try.prog 83 #[.pointer p, .int .u8 a] w fun e w' => e = .returned (.tuple #[.int .i64 r, .bool true]) ∧ St B w0 gs w' :=
  (log_calls p a ha a0 w (hp.fldP h)).mono fun e w' ⟨h1, h2, h3⟩ => ⟨by rw [h1, hr], h.go hp h2 h3⟩
theorem orderS (a r : Nat) (ha : a < 256) (a0 : a ≠ 0) (hr : gord a = r) : Calls Try.prog 57 #[.pointer p, .int .u8 a] w fun e w' => e = .returned (.int .i64 r) ∧ St B w0 gs w' :=
  (order_calls p a ha a0 w (hp.fldP h)).mono fun e w' ⟨h1, h2, h3⟩ => ⟨by rw [h1, hr], h.go hp h2 h3⟩
end
theorem addS (a b r : Nat) (ha : a < 256) (hb : b < 256) (hr : a ^^^ b = r) (w : World) : Calls Try.prog 101 #[.int .u8 a, .int .u8 b] w fun e w' => e = .returned (.int .u8 r) ∧ w = w' :=
  (add_calls a b ha hb w).mono fun e w' ⟨h1, h2⟩ => ⟨by rw [h1, hr], h2⟩

section
variable {B : Nat} {w0 : World} {gs : List Nat} (p : Option Addr) (w : World) (h : St B w0 gs w) (hp : Rc gs p)
include h hp
/-! The same at literal numbers. -/
theorem mulL (a b r : Int) (ha : 0 ≤ a ∧ a < 256) (hb : 0 ≤ b ∧ b < 256) (hr : (gm a.toNat b.toNat : Int) = r) : Calls Try.prog 64 #[.pointer p, .int .u8 a, .int .u8 b] w fun e w' => e = .returned (.int .u8 r) ∧ St B w0 gs w' := by
  obtain ⟨a, rfl⟩ := Int.eq_ofNat_of_zero_le ha.1
  obtain ⟨b, rfl⟩ := Int.eq_ofNat_of_zero_le hb.1
  subst hr
  exact mulS p w h hp a b _ (by omega) (by omega) rfl
theorem expL (n r : Int) (hl : -9223372036854775808 ≤ n) (hh : n < 9223372036854775808) (hr : (ge n : Int) = r) : Calls Try.prog 31 #[.pointer p, .int .i64 n] w fun e w' => e = .returned (.int .u8 r) ∧ St B w0 gs w' := by
  subst hr
  exact expS p w h hp n _ hl hh rfl
theorem logL (a r : Int) (ha : 0 < a ∧ a < 256) (hr : (gl a.toNat : Int) = r) : Calls Try.prog 83 #[.pointer p, .int .u8 a] w fun e w' => e = .returned (.tuple #[.int .i64 r, .bool true]) ∧ St B w0 gs w' := by
  obtain ⟨a, rfl⟩ := Int.eq_ofNat_of_zero_le (Int.le_of_lt ha.1)
  subst hr
  exact logS p w h hp a _ (by omega) (by omega) rfl
theorem orderL (a r : Int) (ha : 0 < a ∧ a < 256) (hr : (gord a.toNat : Int) = r) : Calls Try.prog 57 #[.pointer p, .int .u8 a] w fun e w' => e = .returned (.int .i64 r) ∧ St B w0 gs w' := by
  obtain ⟨a, rfl⟩ := Int.eq_ofNat_of_zero_le (Int.le_of_lt ha.1)
  subst hr
  exact orderS p w h hp a _ (by omega) (by omega) rfl
end
theorem addL (a b r : Int) (ha : 0 ≤ a ∧ a < 256) (hb : 0 ≤ b ∧ b < 256) (hr : ((a.toNat ^^^ b.toNat : Nat) : Int) = r) (w : World) : Calls Try.prog 101 #[.int .u8 a, .int .u8 b] w fun e w' => e = .returned (.int .u8 r) ∧ w = w' := by
  obtain ⟨a, rfl⟩ := Int.eq_ofNat_of_zero_le ha.1
  obtain ⟨b, rfl⟩ := Int.eq_ofNat_of_zero_le hb.1
  subst hr
  exact add_calls a b (by omega) (by omega) w

/-! The examples' numbers. -/
section
variable {B : Nat} {w0 : World} {gs : List Nat} (p : Option Addr) (w : World) (h : St B w0 gs w) (hp : Rc gs p)
include h hp
theorem ex_log29 : Calls Try.prog 83 #[.pointer p, .int .u8 29] w fun e w' => e = .returned (.tuple #[.int .i64 8, .bool true]) ∧ St B w0 gs w' :=
  logL p w h hp 29 8 (by decide) (by decide +kernel)
theorem ex_mul1 : Calls Try.prog 64 #[.pointer p, .int .u8 2, .int .u8 128] w fun e w' => e = .returned (.int .u8 29) ∧ St B w0 gs w' :=
  mulL p w h hp 2 128 29 (by decide) (by decide) (by decide +kernel)
theorem ex_mul2 : Calls Try.prog 64 #[.pointer p, .int .u8 3, .int .u8 7] w fun e w' => e = .returned (.int .u8 9) ∧ St B w0 gs w' :=
  mulL p w h hp 3 7 9 (by decide) (by decide) (by decide +kernel)
theorem ex_mul3 : Calls Try.prog 64 #[.pointer p, .int .u8 255, .int .u8 255] w fun e w' => e = .returned (.int .u8 226) ∧ St B w0 gs w' :=
  mulL p w h hp 255 255 226 (by decide) (by decide) (by decide +kernel)
theorem ex_exp : Calls Try.prog 31 #[.pointer p, .int .i64 255] w fun e w' => e = .returned (.int .u8 1) ∧ St B w0 gs w' :=
  expL p w h hp 255 1 (by decide) (by decide) (by decide +kernel)
theorem ex_ord1 : Calls Try.prog 57 #[.pointer p, .int .u8 2] w fun e w' => e = .returned (.int .i64 255) ∧ St B w0 gs w' :=
  orderL p w h hp 2 255 (by decide) (by decide +kernel)
theorem ex_ord2 : Calls Try.prog 57 #[.pointer p, .int .u8 1] w fun e w' => e = .returned (.int .i64 1) ∧ St B w0 gs w' :=
  orderL p w h hp 1 1 (by decide) (by decide +kernel)
end
theorem ex_add (w : World) : Calls Try.prog 101 #[.int .u8 5, .int .u8 3] w fun e w' => e = .returned (.int .u8 6) ∧ w = w' :=
  addL 5 3 6 (by decide) (by decide) (by decide +kernel) w

end Go.Proofs.Ytikfjbomogekbaa.GF
