/- Of the program and its document, joined: GfOps, GfSt, Str, PolySame. -/
import Derived.Test.YtiapokojlkdddaaGreatPk04
import Derived.Test.YtiapokojlkdddaaGreatPk05
import Derived.Test.YtiapokojlkdddaaGreatPk03
import Derived.Laws.BytesArg
import Derived.Lib.ConvBytes
/- What a field's calls do. -/
namespace Go.Proofs.YtiapokojlkdddaaGreat.GF
open Go.RowKit

theorem add_calls (a b : Nat) (ha : a < 256) (hb : b < 256) (w : World) :
    Calls Tryz.prog 44 #[.int .u8 a, .int .u8 b] w fun e w' => e = .returned (.int .u8 (a ^^^ b : Nat)) ∧ w = w' := by
  have HX := Lib.hid (u8_xor' a b ha hb)
  go_enter Tryz.func44, Tryz.ntmps44
  go_wp2
  go_ret
  exact ⟨ret_int HX.out, rfl⟩

set_option maxHeartbeats 1600000 in
theorem mul_calls (p : Option Addr) (a b : Nat) (ha : a < 256) (hb : b < 256) (w : World) (hp : FldP w p) :
    Calls Tryz.prog 114 #[.pointer p, .int .u8 a, .int .u8 b] w fun e w' => e = .returned (.int .u8 (gm a b : Nat)) ∧ FldP w' p ∧ Past w.heap.size (rb w p) w w' := by
  by_cases a0 : a = 0
  · subst a0
    rw [zero_gm]
    go_enter Tryz.func114, Tryz.ntmps114
    go_wp2
    go_ret
    exact ⟨rfl, hp, Past.refl _ _ _⟩
  by_cases b0 : b = 0
  · subst b0
    rw [gm_zero]
    have h1 : ((a : Int) == 0) = false := by simp; omega
    go_enter Tryz.func114, Tryz.ntmps114
    go_wp2
    go_ret
    exact ⟨rfl, hp, Past.refl _ _ _⟩
  have h1 : ((a : Int) == 0) = false := by simp; omega
  have h2 : ((b : Int) == 0) = false := by simp; omega
  have hl1 := gl_lt ha
  have hl2 := gl_lt hb
  have HG : Hid (gm a b = gp ((gl a + gl b) % 255)) := Lib.hid (by unfold gm; rw [if_neg a0, if_neg b0])
  go_enter Tryz.func114, Tryz.ntmps114
  go_wp2_with (go_at_call 131; refine (ready_any p _ hp).mono ?_; rintro e w' ⟨g, rfl, hM, hp', hP, hg⟩)
  have c1 := hM.log a ha
  have c2 := hM.log b hb
  have c3 := hM.pow ((gl a + gl b) % 255) (by omega)
  go_region
  all_goals
    go_wp2
    go_ret
    exact ⟨ret_nat HG.out.symm, hp'.drewN 1, hP.drew⟩

set_option maxHeartbeats 1600000 in
theorem div_zero (p : Option Addr) (a : Nat) (w : World) :
    Calls Tryz.prog 77 #[.pointer p, .int .u8 a, .int .u8 0] w fun e w' => e = .returned (.tuple #[.int .u8 0, .bool false]) ∧ w = w' := by
  go_enter Tryz.func77, Tryz.ntmps77
  go_wp2
  go_ret2
  exact ⟨rfl, rfl⟩
set_option maxHeartbeats 1600000 in
theorem div_calls (p : Option Addr) (a b : Nat) (ha : a < 256) (hb : b < 256) (b0 : b ≠ 0) (w : World) (hp : FldP w p) :
    Calls Tryz.prog 77 #[.pointer p, .int .u8 a, .int .u8 b] w fun e w' => e = .returned (.tuple #[.int .u8 (gq a b : Nat), .bool true]) ∧ FldP w' p ∧ Past w.heap.size (rb w p) w w' := by
  have h2 : ((b : Int) == 0) = false := by simp; omega
  by_cases a0 : a = 0
  · subst a0
    rw [show gq 0 b = 0 from rfl]
    go_enter Tryz.func77, Tryz.ntmps77
    go_wp2
    go_ret2
    exact ⟨rfl, hp, Past.refl _ _ _⟩
  have h1 : ((a : Int) == 0) = false := by simp; omega
  have hl1 := gl_lt ha
  have hl2 := gl_lt hb
  have HG : Hid (gq a b = gp ((gl a + (255 - gl b)) % 255)) := Lib.hid (by unfold gq; rw [if_neg a0])
  obtain ⟨k, hk⟩ : ∃ k : Nat, k = (gl a + (255 - gl b)) % 255 := ⟨_, rfl⟩
  have hki : ((gl a : Int) - gl b + 255) % 255 = (k : Int) := by omega
  have hk5 : k < 255 := by omega
  rw [← hk] at HG
  clear hk
  go_enter Tryz.func77, Tryz.ntmps77
  go_wp2_with (go_at_call 131; refine (ready_any p _ hp).mono ?_; rintro e w' ⟨g, rfl, hM, hp', hP, hg⟩)
  have c1 := hM.log a ha
  have c2 := hM.log b hb
  have c3 := hM.pow k hk5
  go_region
  all_goals
    go_wp2
    go_ret2
    exact ⟨ret_pair HG.out.symm, hp'.drewN 1, hP.drew⟩

set_option maxHeartbeats 1600000 in
theorem exp_calls (p : Option Addr) (n : Int) (hl : -9223372036854775808 ≤ n) (hh : n < 9223372036854775808) (w : World) (hp : FldP w p) :
    Calls Tryz.prog 97 #[.pointer p, .int .i64 n] w fun e w' => e = .returned (.int .u8 (ge n : Nat)) ∧ FldP w' p ∧ Past w.heap.size (rb w p) w w' := by
  have ht := tmod255 n
  have hm : IntKind.i64.wrap (n.tmod 255) = n.tmod 255 := IntWalk.i64_in _ (by omega)
  obtain ⟨k, hk⟩ : ∃ k : Nat, k = (n % 255).toNat := ⟨_, rfl⟩
  have hk5 : k < 255 := by omega
  have HG : Hid (ge n = gp k) := Lib.hid (by unfold ge; rw [hk])
  obtain ⟨m, hmm⟩ : ∃ m : Int, n.tmod 255 = m := ⟨_, rfl⟩
  rw [hmm] at hm ht
  by_cases hneg : m < 0
  · have hm2 : m + 255 = (k : Int) := by omega
    clear hk ht
    go_enter Tryz.func97, Tryz.ntmps97
    go_wp2_with (go_at_call 131; refine (ready_any p _ hp).mono ?_; rintro e w' ⟨g, rfl, hM, hp', hP, hg⟩; have c3 := hM.pow k hk5)
    go_ret
    exact ⟨ret_nat HG.out.symm, hp', hP⟩
  · obtain rfl : m = (k : Int) := by omega
    clear hk ht
    go_enter Tryz.func97, Tryz.ntmps97
    go_wp2_with (go_at_call 131; refine (ready_any p _ hp).mono ?_; rintro e w' ⟨g, rfl, hM, hp', hP, hg⟩; have c3 := hM.pow k hk5)
    go_ret
    exact ⟨ret_nat HG.out.symm, hp', hP⟩

set_option maxHeartbeats 1600000 in
theorem log_zero (p : Option Addr) (w : World) :
    Calls Tryz.prog 154 #[.pointer p, .int .u8 0] w fun e w' => e = .returned (.tuple #[.int .i64 0, .bool false]) ∧ w = w' := by
  go_enter Tryz.func154, Tryz.ntmps154
  go_wp2
  go_ret2
  exact ⟨rfl, rfl⟩
set_option maxHeartbeats 1600000 in
theorem log_calls (p : Option Addr) (a : Nat) (ha : a < 256) (a0 : a ≠ 0) (w : World) (hp : FldP w p) :
    Calls Tryz.prog 154 #[.pointer p, .int .u8 a] w fun e w' => e = .returned (.tuple #[.int .i64 (gl a : Nat), .bool true]) ∧ FldP w' p ∧ Past w.heap.size (rb w p) w w' := by
  have h1 : ((a : Int) == 0) = false := by simp; omega
  have hl1 := gl_lt ha
  go_enter Tryz.func154, Tryz.ntmps154
  go_wp2_with (go_at_call 131; refine (ready_any p _ hp).mono ?_; rintro e w' ⟨g, rfl, hM, hp', hP, hg⟩; have c3 := hM.log a ha)
  go_ret2
  exact ⟨rfl, hp', hP⟩

set_option maxHeartbeats 1600000 in
theorem pow_calls (p : Option Addr) (a : Nat) (ha : a < 256) (n : Int) (hl : -9223372036854775808 ≤ n) (hh : n < 9223372036854775808) (w : World) (hp : FldP w p) :
    Calls Tryz.prog 177 #[.pointer p, .int .u8 a, .int .i64 n] w fun e w' => e = .returned (.int .u8 (gpow a n : Nat)) ∧ FldP w' p ∧ Past w.heap.size (rb w p) w w' := by
  by_cases n0 : n = 0
  · subst n0
    rw [show gpow a 0 = 1 from rfl]
    go_enter Tryz.func177, Tryz.ntmps177
    go_wp2
    go_ret
    exact ⟨rfl, hp, Past.refl _ _ _⟩
  have h0 : (n == 0) = false := by simp; omega
  by_cases a0 : a = 0
  · subst a0
    rw [show gpow 0 n = 0 by unfold gpow; rw [if_neg n0]; rfl]
    go_enter Tryz.func177, Tryz.ntmps177
    go_wp2
    go_ret
    exact ⟨rfl, hp, Past.refl _ _ _⟩
  have h1 : ((a : Int) == 0) = false := by simp; omega
  have hl1 := gl_lt ha
  have ht := tmod255 n
  have hm : IntKind.i64.wrap (n.tmod 255) = n.tmod 255 := IntWalk.i64_in _ (by omega)
  obtain ⟨m, hmm⟩ : ∃ m : Int, n.tmod 255 = m := ⟨_, rfl⟩
  rw [hmm] at hm ht
  have hb : -255 < m ∧ m < 255 := by omega
  have hx : -64770 ≤ (gl a : Int) * m ∧ (gl a : Int) * m ≤ 64770 := by
    have e1 : (gl a : Int) * m ≤ (gl a : Int) * 255 := Int.mul_le_mul_of_nonneg_left (by omega) (by omega)
    have e2 : (gl a : Int) * (-255) ≤ (gl a : Int) * m := Int.mul_le_mul_of_nonneg_left (by omega) (by omega)
    omega
  have hw : IntKind.i64.wrap ((gl a : Int) * m) = (gl a : Int) * m := IntWalk.i64_in _ (by omega)
  have HG : Hid (gpow a n = ge ((gl a : Int) * m)) := Lib.hid (by
    rw [gpow_of a0, ← ge_mul_mod, ← ge_mul_mod (gl a) m]
    congr 2; omega)
  obtain ⟨x, hxx⟩ : ∃ x : Int, (gl a : Int) * m = x := ⟨_, rfl⟩
  rw [hxx] at hx hw HG
  clear ht
  go_enter Tryz.func177, Tryz.ntmps177
  go_wp2_with (first | (go_at_call 131; refine (ready_any p _ hp).mono ?_; rintro e w' ⟨g, rfl, hM, hp', hP, hg⟩; have c3 := hM.log a ha) | (go_at_call 97; refine (exp_calls (some ⟨g, 0, none⟩) x (by omega) (by omega) _ (FldP.of hM.fld)).mono ?_; rintro e w2 ⟨rfl, hp2, hP2⟩))
  obtain ⟨h3, h4⟩ := FldP.further hg hP hp2 hP2
  go_ret
  exact ⟨ret_nat HG.out.symm, h3, h4⟩

theorem gcd_step (a b : Nat) : Nat.gcd b (a % b) = Nat.gcd a b := by
  rw [Nat.gcd_comm b, ← Nat.gcd_rec, Nat.gcd_comm]
set_option maxHeartbeats 1600000 in
theorem commonDivisor_calls (a b : Nat) (ha : a < 1000) (hb : b < 1000) (w : World) :
    Calls Tryz.prog 155 #[.int .i64 a, .int .i64 b] w fun e w' => e = .returned (.int .i64 (Nat.gcd a b : Nat)) ∧ ∃ n, w' = w.drewN n := by
  go_enter Tryz.func155, Tryz.ntmps155
  go_wp2
  go_loopw [0, 1] (fun x y wr => ∃ c d n : Nat, c < 1000 ∧ d < 1000 ∧ x = .int .i64 c ∧ y = .int .i64 d ∧ Hid (Nat.gcd c d = Nat.gcd a b) ∧ wr = w.drewN n) (fun _ y _ => (intOf y).toNat)
  case atStart => exact ⟨a, b, 0, ha, hb, rfl, rfl, Lib.hid rfl, rfl⟩
  case round =>
    obtain ⟨c, d, n, hc, hd, rfl, rfl, HG, rfl⟩ := hrel
    by_cases d0 : d = 0
    · subst d0
      go_wp2
      go_ret
      exact ⟨ret_nat (by rw [← HG.out, Nat.gcd_zero_right]), n, rfl⟩
    · have h1 : ((d : Int) == 0) = false := by simp; omega
      have h1' : ((d : Int) != 0) = true := by simp; omega
      have hd0 : (d : Int) ≠ 0 := by omega
      go_wp2
      go_region
      all_goals
        go_wp2
        go_roundw
        case rel => exact ⟨d, c % d, n + 1, hd, Nat.lt_of_le_of_lt (Nat.mod_le _ _) hc, rfl, by go_num, by rw [gcd_step]; exact HG, rfl⟩
        case measure => have := Nat.mod_lt c (show 0 < d by omega); simp [intOf]; omega

set_option maxHeartbeats 1600000 in
theorem order_zero (p : Option Addr) (w : World) :
    Calls Tryz.prog 107 #[.pointer p, .int .u8 0] w fun e w' => e = .returned (.int .i64 0) ∧ w = w' := by
  go_enter Tryz.func107, Tryz.ntmps107
  go_wp2_with (go_at_call 154; refine (log_zero p _).mono ?_; rintro e w' ⟨rfl, rfl⟩)
  go_ret
  exact ⟨rfl, rfl⟩
set_option maxHeartbeats 1600000 in
theorem order_calls (p : Option Addr) (a : Nat) (ha : a < 256) (a0 : a ≠ 0) (w : World) (hp : FldP w p) :
    Calls Tryz.prog 107 #[.pointer p, .int .u8 a] w fun e w' => e = .returned (.int .i64 (gord a : Nat)) ∧ FldP w' p ∧ Past w.heap.size (rb w p) w w' := by
  have hl1 := gl_lt ha
  have hg0 : 0 < Nat.gcd 255 (gl a) := Nat.gcd_pos_of_pos_left _ (by decide)
  have hg1 : Nat.gcd 255 (gl a) ≤ 255 := Nat.le_of_dvd (by decide) (Nat.gcd_dvd_left _ _)
  have HG : Hid (gord a = 255 / Nat.gcd 255 (gl a)) := Lib.hid (by unfold gord; rw [if_neg a0])
  have hc := commonDivisor_calls 255 (gl a) (by decide) (by omega)
  obtain ⟨d, hd⟩ : ∃ d : Nat, Nat.gcd 255 (gl a) = d := ⟨_, rfl⟩
  rw [hd] at hg0 hg1 HG hc
  clear hd
  have d0 : (d : Int) ≠ 0 := by omega
  go_enter Tryz.func107, Tryz.ntmps107
  go_wp2_with (first | (go_at_call 154; refine (log_calls p a ha a0 _ hp).mono ?_; rintro e w' ⟨rfl, hp', hP⟩) | (go_at_call 155; refine (hc _).mono ?_; rintro e w2 ⟨rfl, nd, rfl⟩))
  go_ret
  refine ⟨ret_int ?_, hp'.drewN nd, hP.drewN nd⟩
  rw [HG.out]
  simp
end Go.Proofs.YtiapokojlkdddaaGreat.GF

/- Fields and what a row of calls on them leaves alone. -/
namespace Go.Proofs.YtiapokojlkdddaaGreat.GF
open Go.RowKit

/-- Behind w0, whose blocks below B are as they were, the fields gs, all at or behind B. -/
structure St (B : Nat) (w0 : World) (gs : List Nat) (w : World) : Prop where
  fld : ∀ g ∈ gs, Fld w g ∧ B ≤ g
  bel : Below B w0 w
  le : B ≤ w.heap.size
section
variable {B : Nat} {w0 w w' : World} {gs : List Nat} {g : Nat}
theorem St.refl (w : World) : St w.heap.size w [] w := ⟨by simp, Below.refl _ _, Nat.le_refl _⟩
theorem St.new (h : St B w0 gs w) : St B w0 (w.heap.size :: gs) (w.alloc (.cells (fcells 0 0 0) 112)) :=
  ⟨fun g hg => by
    rcases List.mem_cons.1 hg with rfl | hg
    · exact ⟨Fld.new _, h.le⟩
    · exact ⟨(h.fld g hg).1.alloc _, (h.fld g hg).2⟩, h.bel.alloc h.le _, by simp; have := h.le; omega⟩
theorem St.drewN (h : St B w0 gs w) (n : Nat) : St B w0 gs (w.drewN n) := ⟨h.fld, Below.drewN' h.bel n, h.le⟩
theorem St.below (h : St B w0 gs w) (hb : Below w.heap.size w w') : St B w0 gs w' :=
  ⟨fun g hg => ⟨(h.fld g hg).1.below hb (h.fld g hg).1.lt, (h.fld g hg).2⟩, h.bel.trans (hb.mono h.le), Nat.le_trans h.le hb.size⟩
theorem St.next (h : St B w0 gs w) (hg : g ∈ gs) (h1 : FldP w' (some ⟨g, 0, none⟩)) (h2 : Past w.heap.size g w w') : St B w0 gs w' :=
  ⟨fun k hk => by
    by_cases e : k = g
    · subst e; exact ⟨h1.fld, (h.fld _ hg).2⟩
    · exact ⟨(h.fld k hk).1.past h2 (h.fld k hk).1.lt e, (h.fld k hk).2⟩, h.bel.trans ((h2.mono h.le).below (h.fld g hg).2), Nat.le_trans h.le h2.size⟩
/-- A receiver: nil or one of the fields. -/
def Rc (gs : List Nat) (p : Option Addr) : Prop := p = none ∨ ∃ g ∈ gs, p = some ⟨g, 0, none⟩
theorem Rc.nil : Rc gs none := .inl rfl
theorem Rc.of (h : g ∈ gs) : Rc gs (some ⟨g, 0, none⟩) := .inr ⟨g, h, rfl⟩
theorem Rc.fldP {p : Option Addr} (hp : Rc gs p) (h : St B w0 gs w) : FldP w p := by
  rcases hp with rfl | ⟨g, hg, rfl⟩
  · exact .inl rfl
  · exact FldP.of (h.fld g hg).1
theorem St.go {p : Option Addr} (h : St B w0 gs w) (hp : Rc gs p) (h1 : FldP w' p) (h2 : Past w.heap.size (rb w p) w w') : St B w0 gs w' := by
  rcases hp with rfl | ⟨g, hg, rfl⟩
  · exact h.below (h2.below (Nat.le_refl _))
  · exact h.next hg h1 h2
end
section
variable {B : Nat} {w0 : World} {gs : List Nat} (p : Option Addr) (w : World) (h : St B w0 gs w) (hp : Rc gs p)
include h
theorem newS : Calls Tryz.prog 23 #[] w fun e w' => e = .returned (.pointer (some ⟨w.heap.size, 0, none⟩)) ∧ St B w0 (w.heap.size :: gs) w' :=
  (new_calls w).mono fun e w' ⟨h1, h2⟩ => ⟨h1, by rw [h2]; exact h.new⟩
include hp
/-- The calls, at any field and in any row; the result by a name of its own. -/
theorem mulS (a b r : Nat) (ha : a < 256) (hb : b < 256) (hr : gm a b = r) : Calls Tryz.prog 114 #[.pointer p, .int .u8 a, .int .u8 b] w fun e w' => e = .returned (.int .u8 r) ∧ St B w0 gs w' :=
  (mul_calls p a b ha hb w (hp.fldP h)).mono fun e w' ⟨h1, h2, h3⟩ => ⟨by rw [h1, hr], h.go hp h2 h3⟩
theorem divS (a b r : Nat) (ha : a < 256) (hb : b < 256) (b0 : b ≠ 0) (hr : gq a b = r) : Calls Tryz.prog 77 #[.pointer p, .int .u8 a, .int .u8 b] w fun e w' => e = .returned (.tuple #[.int .u8 r, .bool true]) ∧ St B w0 gs w' :=
  (div_calls p a b ha hb b0 w (hp.fldP h)).mono fun e w' ⟨h1, h2, h3⟩ => ⟨by rw [h1, hr], h.go hp h2 h3⟩
theorem powS (a : Nat) (n : Int) (r : Nat) (ha : a < 256) (hl : -9223372036854775808 ≤ n) (hh : n < 9223372036854775808) (hr : gpow a n = r) : Calls Tryz.prog 177 #[.pointer p, .int .u8 a, .int .i64 n] w fun e w' => e = .returned (.int .u8 r) ∧ St B w0 gs w' :=
  (pow_calls p a ha n hl hh w (hp.fldP h)).mono fun e w' ⟨h1, h2, h3⟩ => ⟨by rw [h1, hr], h.go hp h2 h3⟩
theorem expS (n : Int) (r : Nat) (hl : -9223372036854775808 ≤ n) (hh : n < 9223372036854775808) (hr : ge n = r) : Calls Tryz.prog 97 #[.pointer p, .int .i64 n] w fun e w' => e = .returned (.int .u8 r) ∧ St B w0 gs w' :=
  (exp_calls p n hl hh w (hp.fldP h)).mono fun e w' ⟨h1, h2, h3⟩ => ⟨by rw [h1, hr], h.go hp h2 h3⟩
theorem logS (a r : Nat) (ha : a < 256) (a0 : a ≠ 0) (hr : gl a = r) : Calls Tryz.prog 154 #[.pointer p, .int .u8 a] w fun e w' => e = .returned (.tuple #[.int .i64 r, .bool true]) ∧ St B w0 gs w' :=
  (log_calls p a ha a0 w (hp.fldP h)).mono fun e w' ⟨h1, h2, h3⟩ => ⟨by rw [h1, hr], h.go hp h2 h3⟩
theorem orderS (a r : Nat) (ha : a < 256) (a0 : a ≠ 0) (hr : gord a = r) : Calls Tryz.prog 107 #[.pointer p, .int .u8 a] w fun e w' => e = .returned (.int .i64 r) ∧ St B w0 gs w' :=
  (order_calls p a ha a0 w (hp.fldP h)).mono fun e w' ⟨h1, h2, h3⟩ => ⟨by rw [h1, hr], h.go hp h2 h3⟩
end
theorem addS (a b r : Nat) (ha : a < 256) (hb : b < 256) (hr : a ^^^ b = r) (w : World) : Calls Tryz.prog 44 #[.int .u8 a, .int .u8 b] w fun e w' => e = .returned (.int .u8 r) ∧ w = w' :=
  (add_calls a b ha hb w).mono fun e w' ⟨h1, h2⟩ => ⟨by rw [h1, hr], h2⟩

section
variable {B : Nat} {w0 : World} {gs : List Nat} (p : Option Addr) (w : World) (h : St B w0 gs w) (hp : Rc gs p)
include h hp
/-! The same at literal numbers. -/
theorem mulL (a b r : Int) (ha : 0 ≤ a ∧ a < 256) (hb : 0 ≤ b ∧ b < 256) (hr : (gm a.toNat b.toNat : Int) = r) : Calls Tryz.prog 114 #[.pointer p, .int .u8 a, .int .u8 b] w fun e w' => e = .returned (.int .u8 r) ∧ St B w0 gs w' := by
  obtain ⟨a, rfl⟩ := Int.eq_ofNat_of_zero_le ha.1
  obtain ⟨b, rfl⟩ := Int.eq_ofNat_of_zero_le hb.1
  subst hr
  exact mulS p w h hp a b _ (by omega) (by omega) rfl
theorem powL (a n r : Int) (ha : 0 ≤ a ∧ a < 256) (hl : -9223372036854775808 ≤ n) (hh : n < 9223372036854775808) (hr : (gpow a.toNat n : Int) = r) : Calls Tryz.prog 177 #[.pointer p, .int .u8 a, .int .i64 n] w fun e w' => e = .returned (.int .u8 r) ∧ St B w0 gs w' := by
  obtain ⟨a, rfl⟩ := Int.eq_ofNat_of_zero_le ha.1
  subst hr
  exact powS p w h hp a n _ (by omega) hl hh rfl
theorem expL (n r : Int) (hl : -9223372036854775808 ≤ n) (hh : n < 9223372036854775808) (hr : (ge n : Int) = r) : Calls Tryz.prog 97 #[.pointer p, .int .i64 n] w fun e w' => e = .returned (.int .u8 r) ∧ St B w0 gs w' := by
  subst hr
  exact expS p w h hp n _ hl hh rfl
theorem logL (a r : Int) (ha : 0 < a ∧ a < 256) (hr : (gl a.toNat : Int) = r) : Calls Tryz.prog 154 #[.pointer p, .int .u8 a] w fun e w' => e = .returned (.tuple #[.int .i64 r, .bool true]) ∧ St B w0 gs w' := by
  obtain ⟨a, rfl⟩ := Int.eq_ofNat_of_zero_le (Int.le_of_lt ha.1)
  subst hr
  exact logS p w h hp a _ (by omega) (by omega) rfl
theorem orderL (a r : Int) (ha : 0 < a ∧ a < 256) (hr : (gord a.toNat : Int) = r) : Calls Tryz.prog 107 #[.pointer p, .int .u8 a] w fun e w' => e = .returned (.int .i64 r) ∧ St B w0 gs w' := by
  obtain ⟨a, rfl⟩ := Int.eq_ofNat_of_zero_le (Int.le_of_lt ha.1)
  subst hr
  exact orderS p w h hp a _ (by omega) (by omega) rfl
end
theorem addL (a b r : Int) (ha : 0 ≤ a ∧ a < 256) (hb : 0 ≤ b ∧ b < 256) (hr : ((a.toNat ^^^ b.toNat : Nat) : Int) = r) (w : World) : Calls Tryz.prog 44 #[.int .u8 a, .int .u8 b] w fun e w' => e = .returned (.int .u8 r) ∧ w = w' := by
  obtain ⟨a, rfl⟩ := Int.eq_ofNat_of_zero_le ha.1
  obtain ⟨b, rfl⟩ := Int.eq_ofNat_of_zero_le hb.1
  subst hr
  exact add_calls a b (by omega) (by omega) w

/-! The examples' numbers. -/
section
variable {B : Nat} {w0 : World} {gs : List Nat} (p : Option Addr) (w : World) (h : St B w0 gs w) (hp : Rc gs p)
include h hp
theorem ex_log29 : Calls Tryz.prog 154 #[.pointer p, .int .u8 29] w fun e w' => e = .returned (.tuple #[.int .i64 8, .bool true]) ∧ St B w0 gs w' :=
  logL p w h hp 29 8 (by decide) (by decide +kernel)
theorem ex_mul1 : Calls Tryz.prog 114 #[.pointer p, .int .u8 2, .int .u8 128] w fun e w' => e = .returned (.int .u8 29) ∧ St B w0 gs w' :=
  mulL p w h hp 2 128 29 (by decide) (by decide) (by decide +kernel)
theorem ex_mul2 : Calls Tryz.prog 114 #[.pointer p, .int .u8 3, .int .u8 7] w fun e w' => e = .returned (.int .u8 9) ∧ St B w0 gs w' :=
  mulL p w h hp 3 7 9 (by decide) (by decide) (by decide +kernel)
theorem ex_mul3 : Calls Tryz.prog 114 #[.pointer p, .int .u8 255, .int .u8 255] w fun e w' => e = .returned (.int .u8 226) ∧ St B w0 gs w' :=
  mulL p w h hp 255 255 226 (by decide) (by decide) (by decide +kernel)
theorem ex_pow1 : Calls Tryz.prog 177 #[.pointer p, .int .u8 2, .int .i64 8] w fun e w' => e = .returned (.int .u8 29) ∧ St B w0 gs w' :=
  powL p w h hp 2 8 29 (by decide) (by decide) (by decide) (by decide +kernel)
theorem ex_pow2 : Calls Tryz.prog 177 #[.pointer p, .int .u8 2, .int .i64 (-1)] w fun e w' => e = .returned (.int .u8 142) ∧ St B w0 gs w' :=
  powL p w h hp 2 (-1) 142 (by decide) (by decide) (by decide) (by decide +kernel)
theorem ex_pow3 : Calls Tryz.prog 177 #[.pointer p, .int .u8 0, .int .i64 0] w fun e w' => e = .returned (.int .u8 1) ∧ St B w0 gs w' :=
  powL p w h hp 0 0 1 (by decide) (by decide) (by decide) (by decide +kernel)
theorem ex_exp : Calls Tryz.prog 97 #[.pointer p, .int .i64 255] w fun e w' => e = .returned (.int .u8 1) ∧ St B w0 gs w' :=
  expL p w h hp 255 1 (by decide) (by decide) (by decide +kernel)
theorem ex_ord1 : Calls Tryz.prog 107 #[.pointer p, .int .u8 2] w fun e w' => e = .returned (.int .i64 255) ∧ St B w0 gs w' :=
  orderL p w h hp 2 255 (by decide) (by decide +kernel)
theorem ex_ord2 : Calls Tryz.prog 107 #[.pointer p, .int .u8 1] w fun e w' => e = .returned (.int .i64 1) ∧ St B w0 gs w' :=
  orderL p w h hp 1 1 (by decide) (by decide +kernel)
end
theorem ex_add (w : World) : Calls Tryz.prog 44 #[.int .u8 5, .int .u8 3] w fun e w' => e = .returned (.int .u8 6) ∧ w = w' :=
  addL 5 3 6 (by decide) (by decide) (by decide +kernel) w

end Go.Proofs.YtiapokojlkdddaaGreat.GF

/- Bytes and strings: a list of numbers as a string, and the two conversions. -/
namespace Go.Proofs.YtiapokojlkdddaaGreat
open Go.RowKit

/-- The string of a list of bytes. -/
def str (l : List Nat) : ByteArray := ⟨(l.map UInt8.ofNat).toArray⟩
theorem str_size (l : List Nat) : (str l).size = l.length := by simp [str, ByteArray.size]
theorem str_data (l : List Nat) : (str l).data.toList = l.map UInt8.ofNat := rfl
theorem str_inj {a b : List Nat} (ha : ∀ c ∈ a, c < 256) (hb : ∀ c ∈ b, c < 256) (h : str a = str b) : a = b := by
  have h1 : a.map UInt8.ofNat = b.map UInt8.ofNat := by rw [← str_data, ← str_data, h]
  have back : ∀ l : List Nat, (∀ c ∈ l, c < 256) → (l.map UInt8.ofNat).map UInt8.toNat = l := by
    intro l hl
    rw [List.map_map]
    conv => rhs; rw [← List.map_id l]
    apply List.map_congr_left
    intro c hc
    have := hl c hc
    simp [Nat.mod_eq_of_lt this]
  rw [← back a ha, ← back b hb, h1]
theorem str_append (a b : List Nat) : str (a ++ b) = str a ++ str b := by
  apply ByteArray.ext; simp [str]
theorem str_nil : str [] = ByteArray.empty := rfl

section
variable {P : Program}
/-- 'string(b)'. -/
theorem conv_str {w : World} {A : Option Addr} {l : List Nat} (hb : Bytes w A l) (c : Nat) (src dst e : TypeId) (hs : P.underlying src = some (.slice e)) (he : P.underlying e = some (.int .u8)) (hd : P.underlying dst = some .string) :
    (convert src dst (.slice A l.length c)).run P w = .ok (.string (str l)) w := by
  cases A with
  | none =>
    have hl : l = [] := by
      cases l with
      | nil => rfl
      | cons x l => obtain ⟨b, off, h, _⟩ := hb.row 0 (.int .u8 x) rfl; cases h
    subst hl
    exact run_convert_bytes_nil w src e hs he _ _ dst hd
  | some a =>
    by_cases hl : l = []
    · subst hl
      rw [run_convert_bytes_string w src dst e (some a) _ c hs he hd]
      have := run_bytesToString (P := P) w a 0 c [] (by simp [loadCells, loadCellsFrom])
      rw [str_nil]
      simpa using this
    · have h0 : 0 < l.length := by cases l <;> simp_all
      obtain ⟨b, off, h, _⟩ := hb.at_ h0
      obtain rfl : a = ⟨b, off, none⟩ := by injection h
      have h1 := run_convert_bytes_arg (P := P) w src e hs he b off l.length c (l.map fun n : Nat => (n : Int)) (by simp) (fun i hi => by
        obtain ⟨b', off', h', hc, _⟩ := hb.at_ hi
        simp only [Option.some.injEq, Addr.mk.injEq] at h'
        obtain ⟨rfl, rfl, _⟩ := h'
        rw [hc]; simp [List.getD, List.getElem?_eq_getElem hi]) dst hd
      rw [h1]
      have : strOfNums (l.map fun n : Nat => (n : Int)) = str l := by
        unfold strOfNums str; simp
      rw [this]

/-- '[]byte(s)': the new row. -/
theorem conv_bytes (w : World) (l : List Nat) (src dst e : TypeId) (hs : P.underlying src = some .string) (hd : P.underlying dst = some (.slice e)) (he : P.underlying e = some (.int .u8)) :
    (convert src dst (.string (str l))).run P w = .ok (.slice (some ⟨w.heap.size, 0, none⟩) l.length (grownCap w l.length 0 e)) (Lib.bytesWorld w e (str l)) := by
  have := Lib.run_convert_string_bytes (P := P) w src dst e (str l) hs hd he
  rw [str_size] at this
  exact this
theorem bytesWorld_bytes (w : World) (e : TypeId) (l : List Nat) (hl : ∀ c ∈ l, c < 256) : Bytes (Lib.bytesWorld w e (str l)) (some ⟨w.heap.size, 0, none⟩) l := by
  refine ⟨fun k u hu => ⟨w.heap.size, 0, rfl, ?_⟩, hl⟩
  have hk : k < l.length := by have := (List.getElem?_eq_some_iff.1 hu).1; rwa [bv_length] at this
  rw [Nat.zero_add, Lib.bytesWorld_cell w e (str l) k (by rw [str_size]; exact hk), str_data]
  simp only [bv, List.getElem?_map, List.getElem?_eq_getElem hk, Option.map_some, Option.some.injEq] at hu
  rw [← hu]
  simp [List.getD, List.getElem?_eq_getElem hk, Nat.mod_eq_of_lt (hl _ (List.getElem_mem hk))]
theorem bytesWorld_below (w : World) (e : TypeId) (s : ByteArray) : Below w.heap.size w (Lib.bytesWorld w e s) :=
  ⟨by simp [Lib.bytesWorld, World.freeze]; rfl, by simp [Lib.bytesWorld, World.freeze], by simp [Lib.bytesWorld, World.freeze]; rfl, by rw [Lib.bytesWorld_size]; omega, fun k hk => Lib.bytesWorld_at_old w e s k hk⟩
end
end Go.Proofs.YtiapokojlkdddaaGreat

/- Rows of bytes compared; lists of a law's own, kept over calls on a field. -/
namespace Go.Proofs.YtiapokojlkdddaaGreat.Poly
open Go.RowKit F8 GF

theorem conv_f {w : World} {A : Option Addr} {p : List F8} (hb : Bytes w A (bs p)) (m c : Nat) (hm : p.length = m) : (convert 22 9 (.slice A m c)).run Tryz.prog w = .ok (.string (str (bs p))) w := by
  have h := conv_str (P := Tryz.prog) hb c 22 9 5 Tryz.underlying22 Tryz.underlying5 Tryz.underlying9
  rw [bs_length, hm] at h; exact h

set_option maxHeartbeats 1000000 in
theorem same_calls (A B : Option Addr) (p q : List F8) (m n c d : Nat) (w : World) (hm : p.length = m) (hn : q.length = n) (hb : Bytes w A (bs p)) (hb2 : Bytes w B (bs q)) :
    Calls Tryz.prog 33 #[.slice A m c, .slice B n d] w fun e w' => e = .returned (.bool (decide (p = q))) ∧ w = w' := by
  have c1 := conv_f hb m c hm
  have c2 := conv_f hb2 n d hn
  have HE : Hid (((str (bs p)).toList == (str (bs q)).toList) = decide (p = q)) := Lib.hid (by
    rw [Bool.eq_iff_iff, beq_iff_eq, decide_eq_true_iff, ByteArray.toList_eq, ByteArray.toList_eq, str_data, str_data]
    constructor
    · intro h
      refine bs_inj.1 (str_inj (bs_lt p) (bs_lt q) ?_)
      unfold str; rw [h]
    · intro h; rw [h])
  clear hb hb2
  go_enter Tryz.func33, Tryz.ntmps33
  go_wp2
  go_ret
  exact ⟨GF.ret_bool HE.out, rfl⟩
end Go.Proofs.YtiapokojlkdddaaGreat.Poly
