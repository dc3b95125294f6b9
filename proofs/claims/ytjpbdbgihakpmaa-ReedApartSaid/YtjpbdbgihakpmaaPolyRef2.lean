/- What the definition's further calls on polynomials do: values, roots. -/
import Derived.Test.YtjpbdbgihakpmaaPolyRef
import Derived.BigQuiet
import Derived.Deep.QuietTactic
namespace Go.Proofs.Ytjpbdbgihakpmaa.Poly
open Go.RowKit F8
open GF (ret_bool ret_int ret_nat val_int refMul_calls refDiv_calls refDiv_zero)

/-- The calls with lengths of a name of their own. -/
theorem refPMul_len (A B : Option Addr) (p q : List F8) (m n c d : Nat) (w : World) (hm : p.length = m) (hn : q.length = n) (hb : Bytes w A (bs p)) (hb2 : Bytes w B (bs q)) (hl : m ≤ 100000000) (hl2 : n ≤ 100000000) :
    Calls Try.prog 108 #[.slice A m c, .slice B n d] w fun e w' => Res w w' e (trim (pmul p q)) := by
  subst hm hn; exact refPMul_calls A B p q c d w hb hb2 hl hl2
theorem refAdd_len (A B : Option Addr) (p q : List F8) (m n c d : Nat) (w : World) (hm : p.length = m) (hn : q.length = n) (hb : Bytes w A (bs p)) (hb2 : Bytes w B (bs q)) (hl : m ≤ 1000000000) (hl2 : n ≤ 1000000000) :
    Calls Try.prog 107 #[.slice A m c, .slice B n d] w fun e w' => Res w w' e (trim (padd p q)) := by
  subst hm hn; exact refAdd_calls A B p q c d w hb hb2 hl hl2

set_option maxRecDepth 100000 in
set_option maxHeartbeats 1600000 in
theorem refAt_calls (A : Option Addr) (p : List F8) (m c : Nat) (x : F8) (w : World) (hm : p.length = m) (hb : Bytes w A (bs p)) (hl : m ≤ 1000000000) :
    Calls Try.prog 75 #[.slice A m c, .int .u8 x.n] w fun e w' => e = .returned (.int .u8 (eval p x).n) ∧ w = w' := by
  subst hm
  have HB := Lib.hid hb
  clear hb
  go_enter Try.func75, Try.ntmps75
  go_wp2
  go_loop [5, 6, 7] (fun y pw i => ∃ k : Nat, k ≤ p.length ∧ i = .int .i64 k ∧ y = .int .u8 (eval (p.take k) x).n ∧ pw = .int .u8 (xpow x k).n) (fun _ _ i => p.length - (intOf i).toNat)
  case atStart => exact ⟨0, by omega, rfl, rfl, rfl⟩
  case round =>
    obtain ⟨k, hk, rfl, rfl, rfl⟩ := hrel
    by_cases hlt : k < p.length
    · obtain ⟨b, off, rfl⟩ := where_ HB.out (by omega)
      have hc := cellAt HB.out k hlt
      have HX := Lib.hid (xor_u8 (eval (p.take k) x) (coef p k * xpow x k))
      have HE : Hid (eval (p.take k) x + coef p k * xpow x k = eval (p.take (k + 1)) x) := Lib.hid (by
        rw [take_succ' p hlt, ← coef_of_lt hlt, eval_snoc, List.length_take, Nat.min_eq_left hk])
      have HP : Hid (xpow x k * x = xpow x (k + 1)) := Lib.hid (F8.mul_comm _ _)
      have m1 := refMul_f (coef p k) (xpow x k)
      have m2 := refMul_f (xpow x k) x
      go_wp2_with (go_at_call 95; (first | (with_reducible refine (m1 _).mono ?_) | (with_reducible refine (m2 _).mono ?_)); rintro e w' ⟨rfl, rfl⟩)
      go_round
      case rel => exact ⟨k + 1, by omega, by go_num, by rw [HX.out, HE.out], by rw [HP.out]⟩
      case measure => simp [intOf]; omega
    · obtain rfl : k = p.length := by omega
      go_wp2
      go_ret
      exact ⟨rfl, rfl⟩

theorem lit2 (w : World) (x : F8) : Bytes (w.alloc (.cells #[.int .u8 x.n, .int .u8 1] 5)) (some ⟨w.heap.size, 0, none⟩) (bs [x, 1]) :=
  ⟨Row.new w #[.int .u8 (x.n : Int), .int .u8 1] 5 (0, 0), bs_lt _⟩
theorem own1 (w : World) (B : Nat) (hB : B ≤ w.heap.size) : Own (w.alloc (.cells #[.int .u8 1] 5)) B 5 (.slice (some ⟨w.heap.size, 0, none⟩) 1 1) (bv (bs [1])) :=
  Own.lit w B 5 #[.int .u8 1] 1 hB rfl (by simp [maxLen])
theorem trim_one : trim [1] = [1] := trim_snoc [] 1 one_ne_zero
theorem roots_length (xs : List F8) : (trim (roots xs)).length = xs.length + 1 := len_roots xs

set_option maxRecDepth 100000 in
set_option maxHeartbeats 1600000 in
theorem refRoots_calls (A : Option Addr) (p : List F8) (m c : Nat) (w : World) (hm : p.length = m) (hb : Bytes w A (bs p)) (hl : m ≤ 10000000) :
    Calls Try.prog 105 #[.slice A m c] w fun e w' => Res w w' e (trim (roots p)) := by
  subst hm
  have HB := Lib.hid hb
  clear hb
  have HO0 := Lib.hid (own1 w w.heap.size (Nat.le_refl _))
  go_enter Try.func105, Try.ntmps105
  go_wp2
  go_loopw [3, 4] (fun out i wr => ∃ k : Nat, k ≤ p.length ∧ i = .int .i64 k ∧ Hid (Own wr w.heap.size 5 out (bv (bs (trim (roots (p.take k)))))) ∧ Below w.heap.size w wr) (fun _ i _ => p.length - (intOf i).toNat)
  case atStart => exact ⟨0, by omega, rfl, by rw [List.take_zero]; show Hid (Own _ _ _ _ (bv (bs (trim [1])))); rw [trim_one]; exact HO0, (Below.refl _ _).alloc (Nat.le_refl _) _⟩
  case round =>
    clear HO0
    obtain ⟨k, hk, rfl, HO, HW⟩ := hrel
    have hsz := HW.size
    by_cases hlt : k < p.length
    · obtain ⟨b, off, rfl⟩ := where_ HB.out (by omega)
      have hc := cellAt (HB.out.below HW) k hlt
      have HL := Lib.hid (lit2 wr (coef p k))
      have HE : Hid (trim (pmul (trim (roots (p.take k))) [coef p k, 1]) = trim (roots (p.take (k + 1)))) := Lib.hid (by
        rw [take_succ' p hlt, ← coef_of_lt hlt]
        exact trim_congr ((pmul_congr_left _ (trim_eqv _)).trans (roots_snoc _ _).symm))
      have hrl := roots_length (p.take k)
      rw [List.length_take, Nat.min_eq_left hk] at hrl
      have HO1 := Lib.hid (HO.out.alloc (.cells #[.int .u8 (coef p k).n, .int .u8 1] 5))
      obtain ⟨o, ho⟩ : ∃ o, trim (roots (p.take k)) = o := ⟨_, rfl⟩
      rw [ho] at HO1 HE hrl
      obtain ⟨A2, c2, rfl, hc2⟩ := Own.shape HO1.out
      have hol : o.length ≤ 100000000 := by omega
      clear ho HO hrl
      go_wp2_with (go_at_call 108; (with_reducible refine (refPMul_len A2 (some ⟨wr.heap.size, 0, none⟩) o [coef p k, 1] o.length 2 c2 2 _ rfl rfl (Own.bytes HO1.out) HL.out hol (by decide)).mono ?_); rintro e w3 ⟨A4, c4, rfl, hc4, hO4, hB4⟩; rw [HE.out] at hO4 hc4 ⊢; have HO4 := Lib.hid (hO4.more (by simp; omega : w.heap.size ≤ _)); have HB4 := Lib.hid ((HW.alloc hsz _).trans (hB4.mono (by simp; omega))); clear hO4 hB4)
      go_roundw
      case rel => exact ⟨k + 1, by omega, by go_num, HO4, HB4.out⟩
      case measure => simp [intOf]; omega
    · obtain rfl : k = p.length := by omega
      have HT : Hid (p.take p.length = p) := Lib.hid List.take_length
      rw [HT.out] at HO
      clear hlt hk HT
      go_wp2
      go_ret
      exact Res.mk HO.out HW

theorem refDiv_f (a b : F8) (hb : b ≠ 0) (w : World) : Calls Try.prog 106 #[.int .u8 a.n, .int .u8 b.n] w fun e w' => e = .returned (.tuple #[.int .u8 (a / b).n, .bool true]) ∧ w' = w :=
  (refDiv_calls a.n b.n a.h b.h (n_ne_zero.2 hb) w).mono fun _ _ ⟨h1, h2⟩ => ⟨h1, h2.symm⟩
theorem refTrim_len (A : Option Addr) (p : List F8) (m c : Nat) (w : World) (hm : p.length = m) (hb : Bytes w A (bs p)) (hc : m ≤ c) (hl : m ≤ 1000000000) :
    Calls Try.prog 124 #[.slice A m c] w fun e w' => Res w w' e (trim p) := by
  subst hm; exact refTrim_calls A p c w hb hc hl
/-- Quotient and rest in memory of the call's own. -/
def Res2 (w w' : World) (e : Ending) (q r : List F8) : Prop :=
  ∃ A c B d, e = .returned (.tuple #[.slice A q.length c, .slice B r.length d, .int .i64 0]) ∧ q.length ≤ c ∧ r.length ≤ d ∧ Own w' w.heap.size 5 (.slice A q.length c) (bv (bs q)) ∧ Own w' w.heap.size 5 (.slice B r.length d) (bv (bs r)) ∧ Below w.heap.size w w'

def sl (v : Value) : Nat := match v with
  | .slice _ n _ => n
  | _ => 0
end Go.Proofs.Ytjpbdbgihakpmaa.Poly
