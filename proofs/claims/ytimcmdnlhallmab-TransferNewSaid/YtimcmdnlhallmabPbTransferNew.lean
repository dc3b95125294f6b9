/- TransferNew, for every input: the frame round the walk; the argument lists are opened, the walk's contract is met, what was read reads as it did. -/
import Derived.Test.YtimcmdnlhallmabPb10
import Derived.Test.YtimcmdnlhallmabRows
import Derived.Test.YtimcmdnlhallmabPb11
import Derived.WalkKit
import Derived.ProofKit
import Derived.OpenShut
import Derived.ShutString
import Derived.ChangeOld
import Derived.Below
import Derived.Deep.DeepHandedRow
import Derived.SizedLaws
namespace Go.Proofs.Ytimcmdnlhallmab.transferNew
open Go.RowKit Go.Shelf F8 GF Poly Rd Ms Tr
attribute [local go_sem] Oper.semAt_some
set_option maxRecDepth 100000 in
set_option maxHeartbeats 8000000 in
theorem walk (PS : Poly.Spec) (w : World) (n : Int) (hl0 : -9223372036854775808 ≤ n) (hn0 : n < 9223372036854775808) (k : Int) (hl1 : -9223372036854775808 ≤ k) (hn1 : k < 9223372036854775808) :
  Calls Try.prog 3 #[.int .i64 n, .int .i64 k] w fun e w' => e = .returned (.bool true) ∧ Below w.heap.size w w' := by
 have HMd0 : Hid (∀ w1, w1 = w.alloc (.cells (fcells 0 0 0) 79) → _) := Lib.hid fun w1 hw1 => made n k w w1 hw1 hl0 hn0 hl1 hn1
 have HRf := Lib.hid fun W => refNew_calls n k W
 clear hl0 hn0 hl1 hn1
 go_enter Try.func3, Try.ntmps3
 go_wp2_with fail
 refine (GF.new_calls w).mono ?_
 rintro e w1 ⟨rfl, hw1⟩
 have HMd := Lib.hid (HMd0.out w1 hw1)
 clear hw1 HMd0
 go_wp2_with fail
 refine HMd.out.mono ?_
 clear HMd
 rintro e w2 (⟨hgood, S, hL, -, rfl⟩ | ⟨hbad, rfl, HBz⟩)
 rotate_left
 ·have HBz := Lib.hid HBz
  have HRf2 : Hid (∀ W, Calls Try.prog 9 #[.agg #[.int .i64 n, .int .i64 k]] W fun e w' => e = .returned (.int .i64 2) ∧ Below W.heap.size W w') := Lib.hid fun W => (HRf.out W).mono fun e w' h => ⟨by have := h.1; rw [refN, if_neg hbad] at this; exact this, h.2⟩
  have HA := Lib.hid (HBz.out.alloc HBz.out.size (.cells #[.int .i64 n, .int .i64 k] 29))
  clear HBz HRf hbad
  go_wp2_with (first
   | (go_at_call 9; (with_reducible refine (HRf2.out _).mono ?_); rintro e w3 ⟨rfl, h3⟩; have HB3 := Lib.hid (HA.out.trans (h3.mono HA.out.size)); clear h3)
   | (go_at_call 10; (with_reducible refine (works_calls PS _).mono ?_); rintro e wz ⟨rfl, HZ⟩))
  go_ret
  exact ⟨rfl, HB3.out.trans (HZ.mono HB3.out.size)⟩
 ·have HRf2 : Hid (∀ W, Calls Try.prog 9 #[.agg #[.int .i64 n, .int .i64 k]] W fun e w' => e = .returned (.int .i64 0) ∧ Below W.heap.size W w') := Lib.hid fun W => (HRf.out W).mono fun e w' h => ⟨by have := h.1; rw [refN, if_pos hgood] at this; exact this, h.2⟩
  have hn := hL.en
  have hk := hL.ek
  obtain ⟨a, ha⟩ : ∃ a : Int, n - 1 = a := ⟨_, rfl⟩
  obtain ⟨mb, hmb⟩ : ∃ mb : Int, ((rs S.n S.k : Nat) : Int) = mb := ⟨_, rfl⟩
  have hax : IntKind.i64.wrap (n - 1) = a := by rw [ha]; exact IntWalk.i64_in _ (by have := hgood.1; have := hgood.2.1; have := hgood.2.2; omega)
  have HAl : Hid (∀ W, Lw S w W → Calls Try.prog 11 #[.pointer (some ⟨S.b, 0, none⟩)] W fun e w' => e = .returned (.int .i64 a) ∧ W = w') := Lib.hid fun W h => by
   have := alpha_calls h.ok
   have hkn := h.ok.kn
   rw [show ((S.n - 1 : Nat) : Int) = a by omega] at this
   exact this
  have HB : Hid (∀ W, Lw S w W → Calls Try.prog 12 #[.pointer (some ⟨S.b, 0, none⟩)] W fun e w' => e = .returned (.int .i64 mb) ∧ Below W.heap.size W w') := Lib.hid fun W h => by
   have := b_calls h.ok
   unfold Tc.B at this
   rw [hmb] at this
   exact this
  have HRb : Hid (∀ W, Calls Try.prog 13 #[.agg #[.int .i64 n, .int .i64 k]] W fun e w' => e = .returned (.int .i64 mb) ∧ Below W.heap.size W w') := Lib.hid fun W => by
   have := refB_calls hL.lw.ok.n24 hL.lw.ok.kn W
   rw [hn, hk, hmb] at this
   exact this
  have HL2 := Lib.hid (hL.lw.below ((Below.refl _ _).alloc (Nat.le_refl _) (.cells #[.int .i64 n, .int .i64 k] 29)))
  have HC2 := Lib.hid (C2.new w2 n k)
  clear HRf hgood hL hn hk ha hmb
  go_wp2_with (go_at_call 9; (with_reducible refine (HRf2.out _).mono ?_); rintro e w3 ⟨rfl, h3⟩; have HL3 := Lib.hid (HL2.out.below h3); have HC3 := Lib.hid (C2.below HC2.out h3); clear h3)
  have HE := Lib.hid (HL3.out.below (Below.refl _ _).drew)
  have HC := Lib.hid (C2.below HC3.out (Below.refl _ _).drew)
  clear HRf2 HL2 HC2 HL3 HC3
  go_region_held (fun V => V.cell? ⟨w2.heap.size, 0, none⟩ = some (.int .i64 n) ∧ V.cell? ⟨w2.heap.size, 1, none⟩ = some (.int .i64 k)) (with_reducible exact HC.out)
   ((first
    | (go_at_call 11; (with_reducible refine (HAl.out _ HE.out).mono ?_); rintro e9 w9 ⟨rfl, rfl⟩)
    | (go_at_call 13; (with_reducible refine (HRb.out _).mono ?_); rintro e9 w9 ⟨rfl, hb9⟩; replace HC := Lib.hid (C2.below HC.out hb9); replace HE := Lib.hid (HE.out.below hb9); clear hb9)
    | (go_at_call 12; (with_reducible refine (HB.out _ HE.out).mono ?_); rintro e9 w9 ⟨rfl, hb9⟩; replace HC := Lib.hid (C2.below HC.out hb9); replace HE := Lib.hid (HE.out.below hb9); clear hb9)
    | (go_at_call 10; (with_reducible refine (works_calls PS _).mono ?_); rintro e9 w9 ⟨rfl, hb9⟩; replace HC := Lib.hid (C2.below HC.out hb9); replace HE := Lib.hid (HE.out.below hb9); clear hb9)))
  go_wp2_with fail
  go_ret
  exact ⟨rfl, HE.out.bel⟩
end Go.Proofs.Ytimcmdnlhallmab.transferNew

namespace Go.Proofs.Ytimcmdnlhallmab.transferNew
open Go.ChangeShapes Go.WideShapes Go.ChangeAt Go.RowKit
open Go.ChangeMaps (open_string shut_string)
set_option linter.unusedVariables false
theorem own : ownKnob Try.prog.godebug = none := by kernel_rfl
theorem laidOut : laidOutB Try.prog = true := by kernel_rfl
set_option maxRecDepth 100000 in
theorem contract (H : Type) (enc : TypeId × Value → H) (W : World) (base : Nat) (args : Array Value) (ds gs : List (DataW H)) (before : List MemPlace)
  (hval : ∀ (j : Nat) t v, Try.f3.params[j]? = some t → args[j]? = some v → Value.okWide Try.prog W .any base t v)
  (hW : DataW.Whole enc Try.prog Try.f3.params.toList Rows.transferNewSpec.vars false W args.toList ds gs before)
  (hsz : (DataW.weightsEach Try.prog (Try.f3.params.toList ++ Rows.transferNewSpec.plain.varTypes Try.prog) (ds ++ gs)).all (· ≤ reachBytes) = true) :
  Calls Try.prog 3 args W fun e W' => ∃ v, e = .returned v ∧ Rows.transferNewSpec.post enc Try.prog Try.f3 false true false false W args v W' := by
 have hW' := hW
 obtain ⟨p, q, hA0, hV, rfl, hfz, hnd⟩ := hW
 have hA : DataW.TrodAll enc Try.prog W 0 (fun _ => true) true Try.f3.params.toList args.toList ds p := hA0
 rw [Try.params3] at hA hval hsz
 obtain ⟨v0, vs0, d0, ds0, p0, q0, hargs, rfl, rfl, h0, r0⟩ := trodAll_cons hA
 obtain ⟨v1, vs1, d1, ds1, p1, q1, rfl, rfl, rfl, h1, r1⟩ := trodAll_cons r0
 obtain ⟨rfl, rfl, rfl⟩ := trodAll_nil r1
 obtain rfl : args = #[v0, v1] := by cases args; simp_all
 obtain ⟨rfl, rfl⟩ := trodVars_none hV
 obtain ⟨n0, rfl, rfl, rfl, w0⟩ := open_int Try.underlying3 (hval 0 3 v0 rfl rfl) h0
 have b0 := wf_bounds_i64 w0
 obtain ⟨n1, rfl, rfl, rfl, w1⟩ := open_int Try.underlying3 (hval 1 3 v1 rfl rfl) h1
 have b1 := wf_bounds_i64 w1
 clear hA0
 refine (walk Poly.spec W n0 b0.1 b0.2 n1 b1.1 b1.2 ).mono fun e W' ⟨he, bel⟩ => ?_
 subst he
 exact ⟨_, rfl, _, _, _, [], _, [], hW', trodAll_mk1 (shut_bool Try.underlying4 _), (trodAll_cons_mk (shut_int Try.underlying3 w0) (trodAll_cons_mk (shut_int Try.underlying3 w1) trodAll_mk0)), rfl, bel.frame _, fun h => by cases h⟩
set_option maxRecDepth 100000 in
theorem lifted (os : Os) (started : os.Started) (H : Type) (enc : TypeId × Value → H) :
  ReturnsInHanded {} Try.checked os 3 .any (Rows.transferNewSpec.pre6 enc Try.prog Try.f3 Rows.transferNewRow.domain false) (Rows.transferNewSpec.post enc Try.prog Try.f3 false true false false) := by
 refine returnsInHanded_of_change_sized (C := Try.checked) own started (by kernel_rfl) Try.func3
  (ChangeSpec.witness6 (enc := enc) (C := Try.checked) false ⟨#[], #[.int .i64 0, .int .i64 0], []⟩ 8 (by kernel_rfl) (by kernel_rfl) (by kernel_rfl) (by kernel_rfl)) ?_
 intro W base args ds gs before hval hW _ hsz _
 exact contract H enc W base args ds gs before hval hW hsz
theorem proved : Rows.TransferNewSaid :=
 OpenClaim.holds_of_wide 3 Try.f3 rfl rfl rfl rfl rfl rfl rfl ⟨rfl, rfl, rfl, rfl, rfl⟩ rfl rfl rfl rfl rfl (by kernel_rfl) Try.func3 (by kernel_rfl)
  (of_decide_eq_true (by kernel_rfl)) (by unfold Func.isWrapper; first | (rw [if_pos (by decide +kernel)]; kernel_rfl) | (rw [if_neg (by decide +kernel)]; exact ⟨rfl, rfl⟩))
  (fun os started H enc _ => lifted os started H enc)
end Go.Proofs.Ytimcmdnlhallmab.transferNew
