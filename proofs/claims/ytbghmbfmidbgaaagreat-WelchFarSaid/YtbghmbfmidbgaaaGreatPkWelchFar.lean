/- WelchFar, for every input: the frame round the walk; the argument lists are opened, the walk's contract is met, what was read reads as it did. -/
import Derived.Test.YtbghmbfmidbgaaaGreatPk21
import Derived.Test.YtbghmbfmidbgaaaGreatPk20
import Derived.Test.YtbghmbfmidbgaaaGreatRows
import Derived.Test.YtbghmbfmidbgaaaGreatPk42
import Derived.Test.YtbghmbfmidbgaaaGreatPk41
import Derived.WalkKit
import Derived.ProofKit
import Derived.OpenShut
import Derived.ShutString
import Derived.ChangeOld
import Derived.Below
import Derived.Deep.DeepHandedRow
import Derived.SizedLaws
/- The walk of WelchFar. -/
namespace Go.Proofs.YtbghmbfmidbgaaaGreat.welchFar
open Go.RowKit F8 GF Poly Rd Wl

set_option maxRecDepth 100000 in
set_option maxHeartbeats 4000000 in
theorem core (T : Wl.Spec) (w : World) (A : Option Addr) (p : List F8) (m c : Nat) (B : Option Addr) (q : List F8) (n d : Nat) (C : Option Addr) (r : List F8) (o b : Nat) (hm : p.length = m) (hbp : Bytes w A (bs p)) (hc : m ≤ c) (hn : q.length = n) (hbq : Bytes w B (bs q)) (hd : n ≤ d) (ho : r.length = o) (hbr : Bytes w C (bs r)) (hb : o ≤ b) (hm9 : m ≤ 9223372036854775807) (hn9 : n ≤ 9223372036854775807) (ho9 : o ≤ 9223372036854775807) :
    Calls Tryz.prog 4 #[.slice A m c, .slice B n d, .slice C o b] w fun e w' => e = .returned (.bool true) ∧ Below w.heap.size w w' := by
  by_cases g0 : 200 < m
  · go_enter Tryz.func4, Tryz.ntmps4
    go_wp2_with (go_at_call 10; (with_reducible refine (works_calls T _).mono ?_); rintro e w1 ⟨rfl, HN⟩)
    go_ret
    exact ⟨rfl, HN⟩
  have k0 : m ≤ 200 := by omega
  clear g0
  by_cases g1 : 200 < n
  · go_enter Tryz.func4, Tryz.ntmps4
    go_wp2_with (go_at_call 10; (with_reducible refine (works_calls T _).mono ?_); rintro e w1 ⟨rfl, HN⟩)
    go_ret
    exact ⟨rfl, HN⟩
  have k1 : n ≤ 200 := by omega
  clear g1
  by_cases g2 : 200 < o
  · go_enter Tryz.func4, Tryz.ntmps4
    go_wp2_with (go_at_call 10; (with_reducible refine (works_calls T _).mono ?_); rintro e w1 ⟨rfl, HN⟩)
    go_ret
    exact ⟨rfl, HN⟩
  have k2 : o ≤ 200 := by omega
  clear g2
  obtain ⟨x, hx⟩ : ∃ x, far p q = x := ⟨_, rfl⟩
  obtain ⟨y, hy⟩ : ∃ y, far p r = y := ⟨_, rfl⟩
  obtain ⟨z, hz⟩ : ∃ z, far r q = z := ⟨_, rfl⟩
  have hx2 : far q p = x := by rw [far_comm, hx]
  have htri : x ≤ y + z := by rw [← hx, ← hy, ← hz]; exact far_tri p q r
  have hzero : decide (p = q) = decide (x = 0) := by rw [decide_eq_decide, ← hx, far_zero]
  have lx := far_le p q
  have ly := far_le p r
  have lz := far_le r q
  rw [hx, hm, hn] at lx
  rw [hy, hm, ho] at ly
  rw [hz, ho, hn] at lz
  have hx3 : x ≤ 200 := by omega
  have hy3 : y ≤ 200 := by omega
  have hz3 : z ≤ 200 := by omega
  have KF1 := Lib.hid (fun v hv => T.farP A p m c B q n d v hm (hbp.below hv) hc (by omega) hn (hbq.below hv) hd (by omega))
  have KF2 := Lib.hid (fun v hv => refFar_calls A p m c B q n d v hm (hbp.below hv) (by omega) hn (hbq.below hv) (by omega))
  have KF3 := Lib.hid (fun v hv => T.farP B q n d A p m c v hn (hbq.below hv) hd (by omega) hm (hbp.below hv) hc (by omega))
  have KF4 := Lib.hid (fun v hv => T.farP A p m c C r o b v hm (hbp.below hv) hc (by omega) ho (hbr.below hv) hb (by omega))
  have KF5 := Lib.hid (fun v hv => T.farP C r o b B q n d v ho (hbr.below hv) hb (by omega) hn (hbq.below hv) hd (by omega))
  have KS := Lib.hid (fun v hv => same_calls A B p q m n c d v hm hn (hbp.below hv) (hbq.below hv))
  rw [hx] at KF1 KF2
  rw [hx2] at KF3
  rw [hy] at KF4
  rw [hz] at KF5
  rw [hzero] at KS
  have hxx : ((x : Int) == (x : Int)) = true := by simp
  have htri2 : (x : Int) ≤ (y : Int) + (z : Int) := by omega
  clear hbp hbq hbr hx hy hz hx2 hzero lx ly lz hm hn ho hc hd hb
  go_enter Tryz.func4, Tryz.ntmps4
  go_wp2_with fail
  refine (KF1.out _ (Below.refl _ _)).mono ?_
  rintro e w1 ⟨rfl, hB⟩
  have HB := Lib.hid hB
  clear hB
  go_wp2_with fail
  refine (KF2.out _ HB.out).mono ?_
  rintro e w2 ⟨rfl, hB⟩
  replace HB := Lib.hid (HB.out.trans (hB.mono HB.out.size))
  clear hB
  go_wp2_with fail
  refine (KF3.out _ HB.out).mono ?_
  rintro e w3 ⟨rfl, hB⟩
  replace HB := Lib.hid (HB.out.trans (hB.mono HB.out.size))
  clear hB
  by_cases hx0 : x = 0
  all_goals
    first | (have hb0 : ((x : Int) == 0) = true := by simp [hx0]) | (have hb0 : ((x : Int) == 0) = false := by simp; omega)
    first | (have hd0 : decide (x = 0) = true := by simp [hx0]) | (have hd0 : decide (x = 0) = false := by simp [hx0])
    rw [hd0] at KS
    clear hx0 hd0
    go_wp2_with fail
    refine (KS.out _ HB.out).mono ?_
    rintro e w4 ⟨rfl, rfl⟩
    go_wp2_with fail
    refine (KF4.out _ HB.out).mono ?_
    rintro e w4 ⟨rfl, hB⟩
    replace HB := Lib.hid (HB.out.trans (hB.mono HB.out.size))
    clear hB
    go_wp2_with fail
    refine (KF5.out _ HB.out).mono ?_
    rintro e w5 ⟨rfl, hB⟩
    replace HB := Lib.hid (HB.out.trans (hB.mono HB.out.size))
    clear hB
    go_wp2_with (go_at_call 10; (with_reducible refine (works_calls T _).mono ?_); rintro e w6 ⟨rfl, HN⟩)
    go_ret
    exact ⟨rfl, HB.out.trans (HN.mono HB.out.size)⟩
theorem walk (T : Wl.Spec) (w : World) (A0 : Option Addr) (l0 : List Nat) (c0 : Nat) (hb0 : Bytes w A0 l0) (hc0 : l0.length ≤ c0) (hm0 : c0 ≤ 9223372036854775807) (A1 : Option Addr) (l1 : List Nat) (c1 : Nat) (hb1 : Bytes w A1 l1) (hc1 : l1.length ≤ c1) (hm1 : c1 ≤ 9223372036854775807) (A2 : Option Addr) (l2 : List Nat) (c2 : Nat) (hb2 : Bytes w A2 l2) (hc2 : l2.length ≤ c2) (hm2 : c2 ≤ 9223372036854775807) :
    Calls Tryz.prog 4 #[.slice A0 l0.length c0, .slice A1 l1.length c1, .slice A2 l2.length c2] w fun e w' => e = .returned (.bool true) ∧ Below w.heap.size w w' := by
  obtain ⟨p0, rfl⟩ := of_bytes l0 hb0.lt
  obtain ⟨p1, rfl⟩ := of_bytes l1 hb1.lt
  obtain ⟨p2, rfl⟩ := of_bytes l2 hb2.lt
  exact core T w A0 p0 _ c0 A1 p1 _ c1 A2 p2 _ c2 (bs_length p0).symm hb0 hc0 (bs_length p1).symm hb1 hc1 (bs_length p2).symm hb2 hc2 (by omega) (by omega) (by omega)
end Go.Proofs.YtbghmbfmidbgaaaGreat.welchFar

/- WelchFar, for every input: the frame round the walk; the argument lists are opened, the walk's contract is met, what was read reads as it did. -/
namespace Go.Proofs.YtbghmbfmidbgaaaGreat.welchFar
open Go.ChangeShapes Go.WideShapes Go.ChangeAt Go.RowKit
open Go.ChangeMaps (open_string shut_string)
set_option linter.unusedVariables false
theorem own : ownKnob Tryz.prog.godebug = none := by kernel_rfl
theorem laidOut : laidOutB Tryz.prog = true := by kernel_rfl

set_option maxRecDepth 100000 in
theorem contract (H : Type) (enc : TypeId × Value → H) (W : World) (base : Nat) (args : Array Value) (ds gs : List (DataW H)) (before : List MemPlace)
    (hval : ∀ (j : Nat) t v, Tryz.f4.params[j]? = some t → args[j]? = some v → Value.okWide Tryz.prog W .any base t v)
    (hW : DataW.Whole enc Tryz.prog Tryz.f4.params.toList Rows.welchFarSpec.vars false W args.toList ds gs before)
    (hsz : (DataW.weightsEach Tryz.prog (Tryz.f4.params.toList ++ Rows.welchFarSpec.plain.varTypes Tryz.prog) (ds ++ gs)).all (· ≤ reachBytes) = true) :
    Calls Tryz.prog 4 args W fun e W' => ∃ v, e = .returned v ∧ Rows.welchFarSpec.post enc Tryz.prog Tryz.f4 false true false false W args v W' := by
  have hW' := hW
  obtain ⟨p, q, hA0, hV, rfl, hfz, hnd⟩ := hW
  have hA : DataW.TrodAll enc Tryz.prog W 0 (fun _ => true) true Tryz.f4.params.toList args.toList ds p := hA0
  rw [Tryz.params4] at hA hval hsz
  obtain ⟨v0, vs0, d0, ds0, p0, q0, hargs, rfl, rfl, h0, r0⟩ := trodAll_cons hA
  obtain ⟨v1, vs1, d1, ds1, p1, q1, rfl, rfl, rfl, h1, r1⟩ := trodAll_cons r0
  obtain ⟨v2, vs2, d2, ds2, p2, q2, rfl, rfl, rfl, h2, r2⟩ := trodAll_cons r1
  obtain ⟨rfl, rfl, rfl⟩ := trodAll_nil r2
  obtain rfl : args = #[v0, v1, v2] := by cases args; simp_all
  obtain ⟨rfl, rfl⟩ := trodVars_none hV
  obtain ⟨A0, len0, c0, rfl⟩ := okWide_slice Tryz.underlying22 (hval 0 22 v0 rfl rfl)
  have k0 := h0
  have lt0 : ∀ x ∈ p0, x.block < W.heap.size := by obtain ⟨m, hm⟩ := k0; exact DataW.trod_lt m _ _ _ hm
  obtain ⟨l0, rfl, hb0, hc0, hm0⟩ : ∃ l : List Nat, len0 = l.length ∧ Bytes W A0 l ∧ l.length ≤ c0 ∧ c0 ≤ 9223372036854775807 := by
    obtain ⟨fuel, hf⟩ := h0
    rcases open_ints Tryz.underlying22 Tryz.underlying5 (by kernel_rfl) hf with ⟨hcs, _⟩ | ⟨x, l, c, zs, hcs, _, hl, hm, hz, _, hcell, hwz⟩
    · simp [Value.cells] at hcs
      obtain ⟨rfl, rfl, rfl⟩ := hcs
      exact ⟨[], rfl, Bytes.nil _ _, by simp, by simp⟩
    · simp [Value.cells] at hcs
      obtain ⟨rfl, rfl, rfl⟩ := hcs
      obtain ⟨h1, h2⟩ := bytes_of hl (by simpa using hz) hcell hwz
      exact ⟨_, h2.symm, h1, by rw [h2]; exact hl, by have h := hm; simp only [maxLen] at h; omega⟩
  obtain ⟨A1, len1, c1, rfl⟩ := okWide_slice Tryz.underlying22 (hval 1 22 v1 rfl rfl)
  have k1 := h1
  have lt1 : ∀ x ∈ p1, x.block < W.heap.size := by obtain ⟨m, hm⟩ := k1; exact DataW.trod_lt m _ _ _ hm
  obtain ⟨l1, rfl, hb1, hc1, hm1⟩ : ∃ l : List Nat, len1 = l.length ∧ Bytes W A1 l ∧ l.length ≤ c1 ∧ c1 ≤ 9223372036854775807 := by
    obtain ⟨fuel, hf⟩ := h1
    rcases open_ints Tryz.underlying22 Tryz.underlying5 (by kernel_rfl) hf with ⟨hcs, _⟩ | ⟨x, l, c, zs, hcs, _, hl, hm, hz, _, hcell, hwz⟩
    · simp [Value.cells] at hcs
      obtain ⟨rfl, rfl, rfl⟩ := hcs
      exact ⟨[], rfl, Bytes.nil _ _, by simp, by simp⟩
    · simp [Value.cells] at hcs
      obtain ⟨rfl, rfl, rfl⟩ := hcs
      obtain ⟨h1, h2⟩ := bytes_of hl (by simpa using hz) hcell hwz
      exact ⟨_, h2.symm, h1, by rw [h2]; exact hl, by have h := hm; simp only [maxLen] at h; omega⟩
  obtain ⟨A2, len2, c2, rfl⟩ := okWide_slice Tryz.underlying22 (hval 2 22 v2 rfl rfl)
  have k2 := h2
  have lt2 : ∀ x ∈ p2, x.block < W.heap.size := by obtain ⟨m, hm⟩ := k2; exact DataW.trod_lt m _ _ _ hm
  obtain ⟨l2, rfl, hb2, hc2, hm2⟩ : ∃ l : List Nat, len2 = l.length ∧ Bytes W A2 l ∧ l.length ≤ c2 ∧ c2 ≤ 9223372036854775807 := by
    obtain ⟨fuel, hf⟩ := h2
    rcases open_ints Tryz.underlying22 Tryz.underlying5 (by kernel_rfl) hf with ⟨hcs, _⟩ | ⟨x, l, c, zs, hcs, _, hl, hm, hz, _, hcell, hwz⟩
    · simp [Value.cells] at hcs
      obtain ⟨rfl, rfl, rfl⟩ := hcs
      exact ⟨[], rfl, Bytes.nil _ _, by simp, by simp⟩
    · simp [Value.cells] at hcs
      obtain ⟨rfl, rfl, rfl⟩ := hcs
      obtain ⟨h1, h2⟩ := bytes_of hl (by simpa using hz) hcell hwz
      exact ⟨_, h2.symm, h1, by rw [h2]; exact hl, by have h := hm; simp only [maxLen] at h; omega⟩
  clear hA0
  refine (walk (Wl.spec Poly.spec) W A0 l0 c0 hb0 hc0 hm0 A1 l1 c1 hb1 hc1 hm1 A2 l2 c2 hb2 hc2 hm2 ).mono fun e W' ⟨he, bel⟩ => ?_
  subst he
  exact ⟨_, rfl, _, _, _, [], _, [], hW', trodAll_mk1 (shut_bool Tryz.underlying4 _), (trodAll_cons_mk (Below.trod laidOut (by kernel_rfl) (of_decide_eq_true (by kernel_rfl)) k0 bel lt0) (trodAll_cons_mk (Below.trod laidOut (by kernel_rfl) (of_decide_eq_true (by kernel_rfl)) k1 bel lt1) (trodAll_cons_mk (Below.trod laidOut (by kernel_rfl) (of_decide_eq_true (by kernel_rfl)) k2 bel lt2) trodAll_mk0))), rfl, bel.frame _, fun h => by cases h⟩

set_option maxRecDepth 100000 in
theorem lifted (os : Os) (started : os.Started) (H : Type) (enc : TypeId × Value → H) :
    ReturnsInHanded {} Tryz.checked os 4 .any (Rows.welchFarSpec.pre6 enc Tryz.prog Tryz.f4 Rows.welchFarRow.domain false) (Rows.welchFarSpec.post enc Tryz.prog Tryz.f4 false true false false) := by
  refine returnsInHanded_of_change_sized (C := Tryz.checked) own started (by kernel_rfl) Tryz.func4
    (ChangeSpec.witness6 (enc := enc) (C := Tryz.checked) false ⟨#[], #[.slice none 0 0, .slice none 0 0, .slice none 0 0], []⟩ 8 (by kernel_rfl) (by kernel_rfl) (by kernel_rfl) (by kernel_rfl)) ?_
  intro W base args ds gs before hval hW _ hsz _
  exact contract H enc W base args ds gs before hval hW hsz

/-- THE STATEMENT. -/
theorem proved : Rows.WelchFarSaid :=
  OpenClaim.holds_of_wide 4 Tryz.f4 rfl rfl rfl rfl rfl rfl rfl ⟨rfl, rfl, rfl, rfl, rfl⟩ rfl rfl rfl rfl rfl (by kernel_rfl) Tryz.func4 (by kernel_rfl)
    (of_decide_eq_true (by kernel_rfl)) (by unfold Func.isWrapper; first | (rw [if_pos (by decide +kernel)]; kernel_rfl) | (rw [if_neg (by decide +kernel)]; exact ⟨rfl, rfl⟩))
    (fun os started H enc _ => lifted os started H enc)
end Go.Proofs.YtbghmbfmidbgaaaGreat.welchFar
