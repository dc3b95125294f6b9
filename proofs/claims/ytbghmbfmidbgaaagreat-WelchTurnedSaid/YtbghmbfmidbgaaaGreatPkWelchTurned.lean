/- WelchTurned, for every input: the frame round the walk; the argument lists are opened, the walk's contract is met, what was read reads as it did. -/
import Derived.Test.YtbghmbfmidbgaaaGreatPk21
import Derived.Test.YtbghmbfmidbgaaaGreatPk20
import Derived.Test.YtbghmbfmidbgaaaGreatRows
import Derived.Test.YtbghmbfmidbgaaaGreatPk42
import Derived.Test.YtbghmbfmidbgaaaGreatPk41
import Derived.WalkKit
import Derived.ProofKit
import Derived.OpenShut
import Derived.ShutString
import Derived.ChangeOld
import Derived.Below
import Derived.Deep.DeepHandedRow
import Derived.SizedLaws
/- The walk of WelchTurned. -/
namespace Go.Proofs.YtbghmbfmidbgaaaGreat.welchTurned
open Go.RowKit Go.Shelf F8 GF Poly Rd Wl
attribute [local go_sem] Oper.semAt_some

theorem tmod_pick {i u : Int} (hu : 0 < u) : -u < i.tmod u ∧ i.tmod u < u ∧ (i.tmod u + u).tmod u = i % u := by
  have h1 : -u < i.tmod u ∧ i.tmod u < u := by
    have hr := Int.emod_nonneg i (b := u) (by omega)
    have hr2 := Int.emod_lt_of_pos i hu
    have hq := Int.emod_nonneg (-i) (b := u) (by omega)
    have hq2 := Int.emod_lt_of_pos (-i) hu
    rcases Int.le_total 0 i with h | h
    · rw [Int.tmod_eq_emod_of_nonneg h]; omega
    · have e := Int.neg_tmod (-i) u
      rw [Int.neg_neg] at e
      rw [e, Int.tmod_eq_emod_of_nonneg (by omega)]
      omega
  refine ⟨h1.1, h1.2, ?_⟩
  rw [Int.tmod_eq_emod_of_nonneg (by omega)]
  have e : i.tmod u + u = i + u * (1 - i.tdiv u) := by rw [Int.tmod_def, Int.mul_sub]; omega
  rw [e, Int.add_mul_emod_self_left]
set_option maxHeartbeats 1600000 in
theorem pick_calls (i : Int) (u s : Nat) (hu : 1 ≤ u) (hu2 : u ≤ 1000) (hs : (s : Int) = i % (u : Int)) (w : World) :
    Calls Tryz.prog 30 #[.int .i64 i, .int .i64 u] w fun e w' => e = .returned (.int .i64 s) ∧ w' = w := by
  obtain ⟨h1, h2, h3⟩ := tmod_pick (i := i) (u := (u : Int)) (by omega)
  obtain ⟨m, hm⟩ : ∃ m : Int, i.tmod (u : Int) = m := ⟨_, rfl⟩
  rw [hm] at h1 h2 h3
  have hw : IntKind.i64.wrap m = m := IntWalk.i64_in _ (by omega)
  have hne : (u : Int) ≠ 0 := by omega
  rw [← hs] at h3
  have hs2 : (s : Int) < (u : Int) := by rw [hs]; exact Int.emod_lt_of_pos _ (by omega)
  clear hs
  go_enter Tryz.func30, Tryz.ntmps30
  go_wp2
  go_ret
  exact ⟨rfl, rfl⟩

theorem rot_at {α : Type} {l : List α} {s i : Nat} (hs : s < l.length) (hi : i < l.length) (hr : i < (rot l s).length) : (rot l s)[i] = l[(i + s) % l.length]'(Nat.mod_lt _ (by omega)) := by
  have h := rot_get l hs hi
  rw [List.getElem?_eq_getElem hr, List.getElem?_eq_getElem (Nat.mod_lt _ (by omega))] at h
  exact Option.some.inj h
theorem drop_step {α : Type} {l : List α} {t : Nat} (h : t < l.length) : (l.drop t).reverse = (l.drop (t + 1)).reverse ++ [l[t]] := drop_snoc h
set_option maxRecDepth 100000 in
set_option maxHeartbeats 8000000 in
theorem core (T : Wl.Spec) (w : World) (n0 n1 : Nat) (h0 : n0 < 256) (h1 : n1 < 256) (P : Option Addr) (pl : List Int) (u v : Nat) (B : Option Addr) (q : List F8) (n d : Nat) (t : Nat) (ht : t < 256) (tn : Int) (_htn : -9223372036854775808 ≤ tn) (_htn2 : tn < 9223372036854775808) (hu : pl.length = u) (hrp : Row w P (zs pl)) (hn : q.length = n) (hbq : Bytes w B (bs q)) (hd : n ≤ d) :
    Calls Tryz.prog 8 #[.int .u8 (n0 : Nat), .int .u8 (n1 : Nat), .slice P u v, .slice B n d, .int .u8 (t : Nat), .int .i64 tn] w fun e w' => e = .returned (.bool true) ∧ Below w.heap.size w w' := by
  obtain ⟨N, hN⟩ : ∃ N : Nat, 1 + n0 % 12 = N := ⟨_, rfl⟩
  obtain ⟨K, hK⟩ : ∃ K : Nat, 1 + n1 % 12 = K := ⟨_, rfl⟩
  have eN : (1 : Int) + (n0 : Int) % 12 = (N : Int) := by omega
  have eK : (1 : Int) + (n1 : Int) % 12 = (K : Int) := by omega
  have hN12 : N ≤ 12 := by omega
  have hK12 : K ≤ 12 := by omega
  have hK1 : 1 ≤ K := by omega
  have HB := Lib.hid hbq
  have HRow := Lib.hid hrp
  have HU := Lib.hid hu
  have HNl := Lib.hid hn
  clear hbq hrp hu hn hN hK
  go_enter Tryz.func8, Tryz.ntmps8
  go_wp2_with fail
  refine (reed_calls N K (by omega) hK1 w).mono ?_
  clear eN eK h0 h1
  rintro e w1 hKR
  rcases hKR.start with ⟨hkn, b, A, c, rfl, -, -, HN⟩ | ⟨-, rfl, HBz⟩
  rotate_left
  · clear hKR
    go_wp2_with (go_at_call 10; (with_reducible refine (works_calls T _).mono ?_); rintro e wz ⟨rfl, HZ⟩)
    go_ret
    exact ⟨rfl, HBz.trans (HZ.mono HBz.size)⟩
  have HR := Lib.hid (HN.arg HB.out)
  clear hKR HN
  by_cases hu12 : 12 < u
  · go_wp2_with (go_at_call 10; (with_reducible refine (works_calls T _).mono ?_); rintro e wz ⟨rfl, HZ⟩)
    go_ret
    exact ⟨rfl, (HR.out.kw.below HZ).bel⟩
  have hu12' : ¬ ((12 : Int) < (u : Int)) := by omega
  by_cases hnu : n = u
  rotate_left
  · have hb1 : ((n : Int) != (u : Int)) = true := by simp; omega
    go_wp2_with (go_at_call 10; (with_reducible refine (works_calls T _).mono ?_); rintro e wz ⟨rfl, HZ⟩)
    go_ret
    exact ⟨rfl, (HR.out.kw.below HZ).bel⟩
  have hb1 : ((n : Int) != (u : Int)) = false := by simp; omega
  by_cases hu0 : u = 0
  · have hb2 : ((u : Int) == 0) = true := by simp; omega
    go_wp2_with (go_at_call 10; (with_reducible refine (works_calls T _).mono ?_); rintro e wz ⟨rfl, HZ⟩)
    go_ret
    exact ⟨rfl, (HR.out.kw.below HZ).bel⟩
  have hb2 : ((u : Int) == 0) = false := by simp; omega
  have hu1 : 0 < u := by omega
  have hu13 : u ≤ 12 := by omega
  obtain ⟨s, hs, hsu⟩ : ∃ s : Nat, (s : Int) = tn % (u : Int) ∧ s < u := by
    have h1 := Int.emod_nonneg tn (b := (u : Int)) (by omega)
    have h2 := Int.emod_lt_of_pos tn (b := (u : Int)) (by omega)
    exact ⟨(tn % (u : Int)).toNat, by omega, by omega⟩
  have HSS := Lib.hid hs
  subst hnu
  clear hs hu0 hu12
  go_wp2_with fail
  refine (pick_calls tn n s (by omega) (by omega) HSS.out w1).mono ?_
  rintro e w2 ⟨rfl, rfl⟩
  clear HSS
  obtain ⟨pz, hpz⟩ : ∃ l, rot pl s = l := ⟨_, rfl⟩
  obtain ⟨qz, hqz⟩ : ∃ l, rot q s = l := ⟨_, rfl⟩
  have HPl : Hid (pz.length = n) := Lib.hid (by rw [← hpz, rot_length _ (by have := HU.out; omega)]; exact HU.out)
  have HQl : Hid (qz.length = n) := Lib.hid (by rw [← hqz, rot_length _ (by have := HNl.out; omega)]; exact HNl.out)
  have HPz : Hid (∀ j, j < n → ∃ x, x < n ∧ (j + s) % n = x ∧ ∃ (h1 : j < pz.length) (h2 : x < pl.length), pz[j] = pl[x]) := Lib.hid (fun j hj => by
    subst hpz
    have hx : (j + s) % n < n := Nat.mod_lt _ hu1
    refine ⟨_, hx, rfl, by have := HPl.out; omega, by have := HU.out; omega, ?_⟩
    have := rot_at (l := pl) (s := s) (i := j) (by have := HU.out; omega) (by have := HU.out; omega) (by have := HPl.out; omega)
    simpa only [HU.out] using this)
  have HQz : Hid (∀ j, j < n → ∃ h1 : j < qz.length, qz[j] = coef q ((j + s) % n)) := Lib.hid (fun j hj => by
    subst hqz
    have hx : (j + s) % n < n := Nat.mod_lt _ hu1
    refine ⟨by have := HQl.out; omega, ?_⟩
    have := rot_at (l := q) (s := s) (i := j) (by have := HNl.out; omega) (by have := HNl.out; omega) (by have := HQl.out; omega)
    rw [this, coef_of_lt (by have := HNl.out; omega)]
    simp only [HNl.out])
  have HPP : Hid ((pz.reverse.zip qz.reverse).Perm (pl.zip q)) := Lib.hid (by rw [← hpz, ← hqz]; exact rot_zip (by rw [HU.out, HNl.out]))
  clear hpz hqz
  have hgl := HR.out.kw.glt
  go_wp2_with fail
  go_loopw [15, 16, 17] (fun so sy i wr => ∃ j : Nat, j ≤ n ∧ i = .int .i64 ((j : Int) - 1) ∧ Hid (Own wr w2.heap.size 3 so (zs (pz.drop j).reverse)) ∧ Hid (Own wr w2.heap.size 5 sy (bv (bs (qz.drop j).reverse))) ∧ Hid (Below w2.heap.size w2 wr)) (fun _ _ i _ => (intOf i + 1).toNat)
  case atStart =>
    refine ⟨n, Nat.le_refl _, rfl, Lib.hid ?_, Lib.hid ?_, Lib.hid (Below.refl _ _)⟩
    · rw [List.drop_of_length_le (by rw [HPl.out]; exact Nat.le_refl _)]
      exact Own.nil _ _ _
    · rw [List.drop_of_length_le (by rw [HQl.out]; exact Nat.le_refl _)]
      exact Own.nil _ _ _
  case round =>
    obtain ⟨j, hj, rfl, HS, HY, HV⟩ := hrel
    have hsz2 := HV.out.size
    rcases j with _ | j
    rotate_left
    · have ej : ((j + 1 : Nat) : Int) - 1 = (j : Int) := by omega
      rw [ej]
      have hj9 : j < n := by omega
      obtain ⟨x, hx, hxe, hp1, hp2, hpe⟩ := HPz.out j hj9
      obtain ⟨hq1, hqe⟩ := HQz.out j hj9
      rw [hxe] at hqe
      have hrem : ((j : Int) + (s : Int)).tmod (n : Int) = (x : Int) := by rw [Int.tmod_eq_emod_of_nonneg (by omega), ← hxe]; simp
      have hne : (n : Int) ≠ 0 := by omega
      have HWv := Lib.hid (HR.out.kw.bel.trans (HV.out.mono HR.out.kw.bel.size))
      obtain ⟨bp, op, rfl, hcp⟩ := zs_at (HRow.out.below HWv.out) hp2
      obtain ⟨zp, hzp⟩ : ∃ zp, pl[x] = zp := ⟨_, rfl⟩
      rw [hzp] at hcp
      have hyb := HB.out.below HWv.out
      obtain ⟨by_, oy, rfl⟩ := where_ hyb (by rw [HNl.out]; omega)
      have hcy := cellAt hyb x (by rw [HNl.out]; omega)
      obtain ⟨yv, hyv⟩ : ∃ yv, coef q x = yv := ⟨_, rfl⟩
      rw [hyv] at hcy
      have HS1 : Hid (zs (pz.drop (j + 1)).reverse ++ zs [zp] = zs (pz.drop j).reverse) := Lib.hid (by
        rw [drop_step hp1, hpe, hzp, zs_append])
      have HY1 : Hid (bv (bs (qz.drop (j + 1)).reverse) ++ bv [yv.n] = bv (bs (qz.drop j).reverse)) := Lib.hid (by
        rw [drop_step hq1, hqe, hyv, bvs_snoc])
      have HSL : Hid ((zs (pz.drop (j + 1)).reverse).length ≤ 300) := Lib.hid (by rw [zs_length, List.length_reverse, List.length_drop, HPl.out]; omega)
      have HYL : Hid ((bv (bs (qz.drop (j + 1)).reverse)).length ≤ 300) := Lib.hid (by rw [bvs_length, List.length_reverse, List.length_drop, HQl.out]; omega)
      have hxn : (x : Int) < (n : Int) := by omega
      have hj0 : (0 : Int) ≤ (j : Int) := by omega
      have HYv := Lib.hid hyv
      clear hxe hpe hqe hzp hyv hyb hj ej hp1 hp2 hq1
      go_wp2_with (first
        | (at_builtin; refine wpList_app _ rfl _ _ _ rfl w2.heap.size 3 _ 8 Tryz.underlying23 info_i rfl (by omega) _ _ rfl (HS.out.alloc _) (some ⟨wr.heap.size, 0, none⟩) 1 1 (zs [zp]) rfl rfl (Row.new _ _ _ _) (zs_one _) (by have := HSL.out; omega) (by simp; omega) ?_; rintro v2 w5 hown hg5 -
           have hBw5 := (HV.out.alloc hsz2 (.cells #[.int .i64 zp] 3)).trans ((HS.out.alloc _).grew (by simp; omega) hg5)
           rw [HS1.out] at hown
           have HS5 := Lib.hid hown
           have HY5 := Lib.hid (own_other (HY.out.alloc _) (HS.out.alloc _) (by decide) hg5)
           have HV5 := Lib.hid hBw5
           have hsz5 := hBw5.size
           have hcy5 : w5.cell? ⟨by_, oy + x, none⟩ = some (.int .u8 (yv.n : Int)) := by rw [cellAt (HB.out.below (HR.out.kw.bel.trans (hBw5.mono HR.out.kw.bel.size))) x (by rw [HNl.out]; omega), HYv.out]
           clear hown hg5 hBw5)
        | (at_builtin; refine wpList_app _ rfl _ _ _ rfl w2.heap.size 5 _ 1 Tryz.underlying22 info_u8 rfl (by omega) _ _ rfl (HY5.out.alloc _) (some ⟨w5.heap.size, 0, none⟩) 1 1 (bv [yv.n]) rfl rfl (Row.new _ _ _ _) (bv_one _) (by have := HYL.out; omega) (by simp; omega) ?_; rintro v3 w6 hown hg6 -))
      rw [HY1.out] at hown
      have HY6 := Lib.hid hown
      have HS6 := Lib.hid (own_other (HS5.out.alloc _) (HY5.out.alloc _) (by decide) hg6)
      have HV6 := Lib.hid ((HV5.out.alloc hsz5 (.cells #[.int .u8 (yv.n : Nat)] 5)).trans ((HY5.out.alloc _).grew (by simp; omega) hg6))
      clear hown hg6
      go_roundw
      case rel => exact ⟨j, by omega, rfl, HS6, HY6, HV6⟩
      case measure => simp [intOf]
    · rw [List.drop_zero] at HS HY
      obtain ⟨A6, c6, rfl, hc6⟩ := zshape HS.out
      obtain ⟨A7, c7, rfl, hc7⟩ := Own.shape HY.out
      obtain ⟨wq, hwq⟩ : ∃ wq, wr = wq := ⟨_, rfl⟩
      rw [hwq] at HS HY HV hsz2 ⊢
      have HRl : Hid (pz.reverse.length = n) := Lib.hid (by rw [List.length_reverse, HPl.out])
      have HRq : Hid (qz.reverse.length = n) := Lib.hid (by rw [List.length_reverse, HQl.out])
      have HPr := Lib.hid (And.intro HRl.out (And.intro HRq.out HPP.out))
      generalize pz.reverse = pr at *
      generalize qz.reverse = qr at *
      rw [HRl.out] at HS hc6 ⊢
      rw [HRq.out] at HY hc7 ⊢
      have HR2 := Lib.hid ((HR.out.below HV.out).own (B := A7) (p := qr) (c' := c7) (by rw [HRq.out]; exact HY.out) hgl)
      clear hwq HPz HQz HY HPl HQl hj
      go_wp2_with fail
      refine (wdecodeW T HR2.out P pl n v HU.out (HRow.out.below HR2.out.kw.bel) (by omega) B q n d (by simp) HNl.out hd (by omega) (t : Int) (by omega) (by omega)).mono ?_
      rintro e w4 ⟨r, wl, z, hD, A4, c4, B4, d4, rfl, hc4, hd4, hO4, HN, hP4⟩
      have HR4 := Lib.hid HN
      have HS4 := Lib.hid (own_past HS.out hgl hP4)
      have HO4 := Lib.hid hO4
      have hg4 : w.heap.size < wq.heap.size := by omega
      have HD := Lib.hid (hD.perm (by rw [HU.out, HNl.out]) (by rw [HPr.out.1, HPr.out.2.1]) HPr.out.2.2.symm)
      have hlen := hD.len
      have hrl : r.length ≤ 12 := by omega
      have hwl : wl.length ≤ 12 := by have := HU.out; omega
      have hyy : ((z : Int) == z) = true := by simp
      clear HN hP4 hD hO4 hlen HS HR2
      go_wp2_with fail
      refine (wdecodeW' T HR4.out A6 pr n c6 HRl.out (own_row HS4.out) (by omega) A7 qr n c7 (by simp) HRq.out hc7 (by omega) (t : Int) (by omega) (by omega) r wl z HD.out).mono ?_
      rintro e w5 ⟨A5, c5, B5, d5, rfl, hc5, hd5, hO5, HN, hP5⟩
      have HR5 := Lib.hid HN
      have HO4' := Lib.hid (own_past HO4.out hg4 hP5)
      have HO5 := Lib.hid hO5
      clear HN hP5 hO5 HR4 HO4 HD HS4
      go_wp2_with fail
      refine (sameW A4 A5 r r r.length r.length c4 c5 _ HR5.out.kw (by simp) (by simp) rfl rfl true (by simp)).mono ?_
      rintro e w6 ⟨rfl, rfl⟩
      go_wp2_with fail
      refine (samez_calls B4 B5 wl wl wl.length wl.length d4 d5 _ rfl rfl (by omega) (own_row HO4'.out) (own_row HO5.out) true (by simp)).mono ?_
      rintro e w6 ⟨rfl, hB6⟩
      have HR6 := Lib.hid (HR5.out.below hB6)
      clear hB6
      go_wp2_with (go_at_call 10; (with_reducible refine (works_calls T _).mono ?_); rintro e wz ⟨rfl, HZ⟩)
      go_ret
      exact ⟨rfl, (HR6.out.kw.below HZ).bel⟩
theorem walk (T : Wl.Spec) (w : World) (n0 : Nat) (hn0 : n0 < 256) (n1 : Nat) (hn1 : n1 < 256) (A2 : Option Addr) (l2 : List Int) (c2 : Nat) (hb2 : Row w A2 (Rd.zs l2)) (A3 : Option Addr) (l3 : List Nat) (c3 : Nat) (hb3 : Bytes w A3 l3) (hc3 : l3.length ≤ c3) (_hm3 : c3 ≤ 9223372036854775807) (n4 : Nat) (hn4 : n4 < 256) (n5 : Int) (hl5 : -9223372036854775808 ≤ n5) (hn5 : n5 < 9223372036854775808) :
    Calls Tryz.prog 8 #[.int .u8 (n0 : Nat), .int .u8 (n1 : Nat), .slice A2 l2.length c2, .slice A3 l3.length c3, .int .u8 (n4 : Nat), .int .i64 n5] w fun e w' => e = .returned (.bool true) ∧ Below w.heap.size w w' := by
  obtain ⟨p3, rfl⟩ := of_bytes l3 hb3.lt
  exact core T w n0 n1 hn0 hn1 A2 l2 _ c2 A3 p3 _ c3 n4 hn4 n5 hl5 hn5 rfl hb2 (bs_length p3).symm hb3 hc3
end Go.Proofs.YtbghmbfmidbgaaaGreat.welchTurned

/- WelchTurned, for every input: the frame round the walk; the argument lists are opened, the walk's contract is met, what was read reads as it did. -/
namespace Go.Proofs.YtbghmbfmidbgaaaGreat.welchTurned
open Go.ChangeShapes Go.WideShapes Go.ChangeAt Go.RowKit
open Go.ChangeMaps (open_string shut_string)
set_option linter.unusedVariables false
theorem own : ownKnob Tryz.prog.godebug = none := by kernel_rfl
theorem laidOut : laidOutB Tryz.prog = true := by kernel_rfl

set_option maxRecDepth 100000 in
theorem contract (H : Type) (enc : TypeId × Value → H) (W : World) (base : Nat) (args : Array Value) (ds gs : List (DataW H)) (before : List MemPlace)
    (hval : ∀ (j : Nat) t v, Tryz.f8.params[j]? = some t → args[j]? = some v → Value.okWide Tryz.prog W .any base t v)
    (hW : DataW.Whole enc Tryz.prog Tryz.f8.params.toList Rows.welchTurnedSpec.vars false W args.toList ds gs before)
    (hsz : (DataW.weightsEach Tryz.prog (Tryz.f8.params.toList ++ Rows.welchTurnedSpec.plain.varTypes Tryz.prog) (ds ++ gs)).all (· ≤ reachBytes) = true) :
    Calls Tryz.prog 8 args W fun e W' => ∃ v, e = .returned v ∧ Rows.welchTurnedSpec.post enc Tryz.prog Tryz.f8 false true false false W args v W' := by
  have hW' := hW
  obtain ⟨p, q, hA0, hV, rfl, hfz, hnd⟩ := hW
  have hA : DataW.TrodAll enc Tryz.prog W 0 (fun _ => true) true Tryz.f8.params.toList args.toList ds p := hA0
  rw [Tryz.params8] at hA hval hsz
  obtain ⟨v0, vs0, d0, ds0, p0, q0, hargs, rfl, rfl, h0, r0⟩ := trodAll_cons hA
  obtain ⟨v1, vs1, d1, ds1, p1, q1, rfl, rfl, rfl, h1, r1⟩ := trodAll_cons r0
  obtain ⟨v2, vs2, d2, ds2, p2, q2, rfl, rfl, rfl, h2, r2⟩ := trodAll_cons r1
  obtain ⟨v3, vs3, d3, ds3, p3, q3, rfl, rfl, rfl, h3, r3⟩ := trodAll_cons r2
  obtain ⟨v4, vs4, d4, ds4, p4, q4, rfl, rfl, rfl, h4, r4⟩ := trodAll_cons r3
  obtain ⟨v5, vs5, d5, ds5, p5, q5, rfl, rfl, rfl, h5, r5⟩ := trodAll_cons r4
  obtain ⟨rfl, rfl, rfl⟩ := trodAll_nil r5
  obtain rfl : args = #[v0, v1, v2, v3, v4, v5] := by cases args; simp_all
  obtain ⟨rfl, rfl⟩ := trodVars_none hV
  obtain ⟨a0, rfl, rfl, rfl, w0⟩ := open_int Tryz.underlying5 (hval 0 5 v0 rfl rfl) h0
  have b0 := wf_bounds_u8 w0
  obtain ⟨n0, rfl⟩ := Int.eq_ofNat_of_zero_le b0.1
  have hn0 : n0 < 256 := by omega
  obtain ⟨a1, rfl, rfl, rfl, w1⟩ := open_int Tryz.underlying5 (hval 1 5 v1 rfl rfl) h1
  have b1 := wf_bounds_u8 w1
  obtain ⟨n1, rfl⟩ := Int.eq_ofNat_of_zero_le b1.1
  have hn1 : n1 < 256 := by omega
  obtain ⟨A2, len2, c2, rfl⟩ := okWide_slice Tryz.underlying23 (hval 2 23 v2 rfl rfl)
  have k2 := h2
  have lt2 : ∀ x ∈ p2, x.block < W.heap.size := by obtain ⟨m, hm⟩ := k2; exact DataW.trod_lt m _ _ _ hm
  obtain ⟨l2, rfl, hb2⟩ := Rd.open_zs h2
  obtain ⟨A3, len3, c3, rfl⟩ := okWide_slice Tryz.underlying22 (hval 3 22 v3 rfl rfl)
  have k3 := h3
  have lt3 : ∀ x ∈ p3, x.block < W.heap.size := by obtain ⟨m, hm⟩ := k3; exact DataW.trod_lt m _ _ _ hm
  obtain ⟨l3, rfl, hb3, hc3, hm3⟩ : ∃ l : List Nat, len3 = l.length ∧ Bytes W A3 l ∧ l.length ≤ c3 ∧ c3 ≤ 9223372036854775807 := by
    obtain ⟨fuel, hf⟩ := h3
    rcases open_ints Tryz.underlying22 Tryz.underlying5 (by kernel_rfl) hf with ⟨hcs, _⟩ | ⟨x, l, c, zs, hcs, _, hl, hm, hz, _, hcell, hwz⟩
    · simp [Value.cells] at hcs
      obtain ⟨rfl, rfl, rfl⟩ := hcs
      exact ⟨[], rfl, Bytes.nil _ _, by simp, by simp⟩
    · simp [Value.cells] at hcs
      obtain ⟨rfl, rfl, rfl⟩ := hcs
      obtain ⟨h1, h2⟩ := bytes_of hl (by simpa using hz) hcell hwz
      exact ⟨_, h2.symm, h1, by rw [h2]; exact hl, by have h := hm; simp only [maxLen] at h; omega⟩
  obtain ⟨a4, rfl, rfl, rfl, w4⟩ := open_int Tryz.underlying5 (hval 4 5 v4 rfl rfl) h4
  have b4 := wf_bounds_u8 w4
  obtain ⟨n4, rfl⟩ := Int.eq_ofNat_of_zero_le b4.1
  have hn4 : n4 < 256 := by omega
  obtain ⟨n5, rfl, rfl, rfl, w5⟩ := open_int Tryz.underlying3 (hval 5 3 v5 rfl rfl) h5
  have b5 := wf_bounds_i64 w5
  clear hA0
  refine (walk (Wl.spec Poly.spec) W n0 hn0 n1 hn1 A2 l2 c2 hb2 A3 l3 c3 hb3 hc3 hm3 n4 hn4 n5 b5.1 b5.2 ).mono fun e W' ⟨he, bel⟩ => ?_
  subst he
  exact ⟨_, rfl, _, _, _, [], _, [], hW', trodAll_mk1 (shut_bool Tryz.underlying4 _), (trodAll_cons_mk (shut_int Tryz.underlying5 w0) (trodAll_cons_mk (shut_int Tryz.underlying5 w1) (trodAll_cons_mk (Below.trod laidOut (by kernel_rfl) (of_decide_eq_true (by kernel_rfl)) k2 bel lt2) (trodAll_cons_mk (Below.trod laidOut (by kernel_rfl) (of_decide_eq_true (by kernel_rfl)) k3 bel lt3) (trodAll_cons_mk (shut_int Tryz.underlying5 w4) (trodAll_cons_mk (shut_int Tryz.underlying3 w5) trodAll_mk0)))))), rfl, bel.frame _, fun h => by cases h⟩

set_option maxRecDepth 100000 in
theorem lifted (os : Os) (started : os.Started) (H : Type) (enc : TypeId × Value → H) :
    ReturnsInHanded {} Tryz.checked os 8 .any (Rows.welchTurnedSpec.pre6 enc Tryz.prog Tryz.f8 Rows.welchTurnedRow.domain false) (Rows.welchTurnedSpec.post enc Tryz.prog Tryz.f8 false true false false) := by
  refine returnsInHanded_of_change_sized (C := Tryz.checked) own started (by kernel_rfl) Tryz.func8
    (ChangeSpec.witness6 (enc := enc) (C := Tryz.checked) false ⟨#[], #[.int .u8 0, .int .u8 0, .slice none 0 0, .slice none 0 0, .int .u8 0, .int .i64 0], []⟩ 8 (by kernel_rfl) (by kernel_rfl) (by kernel_rfl) (by kernel_rfl)) ?_
  intro W base args ds gs before hval hW _ hsz _
  exact contract H enc W base args ds gs before hval hW hsz

/-- THE STATEMENT. -/
theorem proved : Rows.WelchTurnedSaid :=
  OpenClaim.holds_of_wide 8 Tryz.f8 rfl rfl rfl rfl rfl rfl rfl ⟨rfl, rfl, rfl, rfl, rfl⟩ rfl rfl rfl rfl rfl (by kernel_rfl) Tryz.func8 (by kernel_rfl)
    (of_decide_eq_true (by kernel_rfl)) (by unfold Func.isWrapper; first | (rw [if_pos (by decide +kernel)]; kernel_rfl) | (rw [if_neg (by decide +kernel)]; exact ⟨rfl, rfl⟩))
    (fun os started H enc _ => lifted os started H enc)
end Go.Proofs.YtbghmbfmidbgaaaGreat.welchTurned
