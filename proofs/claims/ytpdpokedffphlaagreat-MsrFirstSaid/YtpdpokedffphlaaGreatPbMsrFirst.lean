/- MsrFirst, for every input: the frame round the walk; the argument lists are opened, the walk's contract is met, what was read reads as it did. -/
import Derived.Test.YtpdpokedffphlaaGreatPb25
import Derived.Test.YtpdpokedffphlaaGreatRows
import Derived.Test.YtpdpokedffphlaaGreatPb32
import Derived.Test.YtpdpokedffphlaaGreatPb31
import Derived.WalkKit
import Derived.ProofKit
import Derived.OpenShut
import Derived.ShutString
import Derived.ChangeOld
import Derived.Below
import Derived.Deep.DeepHandedRow
import Derived.SizedLaws
namespace Go.Proofs.YtpdpokedffphlaaGreat.msrFirst
open Go.RowKit Go.Shelf F8 GF Poly Rd Ms
attribute [local go_sem] Oper.semAt_some

set_option maxRecDepth 100000 in
set_option maxHeartbeats 8000000 in
theorem core (PS : Poly.Spec) (Z : Wl.Spec) (w : World) (n k d : Int) (hl0 : -9223372036854775808 ≤ n) (hn0 : n < 9223372036854775808) (hl1 : -9223372036854775808 ≤ k) (hn1 : k < 9223372036854775808) (hl2 : -9223372036854775808 ≤ d) (hn2 : d < 9223372036854775808) (B : Option Addr) (q : List F8) (o c : Nat) (ho : q.length = o) (hbq : Bytes w B (bs q)) :
    Calls Tryz.prog 9 #[.int .i64 n, .int .i64 k, .int .i64 d, .slice B o c] w fun e w' => e = .returned (.bool true) ∧ Below w.heap.size w w' := by
  have HB := Lib.hid hbq
  have HO := Lib.hid ho
  have hfew := few_calls n k d w
  by_cases hf : Few n k d
  · rw [decide_eq_true hf] at hfew
    have HFew := Lib.hid hfew
    have HF := Lib.hid hf
    clear hbq ho hfew hf
    go_enter Tryz.func9, Tryz.ntmps9
    go_wp2_with (go_at_call 12; refine HFew.out.mono ?_; rintro e w0 ⟨rfl, rfl⟩)
    refine (GF.new_calls w).mono ?_
    rintro e w1 ⟨rfl, hw1⟩
    have HMd := Lib.hid (made PS n k d w w1 hw1 hl0 hn0 hl1 hn1 hl2 hn2)
    clear hw1
    go_wp2_with fail
    refine HMd.out.mono ?_
    clear HMd
    rintro e w2 (⟨hgood, S, hL, rfl⟩ | ⟨-, rfl, HBz⟩)
    rotate_left
    · go_wp2_with (go_at_call 13; (with_reducible refine (works_calls PS Z _).mono ?_); rintro e wz ⟨rfl, HZ⟩)
      go_ret
      exact ⟨rfl, HBz.trans (HZ.mono HBz.size)⟩
    have HL := Lib.hid hL
    have hn := hL.lw.ok.nums
    have hek := hL.ek
    have hk9 : S.k ≤ 9 := by have := HF.out.2.1; omega
    obtain ⟨kn, hkn⟩ : ∃ kn, S.k = kn := ⟨_, rfl⟩
    obtain ⟨sn, hsn⟩ : ∃ sn, S.n = sn := ⟨_, rfl⟩
    have hkn' : k = (kn : Int) := by omega
    subst hkn'
    obtain ⟨mb, hmb⟩ : ∃ mb, S.k * S.a = mb := ⟨_, rfl⟩
    have hmb2 : mb ≤ 9 * 16 := by rw [← hmb]; exact Nat.mul_le_mul hk9 hn.2.1
    have hBc := b_calls hL.lw.ok
    rw [hmb] at hBc
    have HBc := Lib.hid hBc
    have HMb := Lib.hid hmb
    have HKn := Lib.hid hkn
    have HSn := Lib.hid hsn
    have hks : kn ≤ sn := by omega
    have hkn9 : kn ≤ 9 := by omega
    have hs255 : sn ≤ 255 := by omega
    clear hL hn hek hBc hmb hkn hsn hgood
    go_wp2_with fail
    refine HBc.out.mono ?_
    rintro e w3 ⟨rfl, hb3⟩
    have HL3 := Lib.hid (HL.out.lw.below hb3)
    have HQ3 := Lib.hid (HB.out.below HL3.out.bel)
    clear hb3 HBc
    have HFu := Lib.hid (kfull_calls B q o c mb w3 HO.out HQ3.out (by omega))
    go_wp2_with fail
    refine HFu.out.mono ?_
    rintro e w4 ⟨A4, c4, rfl, hc4, hO4, hb4⟩
    obtain ⟨m, hm⟩ : ∃ m, full q mb = m := ⟨_, rfl⟩
    have hml : m.length = mb := by rw [← hm, full_length]
    rw [hm] at hO4
    have HL4 := Lib.hid (HL3.out.below hb4)
    have HM4 := Lib.hid (BF.own HL4.out.ok.fld hO4)
    have HMl := Lib.hid hml
    clear hO4 hb4 hm hml HFu HL3
    have hEn := encode_calls PS Z HL4.out.ok A4 m mb c4 HMl.out HMb.out.symm HM4.out hc4
    rw [HSn.out] at hEn
    have HEn := Lib.hid hEn
    clear hEn
    go_wp2_with fail
    refine HEn.out.mono ?_
    clear HEn
    rintro e w5 ⟨A5, c5, l5, M, N, rfl, hc5, hO5, hL5, hCw, hch, hls, hf5, hp5⟩
    have HL5 := Lib.hid (HL4.out.go hf5 hp5)
    have HS5 : Hid (Shs S.g w5 A5 l5) := Lib.hid ⟨Mat.Own.row' (own1_of hO5).1, hL5.lst hf5⟩
    have HM5 := Lib.hid (HM4.out.past hp5)
    have hl5 : l5.length = sn := by have := congrArg List.length hls; simpa using this
    have HLl := Lib.hid hl5
    have HFl : Hid (flatE (l5.take kn) = m) := Lib.hid (by
      have e1 : (l5.take kn).map El.s = (List.range kn).map (chunkM S.a m) := by
        rw [List.map_take, hls, ← List.map_take, List.take_range, Nat.min_eq_left hks]
        exact List.map_congr_left fun j hj => hch j (by rw [HKn.out]; exact List.mem_range.1 hj)
      unfold flatE
      rw [List.flatMap_def, e1, ← List.flatMap_def]
      exact chunks kn (by rw [HMl.out, ← HMb.out, HKn.out]))
    have HLe : Hid (∀ e ∈ l5, e.s.length ≤ 16) := Lib.hid fun e he => by
      have h1 : e.s ∈ l5.map El.s := List.mem_map.2 ⟨e, he, rfl⟩
      rw [hls] at h1
      obtain ⟨j, -, h2⟩ := List.mem_map.1 h1
      rw [← h2, node, shr_length]; exact HL4.out.ok.a16
    clear hO5 hL5 hCw hch hls hf5 hp5 hl5 hc5 HL4 HM4
    go_wp2_with fail
    go_loopw [14, 15] (fun ov iv wr => ∃ i : Nat, i ≤ kn ∧ iv = .int .i64 i ∧ Hid (Own wr w5.heap.size 5 ov (bv (bs (flatE (l5.take i))))) ∧ Hid (Below w5.heap.size w5 wr)) (fun _ iv _ => kn - (intOf iv).toNat)
    case atStart => exact ⟨0, by omega, rfl, Lib.hid (by simpa [flatE, bs, bv] using Own.nil _ _ _), Lib.hid (Below.refl _ _)⟩
    case round =>
      obtain ⟨i, hi, rfl, HO2, HW⟩ := hrel
      by_cases hik : i < kn
      · have hti : i < l5.length := by rw [HLl.out]; omega
        have hin : (i : Int) < (sn : Int) := by omega
        have hik2 : (i : Int) < (kn : Int) := by omega
        obtain ⟨b, off, rfl, hcell⟩ := cells1_at (HS5.out.below HW.out).row hti
        have HE : Hid (bv (bs (flatE (l5.take (i + 1)))) = bv (bs (flatE (l5.take i))) ++ bv (bs (l5[i]).s)) := Lib.hid (by rw [take_succ' l5 hti, flatE, List.flatMap_append, bs_append, bv_append]; simp [flatE])
        have HN : Hid ((bv (bs (flatE (l5.take i)))).length ≤ 1000) := Lib.hid (by
          rw [bvs_length]
          have := flatE_length (l := l5.take i) (a := 16) fun e he => HLe.out e (List.mem_of_mem_take he)
          rw [List.length_take] at this
          have h9 : min i l5.length * 16 ≤ 9 * 16 := Nat.mul_le_mul_right _ (by omega)
          omega)
        obtain ⟨e, he⟩ : ∃ e, l5[i] = e := ⟨_, rfl⟩
        have hem : e ∈ l5 := he ▸ List.getElem_mem hti
        rw [he] at hcell HE
        have hby := ((HS5.out.below HW.out).lst e hem).1.by_
        have hsl := HLe.out e hem
        obtain ⟨eA, hA⟩ : ∃ a, e.A = a := ⟨_, rfl⟩
        obtain ⟨es, hes⟩ : ∃ a, e.s = a := ⟨_, rfl⟩
        obtain ⟨ec, hcc⟩ : ∃ a, e.c = a := ⟨_, rfl⟩
        obtain ⟨en, hn⟩ : ∃ a, es.length = a := ⟨_, rfl⟩
        rw [hA, hes] at hby
        rw [hA, hes, hcc, hn] at hcell
        rw [hes] at HE
        rw [hes, hn] at hsl
        have hsz := HW.out.size
        have HBy := Lib.hid hby
        have HLn : Hid ((bv (bs es)).length = en) := Lib.hid (by rw [bvs_length, hn])
        clear hn hby hem he hA hes hcc
        go_wp2_with (at_builtin; refine wpList_app _ rfl _ _ _ rfl w5.heap.size 5 _ 1 Tryz.underlying34 info_u8 rfl (by omega) _ _ rfl HO2.out eA en ec (bv (bs es)) rfl HLn.out HBy.out.row (bv_one _) (by have := HN.out; omega) hsz ?_; rintro v2 w6 hown hg6 -)
        have hB6 := HW.out.trans (HO2.out.grew hsz hg6)
        rw [← HE.out] at hown
        have HO6 := Lib.hid hown
        have HW6 := Lib.hid hB6
        clear hown hg6 hB6
        go_roundw
        case rel => exact ⟨i + 1, by omega, by go_num, HO6, HW6⟩
        case measure => simp [intOf]; omega
      · obtain rfl : i = kn := by omega
        have hown := HO2.out
        rw [HFl.out] at hown
        obtain ⟨Bo, co, rfl, hco⟩ := Own.shape hown
        rw [HMl.out] at hown ⊢
        have HSa := Lib.hid (same_calls Bo A4 m m mb mb co c4 wr HMl.out HMl.out (Own.bytes hown) (HM5.out.below HW.out).by_)
        have HBl := Lib.hid (HL5.out.bel.trans (HW.out.mono HL5.out.bel.size))
        have hlt : ¬ ((i : Int) < (i : Int)) := by omega
        clear hown hco hik HO2 hi
        go_wp2_with (first
          | (go_at_call 25; (with_reducible refine HSa.out.mono ?_); rintro e wq ⟨rfl, rfl⟩; rw [decide_eq_true rfl])
          | (go_at_call 13; (with_reducible refine (works_calls PS Z _).mono ?_); rintro e wz ⟨rfl, HZ⟩))
        go_ret
        exact ⟨rfl, HBl.out.trans (HZ.mono HBl.out.size)⟩
  · rw [decide_eq_false hf] at hfew
    have HFew := Lib.hid hfew
    clear hbq ho hfew hf HB
    go_enter Tryz.func9, Tryz.ntmps9
    go_wp2_with (first
      | (go_at_call 12; refine HFew.out.mono ?_; rintro e w0 ⟨rfl, rfl⟩)
      | (go_at_call 13; (with_reducible refine (works_calls PS Z _).mono ?_); rintro e wz ⟨rfl, HZ⟩))
    go_ret
    exact ⟨rfl, HZ⟩
theorem walk (PS : Poly.Spec) (Z : Wl.Spec) (w : World) (n0 : Int) (hl0 : -9223372036854775808 ≤ n0) (hn0 : n0 < 9223372036854775808) (n1 : Int) (hl1 : -9223372036854775808 ≤ n1) (hn1 : n1 < 9223372036854775808) (n2 : Int) (hl2 : -9223372036854775808 ≤ n2) (hn2 : n2 < 9223372036854775808) (A3 : Option Addr) (l3 : List Nat) (c3 : Nat) (hb3 : Bytes w A3 l3) (_ : l3.length ≤ c3) (_ : c3 ≤ 9223372036854775807) :
    Calls Tryz.prog 9 #[.int .i64 n0, .int .i64 n1, .int .i64 n2, .slice A3 l3.length c3] w fun e w' => e = .returned (.bool true) ∧ Below w.heap.size w w' := by
  obtain ⟨q, rfl⟩ := F8.of_bytes l3 hb3.lt
  exact core PS Z w n0 n1 n2 hl0 hn0 hl1 hn1 hl2 hn2 A3 q _ c3 (bs_length q).symm hb3
end Go.Proofs.YtpdpokedffphlaaGreat.msrFirst

namespace Go.Proofs.YtpdpokedffphlaaGreat.msrFirst
open Go.ChangeShapes Go.WideShapes Go.ChangeAt Go.RowKit
open Go.ChangeMaps (open_string shut_string)
set_option linter.unusedVariables false
theorem own : ownKnob Tryz.prog.godebug = none := by kernel_rfl
theorem laidOut : laidOutB Tryz.prog = true := by kernel_rfl

set_option maxRecDepth 100000 in
theorem contract (H : Type) (enc : TypeId × Value → H) (W : World) (base : Nat) (args : Array Value) (ds gs : List (DataW H)) (before : List MemPlace)
    (hval : ∀ (j : Nat) t v, Tryz.f9.params[j]? = some t → args[j]? = some v → Value.okWide Tryz.prog W .any base t v)
    (hW : DataW.Whole enc Tryz.prog Tryz.f9.params.toList Rows.msrFirstSpec.vars false W args.toList ds gs before)
    (hsz : (DataW.weightsEach Tryz.prog (Tryz.f9.params.toList ++ Rows.msrFirstSpec.plain.varTypes Tryz.prog) (ds ++ gs)).all (· ≤ reachBytes) = true) :
    Calls Tryz.prog 9 args W fun e W' => ∃ v, e = .returned v ∧ Rows.msrFirstSpec.post enc Tryz.prog Tryz.f9 false true false false W args v W' := by
  have hW' := hW
  obtain ⟨p, q, hA0, hV, rfl, hfz, hnd⟩ := hW
  have hA : DataW.TrodAll enc Tryz.prog W 0 (fun _ => true) true Tryz.f9.params.toList args.toList ds p := hA0
  rw [Tryz.params9] at hA hval hsz
  obtain ⟨v0, vs0, d0, ds0, p0, q0, hargs, rfl, rfl, h0, r0⟩ := trodAll_cons hA
  obtain ⟨v1, vs1, d1, ds1, p1, q1, rfl, rfl, rfl, h1, r1⟩ := trodAll_cons r0
  obtain ⟨v2, vs2, d2, ds2, p2, q2, rfl, rfl, rfl, h2, r2⟩ := trodAll_cons r1
  obtain ⟨v3, vs3, d3, ds3, p3, q3, rfl, rfl, rfl, h3, r3⟩ := trodAll_cons r2
  obtain ⟨rfl, rfl, rfl⟩ := trodAll_nil r3
  obtain rfl : args = #[v0, v1, v2, v3] := by cases args; simp_all
  obtain ⟨rfl, rfl⟩ := trodVars_none hV
  obtain ⟨n0, rfl, rfl, rfl, w0⟩ := open_int Tryz.underlying3 (hval 0 3 v0 rfl rfl) h0
  have b0 := wf_bounds_i64 w0
  obtain ⟨n1, rfl, rfl, rfl, w1⟩ := open_int Tryz.underlying3 (hval 1 3 v1 rfl rfl) h1
  have b1 := wf_bounds_i64 w1
  obtain ⟨n2, rfl, rfl, rfl, w2⟩ := open_int Tryz.underlying3 (hval 2 3 v2 rfl rfl) h2
  have b2 := wf_bounds_i64 w2
  obtain ⟨A3, len3, c3, rfl⟩ := okWide_slice Tryz.underlying34 (hval 3 34 v3 rfl rfl)
  have k3 := h3
  have lt3 : ∀ x ∈ p3, x.block < W.heap.size := by obtain ⟨m, hm⟩ := k3; exact DataW.trod_lt m _ _ _ hm
  obtain ⟨l3, rfl, hb3, hc3, hm3⟩ : ∃ l : List Nat, len3 = l.length ∧ Bytes W A3 l ∧ l.length ≤ c3 ∧ c3 ≤ 9223372036854775807 := by
    obtain ⟨fuel, hf⟩ := h3
    rcases open_ints Tryz.underlying34 Tryz.underlying5 (by kernel_rfl) hf with ⟨hcs, _⟩ | ⟨x, l, c, zs, hcs, _, hl, hm, hz, _, hcell, hwz⟩
    · simp [Value.cells] at hcs
      obtain ⟨rfl, rfl, rfl⟩ := hcs
      exact ⟨[], rfl, Bytes.nil _ _, by simp, by simp⟩
    · simp [Value.cells] at hcs
      obtain ⟨rfl, rfl, rfl⟩ := hcs
      obtain ⟨h1, h2⟩ := bytes_of hl (by simpa using hz) hcell hwz
      exact ⟨_, h2.symm, h1, by rw [h2]; exact hl, by have h := hm; simp only [maxLen] at h; omega⟩
  clear hA0
  refine (walk Poly.spec (Wl.spec Poly.spec) W n0 b0.1 b0.2 n1 b1.1 b1.2 n2 b2.1 b2.2 A3 l3 c3 hb3 hc3 hm3 ).mono fun e W' ⟨he, bel⟩ => ?_
  subst he
  exact ⟨_, rfl, _, _, _, [], _, [], hW', trodAll_mk1 (shut_bool Tryz.underlying4 _), (trodAll_cons_mk (shut_int Tryz.underlying3 w0) (trodAll_cons_mk (shut_int Tryz.underlying3 w1) (trodAll_cons_mk (shut_int Tryz.underlying3 w2) (trodAll_cons_mk (Below.trod laidOut (by kernel_rfl) (of_decide_eq_true (by kernel_rfl)) k3 bel lt3) trodAll_mk0)))), rfl, bel.frame _, fun h => by cases h⟩

set_option maxRecDepth 100000 in
theorem lifted (os : Os) (started : os.Started) (H : Type) (enc : TypeId × Value → H) :
    ReturnsInHanded {} Tryz.checked os 9 .any (Rows.msrFirstSpec.pre6 enc Tryz.prog Tryz.f9 Rows.msrFirstRow.domain false) (Rows.msrFirstSpec.post enc Tryz.prog Tryz.f9 false true false false) := by
  refine returnsInHanded_of_change_sized (C := Tryz.checked) own started (by kernel_rfl) Tryz.func9
    (ChangeSpec.witness6 (enc := enc) (C := Tryz.checked) false ⟨#[], #[.int .i64 0, .int .i64 0, .int .i64 0, .slice none 0 0], []⟩ 8 (by kernel_rfl) (by kernel_rfl) (by kernel_rfl) (by kernel_rfl)) ?_
  intro W base args ds gs before hval hW _ hsz _
  exact contract H enc W base args ds gs before hval hW hsz


theorem proved : Rows.MsrFirstSaid :=
  OpenClaim.holds_of_wide 9 Tryz.f9 rfl rfl rfl rfl rfl rfl rfl ⟨rfl, rfl, rfl, rfl, rfl⟩ rfl rfl rfl rfl rfl (by kernel_rfl) Tryz.func9 (by kernel_rfl)
    (of_decide_eq_true (by kernel_rfl)) (by unfold Func.isWrapper; first | (rw [if_pos (by decide +kernel)]; kernel_rfl) | (rw [if_neg (by decide +kernel)]; exact ⟨rfl, rfl⟩))
    (fun os started H enc _ => lifted os started H enc)
end Go.Proofs.YtpdpokedffphlaaGreat.msrFirst
