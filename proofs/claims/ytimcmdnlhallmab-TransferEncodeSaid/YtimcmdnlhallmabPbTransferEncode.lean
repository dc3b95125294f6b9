/- TransferEncode, for every input: the frame round the walk; the argument lists are opened, the walk's contract is met, what was read reads as it did. -/
import Derived.Test.YtimcmdnlhallmabPb12
import Derived.Test.YtimcmdnlhallmabRows
import Derived.Test.YtimcmdnlhallmabPb13
import Derived.WalkKit
import Derived.ProofKit
import Derived.OpenShut
import Derived.ShutString
import Derived.ChangeOld
import Derived.Below
import Derived.Deep.DeepHandedRow
import Derived.SizedLaws
namespace Go.Proofs.Ytimcmdnlhallmab.transferEncode
open Go.RowKit Go.Shelf F8 GF Poly Rd Ms Tr
attribute [local go_sem] Oper.semAt_some
theorem c2_past {b g : Nat} {n k : Int} {V V' : World} (h : C2 b n k V) (hb : b ≠ g) (hp : Past V.heap.size g V V') : C2 b n k V' := by
 have hlt : b < V.heap.size := cell_lt h.1
 have e := hp.block b hlt hb
 have hc : ∀ i : Nat, V'.cell? ⟨b, i, none⟩ = V.cell? ⟨b, i, none⟩ := fun i => by unfold World.cell?; simp only [e]
 exact ⟨(hc 0).trans h.1, (hc 1).trans h.2⟩
set_option maxRecDepth 100000 in
set_option maxHeartbeats 8000000 in
theorem core (PS : Poly.Spec) (w : World) (n k : Int) (hl0 : -9223372036854775808 ≤ n) (hn0 : n < 9223372036854775808) (hl1 : -9223372036854775808 ≤ k) (hn1 : k < 9223372036854775808) (B : Option Addr) (q : List F8) (o c : Nat) (ho : q.length = o) (hbq : Bytes w B (bs q)) (x y : Int) (D : Option Addr) (s : List F8) (m d : Nat) (hm : s.length = m) (hbs : Bytes w D (bs s)) :
  Calls Try.prog 4 #[.int .i64 n, .int .i64 k, .slice B o c, .int .i64 x, .int .i64 y, .slice D m d] w fun e w' => e = .returned (.bool true) ∧ Below w.heap.size w w' := by
 have HB := Lib.hid hbq
 have HO := Lib.hid ho
 have HD := Lib.hid hbs
 have HM := Lib.hid hm
 have hfew := few_calls n k w
 clear hbq ho hbs hm
 by_cases hno : ¬ Few n k ∨ o > 60 ∨ m > 60
 ·have hcase : ¬ Few n k ∨ (Few n k ∧ o > 60) ∨ (Few n k ∧ ¬ o > 60 ∧ m > 60) := by
   by_cases h1 : Few n k
   ·by_cases h2 : o > 60
    ·exact .inr (.inl ⟨h1, h2⟩)
    ·exact .inr (.inr ⟨h1, h2, (hno.resolve_left (fun h => h h1)).resolve_left h2⟩)
   ·exact .inl h1
  clear hno HB HO HD HM hl0 hn0 hl1 hn1
  rcases hcase with h1 | ⟨h1, h2⟩ | ⟨h1, h2, h3⟩
  ·rw [decide_eq_false h1] at hfew
   have HFew := Lib.hid hfew
   clear hfew h1
   go_enter Try.func4, Try.ntmps4
   go_wp2_with (first
    | (go_at_call 14; refine HFew.out.mono ?_; rintro e w0 ⟨rfl, rfl⟩)
    | (go_at_call 10; (with_reducible refine (works_calls PS _).mono ?_); rintro e wz ⟨rfl, HZ⟩))
   go_ret
   exact ⟨rfl, HZ⟩
  ·rw [decide_eq_true h1] at hfew
   have HFew := Lib.hid hfew
   have f1 : decide ((o : Int) > 60) = true := by simp; omega
   clear hfew h1 h2
   go_enter Try.func4, Try.ntmps4
   go_wp2_with (first
    | (go_at_call 14; refine HFew.out.mono ?_; rintro e w0 ⟨rfl, rfl⟩)
    | (go_at_call 10; (with_reducible refine (works_calls PS _).mono ?_); rintro e wz ⟨rfl, HZ⟩))
   go_ret
   exact ⟨rfl, HZ⟩
  ·rw [decide_eq_true h1] at hfew
   have HFew := Lib.hid hfew
   have f1 : decide ((o : Int) > 60) = false := by simp; omega
   have f2 : decide ((m : Int) > 60) = true := by simp; omega
   clear hfew h1 h2 h3
   go_enter Try.func4, Try.ntmps4
   go_wp2_with (first
    | (go_at_call 14; refine HFew.out.mono ?_; rintro e w0 ⟨rfl, rfl⟩)
    | (go_at_call 10; (with_reducible refine (works_calls PS _).mono ?_); rintro e wz ⟨rfl, HZ⟩))
   go_ret
   exact ⟨rfl, HZ⟩
 have hf : Few n k := Classical.not_not.1 fun h => hno (.inl h)
 have ho6 : o ≤ 60 := by omega
 have hm6 : m ≤ 60 := by omega
 rw [decide_eq_true hf] at hfew
 have HFew := Lib.hid hfew
 have HF := Lib.hid hf
 have f1 : decide ((o : Int) > 60) = false := by simp; omega
 have f2 : decide ((m : Int) > 60) = false := by simp; omega
 clear hfew hf hno
 go_enter Try.func4, Try.ntmps4
 go_wp2_with (go_at_call 14; refine HFew.out.mono ?_; rintro e w0 ⟨rfl, rfl⟩)
 refine (GF.new_calls w).mono ?_
 rintro e w1 ⟨rfl, hw1⟩
 have HMd := Lib.hid (made n k w w1 hw1 hl0 hn0 hl1 hn1)
 clear hw1 hl0 hn0 hl1 hn1
 go_wp2_with fail
 refine HMd.out.mono ?_
 clear HMd
 rintro e w2 (⟨hgood, S, hL, -, rfl⟩ | ⟨-, rfl, HBz⟩)
 rotate_left
 ·go_wp2_with (go_at_call 10; (with_reducible refine (works_calls PS _).mono ?_); rintro e wz ⟨rfl, HZ⟩)
  go_ret
  exact ⟨rfl, HBz.trans (HZ.mono HBz.size)⟩
 have HN := Lib.hid (show S.n < 24 ∧ S.k < S.n ∧ 0 < S.n from ⟨hL.lw.ok.n24, hL.lw.ok.kn, by have := hL.lw.ok.kn; omega⟩)
 obtain ⟨sn, hsn⟩ : ∃ sn, S.n = sn := ⟨_, rfl⟩
 obtain ⟨kn, hkn⟩ : ∃ kn, S.k = kn := ⟨_, rfl⟩
 obtain rfl : n = (sn : Int) := by rw [← hsn]; exact hL.en.symm
 obtain rfl : k = (kn : Int) := by rw [← hkn]; exact hL.ek.symm
 have HSn := Lib.hid hsn
 have HKn := Lib.hid hkn
 obtain ⟨w3, hw3⟩ : ∃ w3, w2.alloc (.cells #[.int .i64 (sn : Int), .int .i64 (kn : Int)] 29) = w3 := ⟨_, rfl⟩
 have hb3 : Below w2.heap.size w2 w3 := by rw [← hw3]; exact (Below.refl _ _).alloc (Nat.le_refl _) _
 have hc3 : C2 w2.heap.size (sn : Int) (kn : Int) w3 := by rw [← hw3]; exact C2.new w2 _ _
 have HL3 := Lib.hid (hL.lw.below hb3)
 have hq3 := HB.out.below HL3.out.bel
 have cv1 := conv_f hq3 o c HO.out
 have cv2 := Rd.conv_b q o HO.out w3
 have hge := le_grown w3 o
 obtain ⟨gc, hgc⟩ : ∃ gc, grownCap w3 o 0 5 = gc := ⟨_, rfl⟩
 rw [hgc] at cv2 hge
 have hbw := Rd.bw_below w3 q
 have hby := Rd.bw_bytes w3 q
 obtain ⟨w4, hw4⟩ : ∃ w4, Lib.bytesWorld w3 5 (str (bs q)) = w4 := ⟨_, rfl⟩
 rw [hw4] at cv2 hbw hby
 have HL4 := Lib.hid (HL3.out.below hbw)
 have HC4 := Lib.hid (C2.below hc3 hbw)
 have HBF4 : Hid (BF S.g w4 (some ⟨w3.heap.size, 0, none⟩) q) := Lib.hid ⟨hby, fun _ a b ha hb => by
  cases ha; cases hb
  have := HL3.out.ok.fld.fld.lt
  show w3.heap.size ≠ S.g
  omega⟩
 have HEn := Lib.hid (encU PS HL4.out.ok (some ⟨w3.heap.size, 0, none⟩) q o gc HO.out HBF4.out hge (by omega))
 obtain ⟨L, hLe⟩ : ∃ L, (encL S.n S.k q).length = L := ⟨_, rfl⟩
 obtain ⟨z, hz⟩ : ∃ z, encZ S.n S.k q = z := ⟨_, rfl⟩
 rw [hLe, hz] at HEn
 have hL9 : L ≤ 23 := by
  rw [← hLe]
  unfold encL
  split
  ·rw [List.length_map, List.length_range]; have := HN.out.1; omega
  ·exact Nat.zero_le _
 have HRe : Hid (∀ W, Below w.heap.size w W → FldP W (some ⟨S.g, 0, none⟩) → Calls Try.prog 16 #[.agg #[.int .i64 (sn : Nat), .int .i64 (kn : Nat)], .slice B o c] W fun e w' => EncU S.g S.n S.k q L z e w' ∧ Below W.heap.size W w') := Lib.hid fun W hW hfW => by
  have h1 := refEncU HN.out.1 HN.out.2.1 S.g B q o c HO.out W (HB.out.below hW) hfW
  rw [hLe, hz, hsn, hkn] at h1
  rw [hsn, hkn]
  exact h1
 obtain ⟨hv, hhv⟩ : ∃ hv, helpV S.n x y s = hv := ⟨_, rfl⟩
 obtain ⟨hz2, hhz⟩ : ∃ hz2, helpZ S.n x y s = hz2 := ⟨_, rfl⟩
 have HHe : Hid (∀ W, Lw S w W → Calls Try.prog 17 #[.pointer (some ⟨S.b, 0, none⟩), .int .i64 x, .int .i64 y, .slice D m d] W fun e w' => e = .returned (.tuple #[.int .u8 (hv : Nat), .int .i64 hz2]) ∧ W = w') := Lib.hid fun W hW => by
  have h1 := helpU hW.ok x y D s m d HM.out (HD.out.below hW.bel)
  rw [hhv, hhz] at h1
  exact h1
 have HRh : Hid (∀ W, Below w.heap.size w W → Calls Try.prog 18 #[.agg #[.int .i64 (sn : Nat), .int .i64 (kn : Int)], .int .i64 x, .int .i64 y, .slice D m d] W fun e w' => e = .returned (.tuple #[.int .u8 (hv : Nat), .int .i64 hz2]) ∧ Below W.heap.size W w') := Lib.hid fun W hW => by
  have h1 := refHelpU (kn : Int) HN.out.1 HN.out.2.2 x y D s m d HM.out W (HD.out.below hW)
  rw [hhv, hhz, hsn] at h1
  exact h1
 have hg2 : w2.heap.size ≠ S.g := by have := hL.lw.ok.fld.fld.lt; omega
 clear hL hb3 hc3 hq3 hbw hby hge hgc hLe hz hhv hhz hsn hkn hgood
 go_wp2_with fail
 refine HEn.out.mono ?_
 clear HEn
 rintro e w5 ⟨⟨A5, c5, l5, rfl, hl5, hs5, he5⟩, hf5, hp5⟩
 have HL5 := Lib.hid (HL4.out.go hf5 hp5)
 have HC5 := Lib.hid (c2_past HC4.out hg2 hp5)
 have HBF5 := Lib.hid (HBF4.out.past hp5)
 have HS5 := Lib.hid hs5
 have HE5 := Lib.hid he5
 have HN5 := Lib.hid hl5
 clear hl5 hs5 he5 hf5 hp5 HL4 HC4 HBF4 hg2
 obtain ⟨q1, q2⟩ := HC5.out
 go_wp2_with fail
 refine (HRe.out _ HL5.out.bel HL5.out.ok.fld).mono ?_
 rintro e w6 ⟨⟨A6, c6, l6, rfl, hl6, hs6, he6⟩, hb6⟩
 clear q1 q2 HRe
 have HL6 := Lib.hid (HL5.out.below hb6)
 have HC6 := Lib.hid (C2.below HC5.out hb6)
 have HBF6 := Lib.hid (HBF5.out.below hb6)
 have HS5' := Lib.hid (HS5.out.below hb6)
 have HS6 := Lib.hid hs6
 have HE6 := Lib.hid he6
 have HN6 := Lib.hid hl6
 clear hl6 hs6 he6 hb6 HL5 HC5 HBF5 HS5
 go_wp2_with fail
 refine (HHe.out _ HL6.out).mono ?_
 rintro e w7 ⟨rfl, rfl⟩
 clear HHe
 obtain ⟨q1, q2⟩ := HC6.out
 go_wp2_with fail
 refine (HRh.out _ HL6.out.bel).mono ?_
 rintro e w8 ⟨rfl, hb8⟩
 clear q1 q2 HRh
 have HL8 := Lib.hid (HL6.out.below hb8)
 have HBF8 := Lib.hid (HBF6.out.below hb8)
 have HSS := Lib.hid (sameS_calls S.g S.g A5 A6 l5 l6 L c5 c6 w8 HN5.out (by omega) HN6.out (HE5.out.trans HE6.out.symm) (HS5'.out.below hb8) (HS6.out.below hb8))
 have hz1 : (z == z) = true := by simp
 have hv1 : ((hv : Int) == (hv : Int)) = true := by simp
 have hz3 : (hz2 == hz2) = true := by simp
 clear hb8 HL6 HC6 HBF6 HS5' HS6 HE5 HE6 HN5 HN6
 go_wp2_with (first
  | (go_at_call 19; (with_reducible refine HSS.out.mono ?_); rintro e w9 ⟨rfl, hb9⟩; have HL9 := Lib.hid (HL8.out.below hb9); have hsb := same_calls _ B q q o o gc c w9 HO.out HO.out (HBF8.out.below hb9).by_ (HB.out.below HL9.out.bel); rw [decide_eq_true rfl] at hsb; have HSB := Lib.hid hsb; clear hb9 hsb)
  | (go_at_call 20; (with_reducible refine HSB.out.mono ?_); rintro e w10 ⟨rfl, rfl⟩)
  | (go_at_call 10; (with_reducible refine (works_calls PS _).mono ?_); rintro e wz ⟨rfl, HZ⟩))
 go_ret
 exact ⟨rfl, HL9.out.bel.trans (HZ.mono HL9.out.bel.size)⟩
theorem walk (PS : Poly.Spec) (w : World) (n0 : Int) (hl0 : -9223372036854775808 ≤ n0) (hn0 : n0 < 9223372036854775808) (n1 : Int) (hl1 : -9223372036854775808 ≤ n1) (hn1 : n1 < 9223372036854775808) (A2 : Option Addr) (l2 : List Nat) (c2 : Nat) (hb2 : Bytes w A2 l2) (_hc2 : l2.length ≤ c2) (_hm2 : c2 ≤ 9223372036854775807) (n3 : Int) (_hl3 : -9223372036854775808 ≤ n3) (_hn3 : n3 < 9223372036854775808) (n4 : Int) (_hl4 : -9223372036854775808 ≤ n4) (_hn4 : n4 < 9223372036854775808) (A5 : Option Addr) (l5 : List Nat) (c5 : Nat) (hb5 : Bytes w A5 l5) (_hc5 : l5.length ≤ c5) (_hm5 : c5 ≤ 9223372036854775807) :
  Calls Try.prog 4 #[.int .i64 n0, .int .i64 n1, .slice A2 l2.length c2, .int .i64 n3, .int .i64 n4, .slice A5 l5.length c5] w fun e w' => e = .returned (.bool true) ∧ Below w.heap.size w w' := by
 obtain ⟨q, rfl⟩ := F8.of_bytes l2 hb2.lt
 obtain ⟨s, rfl⟩ := F8.of_bytes l5 hb5.lt
 exact core PS w n0 n1 hl0 hn0 hl1 hn1 A2 q _ c2 (bs_length q).symm hb2 n3 n4 A5 s _ c5 (bs_length s).symm hb5
end Go.Proofs.Ytimcmdnlhallmab.transferEncode

namespace Go.Proofs.Ytimcmdnlhallmab.transferEncode
open Go.ChangeShapes Go.WideShapes Go.ChangeAt Go.RowKit
open Go.ChangeMaps (open_string shut_string)
set_option linter.unusedVariables false
theorem own : ownKnob Try.prog.godebug = none := by kernel_rfl
theorem laidOut : laidOutB Try.prog = true := by kernel_rfl
set_option maxRecDepth 100000 in
theorem contract (H : Type) (enc : TypeId × Value → H) (W : World) (base : Nat) (args : Array Value) (ds gs : List (DataW H)) (before : List MemPlace)
  (hval : ∀ (j : Nat) t v, Try.f4.params[j]? = some t → args[j]? = some v → Value.okWide Try.prog W .any base t v)
  (hW : DataW.Whole enc Try.prog Try.f4.params.toList Rows.transferEncodeSpec.vars false W args.toList ds gs before)
  (hsz : (DataW.weightsEach Try.prog (Try.f4.params.toList ++ Rows.transferEncodeSpec.plain.varTypes Try.prog) (ds ++ gs)).all (· ≤ reachBytes) = true) :
  Calls Try.prog 4 args W fun e W' => ∃ v, e = .returned v ∧ Rows.transferEncodeSpec.post enc Try.prog Try.f4 false true false false W args v W' := by
 have hW' := hW
 obtain ⟨p, q, hA0, hV, rfl, hfz, hnd⟩ := hW
 have hA : DataW.TrodAll enc Try.prog W 0 (fun _ => true) true Try.f4.params.toList args.toList ds p := hA0
 rw [Try.params4] at hA hval hsz
 obtain ⟨v0, vs0, d0, ds0, p0, q0, hargs, rfl, rfl, h0, r0⟩ := trodAll_cons hA
 obtain ⟨v1, vs1, d1, ds1, p1, q1, rfl, rfl, rfl, h1, r1⟩ := trodAll_cons r0
 obtain ⟨v2, vs2, d2, ds2, p2, q2, rfl, rfl, rfl, h2, r2⟩ := trodAll_cons r1
 obtain ⟨v3, vs3, d3, ds3, p3, q3, rfl, rfl, rfl, h3, r3⟩ := trodAll_cons r2
 obtain ⟨v4, vs4, d4, ds4, p4, q4, rfl, rfl, rfl, h4, r4⟩ := trodAll_cons r3
 obtain ⟨v5, vs5, d5, ds5, p5, q5, rfl, rfl, rfl, h5, r5⟩ := trodAll_cons r4
 obtain ⟨rfl, rfl, rfl⟩ := trodAll_nil r5
 obtain rfl : args = #[v0, v1, v2, v3, v4, v5] := by cases args; simp_all
 obtain ⟨rfl, rfl⟩ := trodVars_none hV
 obtain ⟨n0, rfl, rfl, rfl, w0⟩ := open_int Try.underlying3 (hval 0 3 v0 rfl rfl) h0
 have b0 := wf_bounds_i64 w0
 obtain ⟨n1, rfl, rfl, rfl, w1⟩ := open_int Try.underlying3 (hval 1 3 v1 rfl rfl) h1
 have b1 := wf_bounds_i64 w1
 obtain ⟨A2, len2, c2, rfl⟩ := okWide_slice Try.underlying34 (hval 2 34 v2 rfl rfl)
 have k2 := h2
 have lt2 : ∀ x ∈ p2, x.block < W.heap.size := by obtain ⟨m, hm⟩ := k2; exact DataW.trod_lt m _ _ _ hm
 obtain ⟨l2, rfl, hb2, hc2, hm2⟩ : ∃ l : List Nat, len2 = l.length ∧ Bytes W A2 l ∧ l.length ≤ c2 ∧ c2 ≤ 9223372036854775807 := by
  obtain ⟨fuel, hf⟩ := h2
  rcases open_ints Try.underlying34 Try.underlying5 (by kernel_rfl) hf with ⟨hcs, _⟩ | ⟨x, l, c, zs, hcs, _, hl, hm, hz, _, hcell, hwz⟩
  ·simp [Value.cells] at hcs
   obtain ⟨rfl, rfl, rfl⟩ := hcs
   exact ⟨[], rfl, Bytes.nil _ _, by simp, by simp⟩
  ·simp [Value.cells] at hcs
   obtain ⟨rfl, rfl, rfl⟩ := hcs
   obtain ⟨h1, h2⟩ := bytes_of hl (by simpa using hz) hcell hwz
   exact ⟨_, h2.symm, h1, by rw [h2]; exact hl, by have h := hm; simp only [maxLen] at h; omega⟩
 obtain ⟨n3, rfl, rfl, rfl, w3⟩ := open_int Try.underlying3 (hval 3 3 v3 rfl rfl) h3
 have b3 := wf_bounds_i64 w3
 obtain ⟨n4, rfl, rfl, rfl, w4⟩ := open_int Try.underlying3 (hval 4 3 v4 rfl rfl) h4
 have b4 := wf_bounds_i64 w4
 obtain ⟨A5, len5, c5, rfl⟩ := okWide_slice Try.underlying34 (hval 5 34 v5 rfl rfl)
 have k5 := h5
 have lt5 : ∀ x ∈ p5, x.block < W.heap.size := by obtain ⟨m, hm⟩ := k5; exact DataW.trod_lt m _ _ _ hm
 obtain ⟨l5, rfl, hb5, hc5, hm5⟩ : ∃ l : List Nat, len5 = l.length ∧ Bytes W A5 l ∧ l.length ≤ c5 ∧ c5 ≤ 9223372036854775807 := by
  obtain ⟨fuel, hf⟩ := h5
  rcases open_ints Try.underlying34 Try.underlying5 (by kernel_rfl) hf with ⟨hcs, _⟩ | ⟨x, l, c, zs, hcs, _, hl, hm, hz, _, hcell, hwz⟩
  ·simp [Value.cells] at hcs
   obtain ⟨rfl, rfl, rfl⟩ := hcs
   exact ⟨[], rfl, Bytes.nil _ _, by simp, by simp⟩
  ·simp [Value.cells] at hcs
   obtain ⟨rfl, rfl, rfl⟩ := hcs
   obtain ⟨h1, h2⟩ := bytes_of hl (by simpa using hz) hcell hwz
   exact ⟨_, h2.symm, h1, by rw [h2]; exact hl, by have h := hm; simp only [maxLen] at h; omega⟩
 clear hA0
 refine (walk Poly.spec W n0 b0.1 b0.2 n1 b1.1 b1.2 A2 l2 c2 hb2 hc2 hm2 n3 b3.1 b3.2 n4 b4.1 b4.2 A5 l5 c5 hb5 hc5 hm5 ).mono fun e W' ⟨he, bel⟩ => ?_
 subst he
 exact ⟨_, rfl, _, _, _, [], _, [], hW', trodAll_mk1 (shut_bool Try.underlying4 _), (trodAll_cons_mk (shut_int Try.underlying3 w0) (trodAll_cons_mk (shut_int Try.underlying3 w1) (trodAll_cons_mk (Below.trod laidOut (by kernel_rfl) (of_decide_eq_true (by kernel_rfl)) k2 bel lt2) (trodAll_cons_mk (shut_int Try.underlying3 w3) (trodAll_cons_mk (shut_int Try.underlying3 w4) (trodAll_cons_mk (Below.trod laidOut (by kernel_rfl) (of_decide_eq_true (by kernel_rfl)) k5 bel lt5) trodAll_mk0)))))), rfl, bel.frame _, fun h => by cases h⟩
set_option maxRecDepth 100000 in
theorem lifted (os : Os) (started : os.Started) (H : Type) (enc : TypeId × Value → H) :
  ReturnsInHanded {} Try.checked os 4 .any (Rows.transferEncodeSpec.pre6 enc Try.prog Try.f4 Rows.transferEncodeRow.domain false) (Rows.transferEncodeSpec.post enc Try.prog Try.f4 false true false false) := by
 refine returnsInHanded_of_change_sized (C := Try.checked) own started (by kernel_rfl) Try.func4
  (ChangeSpec.witness6 (enc := enc) (C := Try.checked) false ⟨#[], #[.int .i64 0, .int .i64 0, .slice none 0 0, .int .i64 0, .int .i64 0, .slice none 0 0], []⟩ 8 (by kernel_rfl) (by kernel_rfl) (by kernel_rfl) (by kernel_rfl)) ?_
 intro W base args ds gs before hval hW _ hsz _
 exact contract H enc W base args ds gs before hval hW hsz
theorem proved : Rows.TransferEncodeSaid :=
 OpenClaim.holds_of_wide 4 Try.f4 rfl rfl rfl rfl rfl rfl rfl ⟨rfl, rfl, rfl, rfl, rfl⟩ rfl rfl rfl rfl rfl (by kernel_rfl) Try.func4 (by kernel_rfl)
  (of_decide_eq_true (by kernel_rfl)) (by unfold Func.isWrapper; first | (rw [if_pos (by decide +kernel)]; kernel_rfl) | (rw [if_neg (by decide +kernel)]; exact ⟨rfl, rfl⟩))
  (fun os started H enc _ => lifted os started H enc)
end Go.Proofs.Ytimcmdnlhallmab.transferEncode
