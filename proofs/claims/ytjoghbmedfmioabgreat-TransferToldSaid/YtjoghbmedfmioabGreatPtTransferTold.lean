/- TransferTold, for every input: the frame round the walk; the argument lists are opened, the walk's contract is met, what was read reads as it did. -/
import Derived.Test.YtjoghbmedfmioabGreatPt14
import Derived.Test.YtjoghbmedfmioabGreatPt11
import Derived.Test.YtjoghbmedfmioabGreatPt15
import Derived.Test.YtjoghbmedfmioabGreatRows
import Derived.WalkKit
import Derived.ProofKit
import Derived.OpenShut
import Derived.ShutString
import Derived.ChangeOld
import Derived.Below
import Derived.Deep.DeepHandedRow
import Derived.SizedLaws
namespace Go.Proofs.YtjoghbmedfmioabGreat.transferTold
open Go.RowKit Go.Shelf F8 GF Poly Rd Ms Tr
attribute [local go_sem] Oper.semAt_some

theorem TE.lst {g B : Nat} {V : World} {E : List El} (h : TE B V E) (hg : g < B) : Lst g V E := fun e he => by
 obtain ⟨b, h1, h2, -, h3, -, h4⟩ := h.own e he
 refine ⟨⟨h3, fun _ a q ha hq => ?_⟩, h4⟩
 rw [h1] at ha
 cases ha; cases hq
 show b ≠ g
 omega
theorem rep_congr {n : Nat} {to : Int} {E l : List El} (h : shE E = shE l) : repV n to E = repV n to l ∧ repZ n to E = repZ n to l ∧ E.length = l.length := by
 have hl : E.length = l.length := by have := congrArg List.length h; rwa [shE_length, shE_length] at this
 have e1 : ∀ x : List El, Sy.elsN x = (shE x).map fun o => (o.1, o.2.length) := fun x => by unfold Sy.elsN shE; rw [List.map_map]; rfl
 have e2 : ∀ (x : List El) (j : Nat), oneR x j = ((shE x).filter fun o => decide (o.1 = (j : Int))).map fun o => coef o.2 0 := fun x j => by
  unfold oneR shE
  rw [List.filter_map, List.map_map]; rfl
 have e3 : RepOk n to E ↔ RepOk n to l := by unfold RepOk; rw [e1, e1, h]
 have e4 : repL n E = repL n l := by
  unfold repL
  rw [show oneR E = oneR l from funext fun j => by rw [e2, e2, h]]
 refine ⟨?_, ?_, hl⟩
 ·unfold repV
  by_cases hk : RepOk n to E ∧ n - 1 ≤ E.length
  ·rw [if_pos hk, if_pos ⟨e3.1 hk.1, hl ▸ hk.2⟩, e4]
  ·rw [if_neg hk, if_neg (fun h2 => hk ⟨e3.2 h2.1, hl ▸ h2.2⟩)]
 ·unfold repZ
  by_cases hk : RepOk n to E
  ·rw [if_pos hk, if_pos (e3.1 hk), hl]
  ·rw [if_neg hk, if_neg (fun h2 => hk (e3.2 h2))]
set_option maxRecDepth 100000 in
set_option maxHeartbeats 8000000 in
theorem core (PS : Poly.Spec) (w : World) (n k to : Int) (hl0 : -9223372036854775808 ≤ n) (hn0 : n < 9223372036854775808) (hl1 : -9223372036854775808 ≤ k) (hn1 : k < 9223372036854775808) (A1 : Option Addr) (l1 : List El) (m1 c1 : Nat) (hm1 : l1.length = m1) (hs1 : Sym0 w A1 l1) (A2 : Option Addr) (l2 : List El) (m2 c2 : Nat) (hm2 : l2.length = m2) (hs2 : Sym0 w A2 l2) :
  Calls Tryz.prog 3 #[.int .i64 n, .int .i64 k, .int .i64 to, .slice A1 m1 c1, .slice A2 m2 c2] w fun e w' => e = .returned (.bool true) ∧ Below w.heap.size w w' := by
 have HS1 := Lib.hid hs1
 have HS2 := Lib.hid hs2
 have HM1 := Lib.hid hm1
 have HM2 := Lib.hid hm2
 have hfew := few_calls n k w
 have hb1 : m1 ≤ 140737488355328 := by rw [← hm1]; exact hs1.len
 have hb2 : m2 ≤ 140737488355328 := by rw [← hm2]; exact hs2.len
 clear hs1 hs2 hm1 hm2
 by_cases hf : Few n k
 rotate_left
 ·rw [decide_eq_false hf] at hfew
  have HFew := Lib.hid hfew
  clear hfew hf HS1 HS2 HM1 HM2
  go_enter Tryz.func3, Tryz.ntmps3
  go_wp2_with (first
   | (go_at_call 5; refine HFew.out.mono ?_; rintro e w0 ⟨rfl, rfl⟩)
   | (go_at_call 7; (with_reducible refine (works_calls PS _).mono ?_); rintro e wz ⟨rfl, HZ⟩))
  go_ret
  exact ⟨rfl, HZ⟩
 rw [decide_eq_true hf] at hfew
 have HFew := Lib.hid hfew
 have HF := Lib.hid hf
 clear hfew hf
 have hL1 := lite_calls A1 l1 m1 c1 9 9 w HM1.out (by omega) HS1.out.row
 by_cases h1 : LiteOk l1 9 9
 rotate_left
 ·rw [decide_eq_false h1] at hL1
  have HL1 := Lib.hid hL1
  clear hL1 h1 HS1 HS2 HM1 HM2 HF
  go_enter Tryz.func3, Tryz.ntmps3
  go_wp2_with (first
   | (go_at_call 5; refine HFew.out.mono ?_; rintro e w0 ⟨rfl, rfl⟩)
   | (go_at_call 6; (with_reducible refine HL1.out.mono ?_); rintro e w2 ⟨rfl, hb⟩; have HB := Lib.hid hb; clear hb)
   | (go_at_call 7; (with_reducible refine (works_calls PS _).mono ?_); rintro e wz ⟨rfl, HZ⟩))
  go_ret
  exact ⟨rfl, HB.out.trans (HZ.mono HB.out.size)⟩
 rw [decide_eq_true h1] at hL1
 have HL1 := Lib.hid hL1
 have HLi1 := Lib.hid h1
 clear hL1 h1
 obtain ⟨b2, hb2v⟩ : ∃ b2, decide (LiteOk l2 9 9) = b2 := ⟨_, rfl⟩
 have HL2 : Hid (∀ V, Below w.heap.size w V → Calls Tryz.prog 6 #[.slice A2 m2 c2, .int .i64 9, .int .i64 9] V fun e w' => e = .returned (.bool b2) ∧ Below V.heap.size V w') := Lib.hid fun V hV => by
  rw [← hb2v]
  exact lite_calls A2 l2 m2 c2 9 9 V HM2.out (by omega) (HS2.out.row.below hV)
 cases b2 with
 | false =>
  clear hb2v HS1 HS2 HM1 HM2 HF HLi1
  go_enter Tryz.func3, Tryz.ntmps3
  go_wp2_with (first
   | (go_at_call 5; refine HFew.out.mono ?_; rintro e w0 ⟨rfl, rfl⟩)
   | (go_at_call 6; (with_reducible refine HL1.out.mono ?_); rintro e w2 ⟨rfl, hb⟩; have HB := Lib.hid hb; clear hb)
   | (go_at_call 6; (with_reducible refine (HL2.out _ HB.out).mono ?_); rintro e w3 ⟨rfl, hb⟩; have HB3 := Lib.hid (HB.out.trans (hb.mono HB.out.size)); clear hb)
   | (go_at_call 7; (with_reducible refine (works_calls PS _).mono ?_); rintro e wz ⟨rfl, HZ⟩))
  go_ret
  exact ⟨rfl, HB3.out.trans (HZ.mono HB3.out.size)⟩
 | true =>
  have HLi2 := Lib.hid (of_decide_eq_true hb2v)
  have hm1 : m1 ≤ 9 := by have := HLi1.out.1; have := HM1.out; omega
  have hm2 : m2 ≤ 9 := by have := HLi2.out.1; have := HM2.out; omega
  clear hb2v hb1 hb2
  go_enter Tryz.func3, Tryz.ntmps3
  go_wp2_with (first
   | (go_at_call 5; refine HFew.out.mono ?_; rintro e w0 ⟨rfl, rfl⟩)
   | (go_at_call 6; (with_reducible refine HL1.out.mono ?_); rintro e w2 ⟨rfl, hb⟩; have HB := Lib.hid hb; clear hb)
   | (go_at_call 6; (with_reducible refine (HL2.out _ HB.out).mono ?_); rintro e w3 ⟨rfl, hb⟩; have HB3 := Lib.hid (HB.out.trans (hb.mono HB.out.size)); clear hb))
  clear HL1 HL2 HB HFew
  refine (GF.new_calls _).mono ?_
  rintro e w4 ⟨rfl, hw4⟩
  have HMd := Lib.hid (made n k w3 w4 hw4 hl0 hn0 hl1 hn1)
  clear hw4 hl0 hn0 hl1 hn1
  go_wp2_with fail
  refine HMd.out.mono ?_
  clear HMd
  rintro e w5 (⟨hgood, S, hL, -, rfl⟩ | ⟨-, rfl, HBz⟩)
  rotate_left
  ·have HB5 := HB3.out.trans (HBz.mono HB3.out.size)
   go_wp2_with (go_at_call 7; (with_reducible refine (works_calls PS _).mono ?_); rintro e wz ⟨rfl, HZ⟩)
   go_ret
   exact ⟨rfl, HB5.trans (HZ.mono HB5.size)⟩
  have HN := Lib.hid (show S.n < 24 ∧ S.k < S.n ∧ 0 < S.n from ⟨hL.lw.ok.n24, hL.lw.ok.kn, by have := hL.lw.ok.kn; omega⟩)
  have HE := Lib.hid (show pts S.E = pts (rs S.n S.n) from rfl)
  obtain ⟨sn, hsn⟩ : ∃ sn, S.n = sn := ⟨_, rfl⟩
  obtain ⟨kn, hkn⟩ : ∃ kn, S.k = kn := ⟨_, rfl⟩
  obtain rfl : n = (sn : Int) := by rw [← hsn]; exact hL.en.symm
  obtain rfl : k = (kn : Int) := by rw [← hkn]; exact hL.ek.symm
  have HSn := Lib.hid hsn
  have HKn := Lib.hid hkn
  have hg5 := hL.lw.gw
  have hsg : w.heap.size ≤ S.g := Nat.le_trans HB3.out.size hg5
  have HBW : Hid (∀ V, Lw S w3 V → Below w.heap.size w V) := Lib.hid fun V hV => HB3.out.trans (hV.bel.mono HB3.out.size)
  obtain ⟨w6, hw6⟩ : ∃ w6, w5.alloc (.cells #[.int .i64 (sn : Int), .int .i64 (kn : Int)] 33) = w6 := ⟨_, rfl⟩
  have hb6 : Below w5.heap.size w5 w6 := by rw [← hw6]; exact (Below.refl _ _).alloc (Nat.le_refl _) _
  have hc6 : C2 w5.heap.size (sn : Int) (kn : Int) w6 := by rw [← hw6]; exact C2.new w5 _ _
  have HL6 := Lib.hid (hL.lw.below hb6)
  have HC6 := Lib.hid hc6
  have hgc : w5.heap.size ≠ S.g := by have := hL.lw.ok.fld.fld.lt; omega
  have hg6 : S.g < w6.heap.size := HL6.out.ok.fld.fld.lt
  have HEl1 := Lib.hid (HS1.out.els hsg)
  have HEl2 := Lib.hid (HS2.out.els hsg)
  have HO1 := Lib.hid (ownS_calls S.g A1 l1 m1 c1 w6 HM1.out (by omega) (HEl1.out.below (HBW.out _ HL6.out)) (fun e he => by have := HLi1.out.2 e he; omega))
  clear hL hsn hkn hgood hb6 hc6
  go_wp2_with fail
  refine HO1.out.mono ?_
  clear HO1
  rintro e w7 ⟨B1, d1, E1, rfl, hd1, hO1, hT1, hE1, hb7⟩
  have HL7 := Lib.hid (HL6.out.below hb7)
  have HC7 := Lib.hid (C2.below HC6.out hb7)
  have hg7 := hb7.size
  have HO2 := Lib.hid (ownS_calls S.g A2 l2 m2 c2 w7 HM2.out (by omega) (HEl2.out.below (HBW.out _ HL7.out)) (fun e he => by have := HLi2.out.2 e he; omega))
  have HEw1 := Lib.hid (hO1.els (TE.lst hT1 hg6))
  obtain ⟨hv1, hz1, hn1⟩ := rep_congr (n := sn) (to := to) hE1
  have HEq1 := Lib.hid hE1
  rw [HM1.out] at hd1 hn1 ⊢
  have HV1 := Lib.hid hv1
  have HZ1 := Lib.hid hz1
  have HN1 := Lib.hid hn1
  clear hO1 hT1 hE1 hb7 HL6 HC6 hv1 hz1 hn1
  go_wp2_with fail
  refine HO2.out.mono ?_
  clear HO2
  rintro e w8 ⟨B2, d2, E2, rfl, hd2, hO2, hT2, hE2, hb8⟩
  have HL8 := Lib.hid (HL7.out.below hb8)
  have HC8 := Lib.hid (C2.below HC7.out hb8)
  have HEw2 := Lib.hid (hO2.els (TE.lst hT2 (show S.g < w7.heap.size by omega)))
  have HEw1' := Lib.hid (HEw1.out.below hb8)
  have hn2 : E2.length = l2.length := by have := congrArg List.length hE2; rwa [shE_length, shE_length] at this
  rw [HM2.out] at hd2 hn2 ⊢
  have HN2 := Lib.hid hn2
  have HEq2 := Lib.hid hE2
  obtain ⟨rv, hrv⟩ : ∃ rv, repV sn to l1 = rv := ⟨_, rfl⟩
  obtain ⟨rz, hrz⟩ : ∃ rz, repZ sn to l1 = rz := ⟨_, rfl⟩
  have hRe := repU HL8.out.ok to B1 E1 m1 d1 HN1.out (by omega) HEw1'.out
  rw [HSn.out, HV1.out, HZ1.out, hrv, hrz] at hRe
  have HRe := Lib.hid hRe
  have HRf : Hid (∀ V, Lw S w3 V → Calls Tryz.prog 12 #[.agg #[.int .i64 (sn : Nat), .int .i64 (kn : Int)], .int .i64 to, .slice A1 m1 c1] V (RepR V rv rz)) := Lib.hid fun V hV => by
   have h1 := refRepU (n := sn) (kn : Int) (by rw [← HSn.out]; exact HN.out.1) S.g to A1 l1 m1 c1 HM1.out (by omega) V (HEl1.out.below (HBW.out _ hV))
   rw [hrv, hrz] at h1
   exact h1
  have HDf : Hid (∀ V, Lw S w3 V → Calls Tryz.prog 14 #[.agg #[.int .i64 (sn : Nat), .int .i64 (kn : Nat)], .slice A2 m2 c2] V fun e w' => ∃ ms z, TIs sn kn (pts (rs sn sn)) (shE l2) ms z ∧ RepR V ms z e w') := Lib.hid fun V hV =>
   refDec_calls (by rw [← HSn.out]; exact HN.out.1) (by rw [← HSn.out, ← HKn.out]; exact HN.out.2.1) S.g A2 l2 m2 c2 HM2.out (by omega) V (HEl2.out.below (HBW.out _ hV)) hV.ok.fld
  clear hO2 hT2 hE2 hb8 hn2 HL7 HC7 HEw1 hRe hrv hrz HV1 HZ1
  go_wp2_with fail
  refine HRe.out.mono ?_
  clear HRe
  rintro e w9 ⟨A3, c3, rfl, hc3, hO3, hb9⟩
  have HL9 := Lib.hid (HL8.out.below hb9)
  have HC9 := Lib.hid (C2.below HC8.out hb9)
  have HEa := Lib.hid (HEw1'.out.below hb9)
  have HEb := Lib.hid (HEw2.out.below hb9)
  have HR3 := Lib.hid (BF.own HL9.out.ok.fld hO3)
  obtain ⟨rn, hrn⟩ : ∃ rn, rv.length = rn := ⟨_, rfl⟩
  have HRn := Lib.hid hrn
  rw [hrn] at hc3 ⊢
  obtain ⟨q1, q2⟩ := HC9.out
  clear hO3 hb9 hrn HL8 HC8 HEw1' HEw2
  go_wp2_with fail
  refine (HRf.out _ HL9.out).mono ?_
  rintro e w10 ⟨A4, c4, rfl, hc4, hO4, hb10⟩
  have HL10 := Lib.hid (HL9.out.below hb10)
  have HC10 := Lib.hid (C2.below HC9.out hb10)
  have HEa2 := Lib.hid (HEa.out.below hb10)
  have HEb2 := Lib.hid (HEb.out.below hb10)
  have HR3b := Lib.hid (HR3.out.below hb10)
  have HR4 := Lib.hid (BF.own HL10.out.ok.fld hO4)
  rw [HRn.out] at hc4 ⊢
  have HDe := Lib.hid (decode_calls PS HL10.out.ok B2 E2 m2 d2 HN2.out (by omega) HEb2.out)
  clear hO4 hb10 q1 q2 HL9 HC9 HEa HEb HR3
  go_wp2_with fail
  refine HDe.out.mono ?_
  clear HDe
  rintro e w11 ⟨ms, z, hti, A5, c5, rfl, hc5, hO5, hf11, hp11⟩
  have hp11 : Past w10.heap.size S.g w10 w11 := hp11
  have HL11 := Lib.hid (HL10.out.go hf11 hp11)
  have HC11 : Hid (C2 w5.heap.size (sn : Int) (kn : Int) w11) := Lib.hid (by
   have h := HC10.out
   have hlt : w5.heap.size < w10.heap.size := cell_lt h.1
   have e := hp11.block _ hlt hgc
   have hc : ∀ i : Nat, w11.cell? ⟨w5.heap.size, i, none⟩ = w10.cell? ⟨w5.heap.size, i, none⟩ := fun i => by unfold World.cell?; simp only [e]
   exact ⟨(hc 0).trans h.1, (hc 1).trans h.2⟩)
  have HEa3 := Lib.hid (HEa2.out.past HL10.out.ok.fld.fld hp11)
  have HEb3 := Lib.hid (HEb2.out.past HL10.out.ok.fld.fld hp11)
  have HR3c := Lib.hid (HR3b.out.past hp11)
  have HR4b := Lib.hid (HR4.out.past hp11)
  have HR5 := Lib.hid (BF.own HL11.out.ok.fld hO5)
  rw [HEq2.out, HSn.out, HKn.out, HE.out, HSn.out] at hti
  have HTi := Lib.hid hti
  obtain ⟨mn, hmn⟩ : ∃ mn, ms.length = mn := ⟨_, rfl⟩
  have HMn := Lib.hid hmn
  rw [hmn] at hc5 ⊢
  obtain ⟨q1, q2⟩ := HC11.out
  clear hti hO5 hf11 hp11 hmn HL10 HC10 HEa2 HEb2 HR3b HR4
  go_wp2_with fail
  refine (HDf.out _ HL11.out).mono ?_
  rintro e w12 ⟨ms', z', hti', A6, c6, rfl, hc6, hO6, hb12⟩
  have hn24 : sn < 24 := by rw [← HSn.out]; exact HN.out.1
  obtain ⟨rfl, rfl⟩ := HTi.out.only (pts_length _) (pts_nodup (edges_n sn hn24).2) hti'
  have HL12 := Lib.hid (HL11.out.below hb12)
  have HEa4 := Lib.hid (HEa3.out.below hb12)
  have HEb4 := Lib.hid (HEb3.out.below hb12)
  have HR6 := Lib.hid (BF.own HL12.out.ok.fld hO6)
  have HR5b := HR5.out.below hb12
  have HR3d := HR3c.out.below hb12
  have HR4c := HR4b.out.below hb12
  rw [HMn.out] at hc6 ⊢
  have hSa := same_calls A3 A4 rv rv rn rn c3 c4 w12 HRn.out HRn.out HR3d.by_ HR4c.by_
  rw [decide_eq_true rfl] at hSa
  have HSa := Lib.hid hSa
  have hSb := same_calls A5 A6 ms ms mn mn c5 c6 w12 HMn.out HMn.out HR5b.by_ HR6.out.by_
  rw [decide_eq_true rfl] at hSb
  have HSb := Lib.hid hSb
  have hps : ∀ {E l : List El}, shE E = shE l → E.map El.p = l.map El.p ∧ E.map El.s = l.map El.s := fun {E l} h => by
   have h1 := congrArg (List.map Prod.fst) h
   have h2 := congrArg (List.map Prod.snd) h
   unfold shE at h1 h2
   rw [List.map_map, List.map_map] at h1 h2
   exact ⟨h1, h2⟩
  have HSs1 := Lib.hid (sameSym_calls B1 A1 E1 l1 m1 d1 c1 w12 HN1.out HM1.out (by omega) (hps HEq1.out).1 (hps HEq1.out).2 HEa4.out.row (HS1.out.below (HBW.out _ HL12.out)).row (fun e he => (HEa4.out.lst e he).1.by_) (fun e he => ((HS1.out.below (HBW.out _ HL12.out)).by_ e he).1))
  have HSs2 : Hid (∀ V, Below w12.heap.size w12 V → Calls Tryz.prog 16 #[.slice B2 m2 d2, .slice A2 m2 c2] V fun e w' => e = .returned (.bool true) ∧ Below V.heap.size V w') := Lib.hid fun V hV =>
   sameSym_calls B2 A2 E2 l2 m2 d2 c2 V HN2.out HM2.out (by omega) (hps HEq2.out).1 (hps HEq2.out).2 (HEb4.out.below hV).row (HS2.out.below (HBW.out _ (HL12.out.below hV))).row (fun e he => ((HEb4.out.below hV).lst e he).1.by_) (fun e he => ((HS2.out.below (HBW.out _ (HL12.out.below hV))).by_ e he).1)
  have hz1 : (rz == rz) = true := by simp
  have hz2 : (z == z) = true := by simp
  have HBl := Lib.hid (HBW.out _ HL12.out)
  clear hti' hO6 hb12 HR5b HR3d HR4c hSa hSb hps q1 q2 HL11 HC11 HEa3 HEb3 HR3c HR4b HR5 HTi HRf HDf
  go_wp2_with (first
   | (go_at_call 15; (with_reducible refine HSa.out.mono ?_); rintro e wq ⟨rfl, rfl⟩)
   | (go_at_call 15; (with_reducible refine HSb.out.mono ?_); rintro e wq ⟨rfl, rfl⟩)
   | (go_at_call 16; (with_reducible refine HSs1.out.mono ?_); rintro e w13 ⟨rfl, hb13⟩; have HB13 := Lib.hid hb13; clear hb13)
   | (go_at_call 16; (with_reducible refine (HSs2.out _ HB13.out).mono ?_); rintro e w14 ⟨rfl, hb14⟩; have HB14 := Lib.hid (HB13.out.trans (hb14.mono HB13.out.size)); clear hb14)
   | (go_at_call 7; (with_reducible refine (works_calls PS _).mono ?_); rintro e wz ⟨rfl, HZ⟩))
  go_ret
  have hb14 := HBl.out.trans (HB14.out.mono HBl.out.size)
  exact ⟨rfl, hb14.trans (HZ.mono hb14.size)⟩
theorem walk (PS : Poly.Spec) (w : World) (n0 : Int) (hl0 : -9223372036854775808 ≤ n0) (hn0 : n0 < 9223372036854775808) (n1 : Int) (hl1 : -9223372036854775808 ≤ n1) (hn1 : n1 < 9223372036854775808) (n2 : Int) (_hl2 : -9223372036854775808 ≤ n2) (_hn2 : n2 < 9223372036854775808) (A3 : Option Addr) (l3 : List Ms.El) (c3 : Nat) (hb3 : Ms.Sym0 w A3 l3) (A4 : Option Addr) (l4 : List Ms.El) (c4 : Nat) (hb4 : Ms.Sym0 w A4 l4) :
  Calls Tryz.prog 3 #[.int .i64 n0, .int .i64 n1, .int .i64 n2, .slice A3 l3.length c3, .slice A4 l4.length c4] w fun e w' => e = .returned (.bool true) ∧ Below w.heap.size w w' :=
 core PS w n0 n1 n2 hl0 hn0 hl1 hn1 A3 l3 _ c3 rfl hb3 A4 l4 _ c4 rfl hb4
end Go.Proofs.YtjoghbmedfmioabGreat.transferTold

namespace Go.Proofs.YtjoghbmedfmioabGreat.transferTold
open Go.ChangeShapes Go.WideShapes Go.ChangeAt Go.RowKit
open Go.ChangeMaps (open_string shut_string)
set_option linter.unusedVariables false
theorem own : ownKnob Tryz.prog.godebug = none := by kernel_rfl
theorem laidOut : laidOutB Tryz.prog = true := by kernel_rfl

set_option maxRecDepth 100000 in
theorem contract (H : Type) (enc : TypeId × Value → H) (W : World) (base : Nat) (args : Array Value) (ds gs : List (DataW H)) (before : List MemPlace)
  (hval : ∀ (j : Nat) t v, Tryz.f3.params[j]? = some t → args[j]? = some v → Value.okWide Tryz.prog W .any base t v)
  (hW : DataW.Whole enc Tryz.prog Tryz.f3.params.toList Rows.transferToldSpec.vars false W args.toList ds gs before)
  (hsz : (DataW.weightsEach Tryz.prog (Tryz.f3.params.toList ++ Rows.transferToldSpec.plain.varTypes Tryz.prog) (ds ++ gs)).all (· ≤ reachBytes) = true) :
  Calls Tryz.prog 3 args W fun e W' => ∃ v, e = .returned v ∧ Rows.transferToldSpec.post enc Tryz.prog Tryz.f3 false true false false W args v W' := by
 have hW' := hW
 obtain ⟨p, q, hA0, hV, rfl, hfz, hnd⟩ := hW
 have hA : DataW.TrodAll enc Tryz.prog W 0 (fun _ => true) true Tryz.f3.params.toList args.toList ds p := hA0
 rw [Tryz.params3] at hA hval hsz
 obtain ⟨v0, vs0, d0, ds0, p0, q0, hargs, rfl, rfl, h0, r0⟩ := trodAll_cons hA
 obtain ⟨v1, vs1, d1, ds1, p1, q1, rfl, rfl, rfl, h1, r1⟩ := trodAll_cons r0
 obtain ⟨v2, vs2, d2, ds2, p2, q2, rfl, rfl, rfl, h2, r2⟩ := trodAll_cons r1
 obtain ⟨v3, vs3, d3, ds3, p3, q3, rfl, rfl, rfl, h3, r3⟩ := trodAll_cons r2
 obtain ⟨v4, vs4, d4, ds4, p4, q4, rfl, rfl, rfl, h4, r4⟩ := trodAll_cons r3
 obtain ⟨rfl, rfl, rfl⟩ := trodAll_nil r4
 obtain rfl : args = #[v0, v1, v2, v3, v4] := by cases args; simp_all
 obtain ⟨rfl, rfl⟩ := trodVars_none hV
 obtain ⟨n0, rfl, rfl, rfl, w0⟩ := open_int Tryz.underlying3 (hval 0 3 v0 rfl rfl) h0
 have b0 := wf_bounds_i64 w0
 obtain ⟨n1, rfl, rfl, rfl, w1⟩ := open_int Tryz.underlying3 (hval 1 3 v1 rfl rfl) h1
 have b1 := wf_bounds_i64 w1
 obtain ⟨n2, rfl, rfl, rfl, w2⟩ := open_int Tryz.underlying3 (hval 2 3 v2 rfl rfl) h2
 have b2 := wf_bounds_i64 w2
 obtain ⟨A3, len3, c3, rfl⟩ := okWide_slice Tryz.underlying22 (hval 3 22 v3 rfl rfl)
 have k3 := h3
 have lt3 : ∀ x ∈ p3, x.block < W.heap.size := by obtain ⟨m, hm⟩ := k3; exact DataW.trod_lt m _ _ _ hm
 obtain ⟨l3, rfl, hb3⟩ := Ms.open_syms h3 (fun n hn => by have := List.all_eq_true.1 hsz n (DataW.weights_mem_each (j := 3) (t := 22) rfl rfl n hn); exact of_decide_eq_true this)
 obtain ⟨A4, len4, c4, rfl⟩ := okWide_slice Tryz.underlying22 (hval 4 22 v4 rfl rfl)
 have k4 := h4
 have lt4 : ∀ x ∈ p4, x.block < W.heap.size := by obtain ⟨m, hm⟩ := k4; exact DataW.trod_lt m _ _ _ hm
 obtain ⟨l4, rfl, hb4⟩ := Ms.open_syms h4 (fun n hn => by have := List.all_eq_true.1 hsz n (DataW.weights_mem_each (j := 4) (t := 22) rfl rfl n hn); exact of_decide_eq_true this)
 clear hA0
 refine (walk Poly.spec W n0 b0.1 b0.2 n1 b1.1 b1.2 n2 b2.1 b2.2 A3 l3 c3 hb3 A4 l4 c4 hb4 ).mono fun e W' ⟨he, bel⟩ => ?_
 subst he
 exact ⟨_, rfl, _, _, _, [], _, [], hW', trodAll_mk1 (shut_bool Tryz.underlying4 _), (trodAll_cons_mk (shut_int Tryz.underlying3 w0) (trodAll_cons_mk (shut_int Tryz.underlying3 w1) (trodAll_cons_mk (shut_int Tryz.underlying3 w2) (trodAll_cons_mk (Below.trod laidOut (by kernel_rfl) (of_decide_eq_true (by kernel_rfl)) k3 bel lt3) (trodAll_cons_mk (Below.trod laidOut (by kernel_rfl) (of_decide_eq_true (by kernel_rfl)) k4 bel lt4) trodAll_mk0))))), rfl, bel.frame _, fun h => by cases h⟩

set_option maxRecDepth 100000 in
theorem lifted (os : Os) (started : os.Started) (H : Type) (enc : TypeId × Value → H) :
  ReturnsInHanded {} Tryz.checked os 3 .any (Rows.transferToldSpec.pre6 enc Tryz.prog Tryz.f3 Rows.transferToldRow.domain false) (Rows.transferToldSpec.post enc Tryz.prog Tryz.f3 false true false false) := by
 refine returnsInHanded_of_change_sized (C := Tryz.checked) own started (by kernel_rfl) Tryz.func3
  (ChangeSpec.witness6 (enc := enc) (C := Tryz.checked) false ⟨#[], #[.int .i64 0, .int .i64 0, .int .i64 0, .slice none 0 0, .slice none 0 0], []⟩ 8 (by kernel_rfl) (by kernel_rfl) (by kernel_rfl) (by kernel_rfl)) ?_
 intro W base args ds gs before hval hW _ hsz _
 exact contract H enc W base args ds gs before hval hW hsz


theorem proved : Rows.TransferToldSaid :=
 OpenClaim.holds_of_wide 3 Tryz.f3 rfl rfl rfl rfl rfl rfl rfl ⟨rfl, rfl, rfl, rfl, rfl⟩ rfl rfl rfl rfl rfl (by kernel_rfl) Tryz.func3 (by kernel_rfl)
  (of_decide_eq_true (by kernel_rfl)) (by unfold Func.isWrapper; first | (rw [if_pos (by decide +kernel)]; kernel_rfl) | (rw [if_neg (by decide +kernel)]; exact ⟨rfl, rfl⟩))
  (fun os started H enc _ => lifted os started H enc)
end Go.Proofs.YtjoghbmedfmioabGreat.transferTold
