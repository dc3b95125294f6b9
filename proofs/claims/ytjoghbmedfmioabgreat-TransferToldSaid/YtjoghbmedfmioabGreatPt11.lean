/- Of the program, joined: TrWorks, TrRefNew. -/
import Derived.Test.YtjoghbmedfmioabGreatPt10
namespace Go.Proofs.YtjoghbmedfmioabGreat.Tr
open Go.RowKit Go.Shelf F8 Poly GF Rd Ms
attribute [local go_sem] Oper.semAt_some
structure WS (S : Tc) (w : World) (Aa : Option Addr) (la : List El) (Ab : Option Addr) (lb : List El) (V : World) : Prop where
 lw : Lw S w V
 sa : Shs S.g V Aa la
 sb : Shs S.g V Ab lb
section
variable {S : Tc} {w V V' : World} {Aa Ab : Option Addr} {la lb : List El}
theorem WS.go (h : WS S w Aa la Ab lb V) (hf : FldP V' (some ⟨S.g, 0, none⟩)) (hp : Past V.heap.size S.g V V') : WS S w Aa la Ab lb V' :=
 ⟨h.lw.go hf hp, h.sa.past h.lw.ok.fld.fld hp, h.sb.past h.lw.ok.fld.fld hp⟩
theorem WS.below (h : WS S w Aa la Ab lb V) (hb : Below V.heap.size V V') : WS S w Aa la Ab lb V' := h.go (h.lw.ok.fld.below hb) (Past.of_below hb _)
theorem WS.alloc (h : WS S w Aa la Ab lb V) (o : Obj) : WS S w Aa la Ab lb (V.alloc o) := h.below ((Below.refl _ _).alloc (Nat.le_refl _) o)
end
set_option maxRecDepth 100000 in
set_option maxHeartbeats 16000000 in
theorem works_calls (PS : Poly.Spec) (w : World) : Calls Tryz.prog 7 #[] w fun e w' => e = .returned (.bool true) ∧ Below w.heap.size w w' := by
 go_enter Tryz.func7, Tryz.ntmps7
 go_wp2_with fail
 refine (GF.new_calls w).mono ?_
 rintro e w1 ⟨rfl, hw1⟩
 have HMd := Lib.hid (made 3 2 w w1 hw1 (by decide) (by decide) (by decide) (by decide))
 clear hw1
 go_wp2_with fail
 refine HMd.out.mono ?_
 rintro e w2 (⟨-, S, hL, hSg, rfl⟩ | ⟨hno, -⟩)
 rotate_left
 ·exact absurd (⟨by decide, by decide, by decide⟩ : Good 3 2) hno
 have en : S.n = 3 := by have := hL.en; omega
 have ek : S.k = 2 := by have := hL.ek; omega
 have eE : S.E = rs 3 3 := by unfold Tc.E; rw [en]
 have eB : S.B = 3 := by unfold Tc.B; rw [en, ek]; rfl
 have HL := Lib.hid hL.lw
 have EN := Lib.hid en
 have EK := Lib.hid ek
 have EE := Lib.hid eE
 have EB := Lib.hid eB
 have HSg := Lib.hid hSg
 clear hL en ek eE eB hSg HMd
 go_wp2_with fail
 have HL3 := Lib.hid (HL.out.alloc (.cells #[.int .u8 1, .int .u8 0, .int .u8 0] 5))
 have hEn := encode_good PS HL3.out.ok (some ⟨w2.heap.size, 0, none⟩) [1, 0, 0] 3 3 rfl EB.out.symm (bf_new HL.out.ok.fld.fld #[.int .u8 1, .int .u8 0, .int .u8 0] [1, 0, 0] rfl) (Nat.le_refl _)
 with_reducible refine hEn.mono ?_
 clear hEn
 rintro e w4 ⟨A4, c4, l4, rfl, hc4, hO4, hL4, hls, hf4, hp4⟩
 have HL4 := Lib.hid (HL3.out.go hf4 hp4)
 have HS4 : Hid (Shs S.g w4 A4 l4) := Lib.hid ⟨own_row (own1_of hO4).1, hL4.lst hf4⟩
 rw [EN.out, EE.out, ex_a] at hls
 rw [EN.out] at hc4 ⊢
 have HLa := Lib.hid hls
 clear hO4 hL4 hls hf4 hp4 HL HL3 hc4
 go_wp2_with fail
 have HL5 := Lib.hid (HL4.out.alloc (.cells #[.int .u8 0, .int .u8 1, .int .u8 0] 5))
 have hEn := encode_good PS HL5.out.ok (some ⟨w4.heap.size, 0, none⟩) [0, 1, 0] 3 3 rfl EB.out.symm (bf_new HL4.out.ok.fld.fld #[.int .u8 0, .int .u8 1, .int .u8 0] [0, 1, 0] rfl) (Nat.le_refl _)
 with_reducible refine hEn.mono ?_
 clear hEn
 rintro e w6 ⟨A6, c6, l6, rfl, hc6, hO6, hL6, hls, hf6, hp6⟩
 have HW6 : Hid (WS S w A4 l4 A6 l6 w6) := Lib.hid ⟨HL5.out.go hf6 hp6, (HS4.out.below ((Below.refl _ _).alloc (Nat.le_refl _) _)).past HL5.out.ok.fld.fld hp6, own_row (own1_of hO6).1, hL6.lst hf6⟩
 rw [EN.out, EE.out, ex_b] at hls
 rw [EN.out] at hc6 ⊢
 have HLb := Lib.hid hls
 clear hO6 hL6 hls hf6 hp6 HL4 HL5 HS4 hc6
 go_wp2_with fail
 have HW7 := Lib.hid (HW6.out.alloc (.cells #[.int .u8 2, .int .u8 4] 5))
 have hHe := help_good HW7.out.lw.ok 2 0 (by rw [EN.out]; omega) (by rw [EN.out]; omega) (by omega) (some ⟨w6.heap.size, 0, none⟩) [fb 2, fb 4] 2 2 rfl (by rw [EN.out]) (bf_new HW6.out.lw.ok.fld.fld #[.int .u8 2, .int .u8 4] [fb 2, fb 4] rfl).by_
 rw [show (coef [fb 2, fb 4] (idx 2 0)).n = 2 from rfl, show ((2 : Nat) : Int) = 2 from rfl, show ((0 : Nat) : Int) = 0 from rfl] at hHe
 with_reducible refine hHe.mono ?_
 clear hHe
 rintro e w7 ⟨rfl, hw7⟩
 rw [hw7] at HW7
 clear hw7 HW6
 go_wp2_with fail
 obtain ⟨V7, hV7⟩ : ∃ V7, ((w7.alloc (.cells #[.int .u8 2] 5)).alloc (.cells #[.int .u8 1] 5)).alloc (.cells #[.int .i64 2, .slice (some ⟨w7.heap.size, 0, none⟩) 1 1, .int .i64 1, .slice (some ⟨w7.heap.size + 1, 0, none⟩) 1 1] 55) = V7 := ⟨_, rfl⟩
 have he : Els S.g V7 (some ⟨w7.heap.size + 1 + 1, 0, none⟩) [⟨2, some ⟨w7.heap.size, 0, none⟩, [fb 2], 1⟩, ⟨1, some ⟨w7.heap.size + 1, 0, none⟩, [1], 1⟩] := by
  rw [← hV7]; exact two_elsL HW7.out.lw.ok.fld.fld 2 1 #[.int .u8 2] #[.int .u8 1] [fb 2] [1] 1 1 rfl rfl rfl rfl
 have hb7 : Below w7.heap.size w7 V7 := by rw [← hV7]; exact (((Below.refl _ _).alloc (Nat.le_refl _) _).alloc (by simp) _).alloc (by simp; omega) _
 rw [hV7]
 have HW8 := Lib.hid (HW7.out.below hb7)
 have hRe := repair_good HW8.out.lw.ok 0 (by rw [EN.out]; omega) (some ⟨w7.heap.size + 1 + 1, 0, none⟩) _ 2 2 rfl (by decide) he (by rw [EN.out]; exact (by decide : Sy.VOk 3 1 [((0 : Nat) : Int)] [((2 : Int), 1), (1, 1)])) (by rw [EN.out]; decide)
 rw [show ((0 : Nat) : Int) = 0 from rfl] at hRe
 with_reducible refine hRe.mono ?_
 clear hRe
 rintro e w9 ⟨A9, c9, s9, rfl, hc9, hs9, hr9, hO9, hb9⟩
 rw [EN.out] at hc9 hs9 hO9 ⊢
 have e9 : s9 = [1, fb 2] := by
  have h1 := hr9 _ (List.mem_cons_self ..)
  have h2 := hr9 _ (List.mem_cons_of_mem _ (List.mem_cons_self ..))
  match s9, hs9 with
  | [x, y], _ =>
   have h1 : y = fb 2 := h1
   have h2 : x = 1 := h2
   rw [h1, h2]
 rw [e9] at hO9
 have HW9 := Lib.hid (HW8.out.below hb9)
 have HB9 := Lib.hid (BF.own HW9.out.lw.ok.fld hO9)
 clear hO9 hb9 hr9 hs9 e9 he hb7 hV7 HW7 HW8 hc9
 go_wp2_with fail
 obtain ⟨Va, hVa⟩ : ∃ Va, ((w9.alloc (.cells #[.int .u8 1, .int .u8 4] 5)).alloc (.cells #[.int .u8 2, .int .u8 4] 5)).alloc (.cells #[.int .i64 1, .slice (some ⟨w9.heap.size, 0, none⟩) 2 2, .int .i64 2, .slice (some ⟨w9.heap.size + 1, 0, none⟩) 2 2] 55) = Va := ⟨_, rfl⟩
 have he : Els S.g Va (some ⟨w9.heap.size + 1 + 1, 0, none⟩) [⟨1, some ⟨w9.heap.size, 0, none⟩, [1, fb 4], 2⟩, ⟨2, some ⟨w9.heap.size + 1, 0, none⟩, [fb 2, fb 4], 2⟩] := by
  rw [← hVa]; exact two_elsL HW9.out.lw.ok.fld.fld 1 2 #[.int .u8 1, .int .u8 4] #[.int .u8 2, .int .u8 4] [1, fb 4] [fb 2, fb 4] 2 2 rfl rfl rfl rfl
 have hba : Below w9.heap.size w9 Va := by rw [← hVa]; exact (((Below.refl _ _).alloc (Nat.le_refl _) _).alloc (by simp) _).alloc (by simp; omega) _
 rw [hVa]
 have HWa := Lib.hid (HW9.out.below hba)
 have hDe := decode_calls PS HWa.out.lw.ok (some ⟨w9.heap.size + 1 + 1, 0, none⟩) _ 2 2 rfl (by decide) he
 with_reducible refine hDe.mono ?_
 clear hDe
 rintro e wb ⟨ms, z, hT, A10, c10, rfl, hc10, hO10, hf10, hp10⟩
 rw [EN.out, EK.out, EE.out] at hT
 obtain ⟨hms, hz⟩ := hT.only (pts_length _) (pts_nodup (by decide +kernel)) ex_m
 subst hms hz
 have HWb := Lib.hid (HWa.out.go hf10 hp10)
 have HBb9 := Lib.hid ((HB9.out.below hba).past hp10)
 have HBm := Lib.hid (BF.own hf10 hO10)
 clear hO10 hf10 hp10 hT hc10 he hba hVa HW9 HWa HB9
 go_wp2_with fail
 obtain ⟨Va, hVa⟩ : ∃ Va, ((wb.alloc (.cells #[.int .u8 1, .int .u8 4] 5)).alloc (.cells #[.int .u8 2, .int .u8 5] 5)).alloc (.cells #[.int .i64 1, .slice (some ⟨wb.heap.size, 0, none⟩) 2 2, .int .i64 2, .slice (some ⟨wb.heap.size + 1, 0, none⟩) 2 2] 55) = Va := ⟨_, rfl⟩
 have he : Els S.g Va (some ⟨wb.heap.size + 1 + 1, 0, none⟩) [⟨1, some ⟨wb.heap.size, 0, none⟩, [1, fb 4], 2⟩, ⟨2, some ⟨wb.heap.size + 1, 0, none⟩, [fb 2, fb 5], 2⟩] := by
  rw [← hVa]; exact two_elsL HWb.out.lw.ok.fld.fld 1 2 #[.int .u8 1, .int .u8 4] #[.int .u8 2, .int .u8 5] [1, fb 4] [fb 2, fb 5] 2 2 rfl rfl rfl rfl
 have hba : Below wb.heap.size wb Va := by rw [← hVa]; exact (((Below.refl _ _).alloc (Nat.le_refl _) _).alloc (by simp) _).alloc (by simp; omega) _
 rw [hVa]
 have HWa := Lib.hid (HWb.out.below hba)
 have hDe := decode_calls PS HWa.out.lw.ok (some ⟨wb.heap.size + 1 + 1, 0, none⟩) _ 2 2 rfl (by decide) he
 with_reducible refine hDe.mono ?_
 clear hDe
 rintro e wc ⟨ms, z, hT, A11, c11, rfl, hc11, hO11, hf11, hp11⟩
 rw [EN.out, EK.out, EE.out] at hT
 obtain ⟨hms, hz⟩ := hT.only (pts_length _) (pts_nodup (by decide +kernel)) ex_l
 subst hms hz
 have HWc := Lib.hid (HWa.out.go hf11 hp11)
 have HBc9 := Lib.hid ((HBb9.out.below hba).past hp11)
 have HBcm := Lib.hid ((HBm.out.below hba).past hp11)
 clear hO11 hf11 hp11 hT hc11 he hba hVa HWb HWa HBb9 HBm
 go_wp2_with fail
 have hNb := new_bad S.g 24 2 (by decide) (by decide) (by decide) (by decide) (fun h => absurd h.2.2 (by decide)) wc
 rw [HSg.out] at hNb
 with_reducible refine hNb.mono ?_
 clear hNb
 rintro e w12 ⟨rfl, rfl⟩
 have hAl := alpha_calls HWc.out.lw.ok
 rw [EN.out, show ((3 - 1 : Nat) : Int) = 2 from rfl] at hAl
 have HAl := Lib.hid hAl
 clear hAl
 go_wp2_with fail
 refine HAl.out.mono ?_
 rintro e wx ⟨rfl, rfl⟩
 have hBc := b_calls HWc.out.lw.ok
 rw [EB.out, show ((3 : Nat) : Int) = 3 from rfl] at hBc
 have HBc := Lib.hid hBc
 clear hBc HAl
 obtain ⟨b0, o0, E0, k0, e0, q0, -⟩ := share_at HWc.out.sa HLa.out (i := 1) (by decide)
 obtain ⟨b1, o1, E1, k1, e1, q1, -⟩ := share_at HWc.out.sb HLb.out (i := 0) (by decide)
 subst e0 e1
 clear q0 q1
 go_wp2_with fail
 refine HBc.out.mono ?_
 rintro e x0 ⟨rfl, hbx⟩
 have HWx0 := Lib.hid (HWc.out.below hbx)
 have HBs0 := Lib.hid (HBc9.out.below hbx)
 have HBm0 := Lib.hid (HBcm.out.below hbx)
 clear hbx HBc HWc HBc9 HBcm
 obtain ⟨bb0, oo0, E0, k0, e0, q0, hB0⟩ := share_at HWx0.out.sa HLa.out (i := 1) (by decide)
 cases e0
 have q0' : x0.cell? _ = some (.slice E0 2 k0) := q0
 have hB0' : BF S.g x0 E0 [1, 1] := hB0
 have hb0 : Below x0.heap.size x0 (x0.alloc (.cells #[.int .u8 1, .int .u8 1] 5)) := (Below.refl _ _).alloc (Nat.le_refl _) _
 have HB0 := Lib.hid (hB0'.below hb0)
 have HLt0 := Lib.hid (bf_new HWx0.out.lw.ok.fld.fld #[.int .u8 1, .int .u8 1] [1, 1] rfl)
 have HWy0 := Lib.hid (HWx0.out.below hb0)
 have HBs0y := Lib.hid (HBs0.out.below hb0)
 have HBm0y := Lib.hid (HBm0.out.below hb0)
 clear hb0 hB0 hB0' q0
 go_wp2_with fail
 have hSa := same_calls E0 (some ⟨x0.heap.size, 0, none⟩) [1, 1] [1, 1] 2 2 k0 2 (x0.alloc (.cells #[.int .u8 1, .int .u8 1] 5)) rfl rfl HB0.out.by_ HLt0.out.by_
 rw [decide_eq_true rfl] at hSa
 with_reducible refine hSa.mono ?_
 clear hSa
 rintro e x1 ⟨rfl, hx0⟩
 rw [hx0] at HWy0 HBs0y HBm0y
 have HWx1 := HWy0
 have HBs1 := HBs0y
 have HBm1 := HBm0y
 clear hx0 q0' HWx0 HWy0 HBs0 HBs0y HBm0 HBm0y HB0 HLt0
 obtain ⟨bb1, oo1, E1, k1, e1, q1, hB1⟩ := share_at HWx1.out.sb HLb.out (i := 0) (by decide)
 cases e1
 have q1' : x1.cell? ⟨b1, o1, none⟩ = some (.slice E1 2 k1) := q1
 have hB1' : BF S.g x1 E1 [1, fb 2] := hB1
 have hb1 : Below x1.heap.size x1 (x1.alloc (.cells #[.int .u8 1, .int .u8 2] 5)) := (Below.refl _ _).alloc (Nat.le_refl _) _
 have HB1 := Lib.hid (hB1'.below hb1)
 have HLt1 := Lib.hid (bf_new HWx1.out.lw.ok.fld.fld #[.int .u8 1, .int .u8 2] [1, fb 2] rfl)
 have HWy1 := Lib.hid (HWx1.out.below hb1)
 have HBs1y := Lib.hid (HBs1.out.below hb1)
 have HBm1y := Lib.hid (HBm1.out.below hb1)
 clear hb1 hB1 hB1' q1
 go_wp2_with fail
 have hSa := same_calls E1 (some ⟨x1.heap.size, 0, none⟩) [1, fb 2] [1, fb 2] 2 2 k1 2 (x1.alloc (.cells #[.int .u8 1, .int .u8 2] 5)) rfl rfl HB1.out.by_ HLt1.out.by_
 rw [decide_eq_true rfl] at hSa
 with_reducible refine hSa.mono ?_
 clear hSa
 rintro e x2 ⟨rfl, hx1⟩
 rw [hx1] at HWy1 HBs1y HBm1y
 have HWx2 := HWy1
 have HBs2 := HBs1y
 have HBm2 := HBm1y
 clear hx1 q1' HWx1 HWy1 HBs1 HBs1y HBm1 HBm1y HB1 HLt1
 obtain ⟨bb2, oo2, E2, k2, e2, q2, hB2⟩ := share_at HWx2.out.sb HLb.out (i := 1) (by decide)
 cases e2
 have q2' : x2.cell? _ = some (.slice E2 2 k2) := q2
 have hB2' : BF S.g x2 E2 [1, fb 4] := hB2
 have hb2 : Below x2.heap.size x2 (x2.alloc (.cells #[.int .u8 1, .int .u8 4] 5)) := (Below.refl _ _).alloc (Nat.le_refl _) _
 have HB2 := Lib.hid (hB2'.below hb2)
 have HLt2 := Lib.hid (bf_new HWx2.out.lw.ok.fld.fld #[.int .u8 1, .int .u8 4] [1, fb 4] rfl)
 have HWy2 := Lib.hid (HWx2.out.below hb2)
 have HBs2y := Lib.hid (HBs2.out.below hb2)
 have HBm2y := Lib.hid (HBm2.out.below hb2)
 clear hb2 hB2 hB2' q2
 go_wp2_with fail
 have hSa := same_calls E2 (some ⟨x2.heap.size, 0, none⟩) [1, fb 4] [1, fb 4] 2 2 k2 2 (x2.alloc (.cells #[.int .u8 1, .int .u8 4] 5)) rfl rfl HB2.out.by_ HLt2.out.by_
 rw [decide_eq_true rfl] at hSa
 with_reducible refine hSa.mono ?_
 clear hSa
 rintro e x3 ⟨rfl, hx2⟩
 rw [hx2] at HWy2 HBs2y HBm2y
 have HWx3 := HWy2
 have HBs3 := HBs2y
 have HBm3 := HBm2y
 clear hx2 q2' HWx2 HWy2 HBs2 HBs2y HBm2 HBm2y HB2 HLt2
 obtain ⟨bb3, oo3, E3, k3, e3, q3, hB3⟩ := share_at HWx3.out.sb HLb.out (i := 2) (by decide)
 cases e3
 have q3' : x3.cell? _ = some (.slice E3 2 k3) := q3
 have hB3' : BF S.g x3 E3 [fb 2, fb 4] := hB3
 have hb3 : Below x3.heap.size x3 (x3.alloc (.cells #[.int .u8 2, .int .u8 4] 5)) := (Below.refl _ _).alloc (Nat.le_refl _) _
 have HB3 := Lib.hid (hB3'.below hb3)
 have HLt3 := Lib.hid (bf_new HWx3.out.lw.ok.fld.fld #[.int .u8 2, .int .u8 4] [fb 2, fb 4] rfl)
 have HWy3 := Lib.hid (HWx3.out.below hb3)
 have HBs3y := Lib.hid (HBs3.out.below hb3)
 have HBm3y := Lib.hid (HBm3.out.below hb3)
 clear hb3 hB3 hB3' q3
 go_wp2_with fail
 have hSa := same_calls E3 (some ⟨x3.heap.size, 0, none⟩) [fb 2, fb 4] [fb 2, fb 4] 2 2 k3 2 (x3.alloc (.cells #[.int .u8 2, .int .u8 4] 5)) rfl rfl HB3.out.by_ HLt3.out.by_
 rw [decide_eq_true rfl] at hSa
 with_reducible refine hSa.mono ?_
 clear hSa
 rintro e x4 ⟨rfl, hx3⟩
 rw [hx3] at HWy3 HBs3y HBm3y
 have HWx4 := HWy3
 have HBs4 := HBs3y
 have HBm4 := HBm3y
 clear hx3 q3' HWx3 HWy3 HBs3 HBs3y HBm3 HBm3y HB3 HLt3
 have hb4 : Below x4.heap.size x4 (x4.alloc (.cells #[.int .u8 1, .int .u8 2] 5)) := (Below.refl _ _).alloc (Nat.le_refl _) _
 have HLt4 := Lib.hid (bf_new HWx4.out.lw.ok.fld.fld #[.int .u8 1, .int .u8 2] [1, fb 2] rfl)
 have HWy4 := Lib.hid (HWx4.out.below hb4)
 have HBs4y := Lib.hid (HBs4.out.below hb4)
 have HBm4y := Lib.hid (HBm4.out.below hb4)
 clear hb4
 go_wp2_with fail
 have hSa := same_calls A9 (some ⟨x4.heap.size, 0, none⟩) [1, fb 2] [1, fb 2] 2 2 c9 2 (x4.alloc (.cells #[.int .u8 1, .int .u8 2] 5)) rfl rfl HBs4y.out.by_ HLt4.out.by_
 rw [decide_eq_true rfl] at hSa
 with_reducible refine hSa.mono ?_
 clear hSa
 rintro e x5 ⟨rfl, hx4⟩
 rw [hx4] at HWy4 HBs4y HBm4y
 have HWx5 := HWy4
 have HBs5 := HBs4y
 have HBm5 := HBm4y
 clear hx4 HWx4 HWy4 HBs4 HBs4y HBm4 HBm4y HLt4
 have hb5 : Below x5.heap.size x5 (x5.alloc (.cells #[.int .u8 0, .int .u8 1, .int .u8 0] 5)) := (Below.refl _ _).alloc (Nat.le_refl _) _
 have HLt5 := Lib.hid (bf_new HWx5.out.lw.ok.fld.fld #[.int .u8 0, .int .u8 1, .int .u8 0] [0, 1, 0] rfl)
 have HWy5 := Lib.hid (HWx5.out.below hb5)
 have HBs5y := Lib.hid (HBs5.out.below hb5)
 have HBm5y := Lib.hid (HBm5.out.below hb5)
 clear hb5
 go_wp2_with fail
 have hSa := same_calls A10 (some ⟨x5.heap.size, 0, none⟩) [0, 1, 0] [0, 1, 0] 3 3 c10 3 (x5.alloc (.cells #[.int .u8 0, .int .u8 1, .int .u8 0] 5)) rfl rfl HBm5y.out.by_ HLt5.out.by_
 rw [decide_eq_true rfl] at hSa
 with_reducible refine hSa.mono ?_
 clear hSa
 rintro e x6 ⟨rfl, hx5⟩
 rw [hx5] at HWy5 HBs5y HBm5y
 have HWx6 := HWy5
 have HBs6 := HBs5y
 have HBm6 := HBm5y
 clear hx5 HWx5 HWy5 HBs5 HBs5y HBm5 HBm5y HLt5
 go_wp2
 go_ret
 exact ⟨rfl, HWx6.out.lw.bel⟩
end Go.Proofs.YtjoghbmedfmioabGreat.Tr

namespace Go.Proofs.YtjoghbmedfmioabGreat.Tr
open Go.RowKit Go.Shelf F8 Poly GF Rd Ms
attribute [local go_sem] Oper.semAt_some
abbrev C2 (b : Nat) (n k : Int) (V : World) : Prop := V.cell? ⟨b, 0, none⟩ = some (.int .i64 n) ∧ V.cell? ⟨b, 1, none⟩ = some (.int .i64 k)
theorem C2.below {b : Nat} {n k : Int} {V V' : World} (h : C2 b n k V) (hb : Below V.heap.size V V') : C2 b n k V' :=
 ⟨(hb.cell (cell_lt h.1)).trans h.1, (hb.cell (cell_lt h.2)).trans h.2⟩
theorem C2.new (w : World) (n k : Int) : C2 w.heap.size n k (w.alloc (.cells #[.int .i64 n, .int .i64 k] 33)) :=
 ⟨(Block.new w 33 #[.int .i64 n, .int .i64 k]).cell 0, (Block.new w 33 #[.int .i64 n, .int .i64 k]).cell 1⟩
theorem b_nums {n k : Nat} (hn : n < 24) (hk : k < n) : ∃ u v z : Nat, IntKind.i64.wrap ((n : Int) - 1) = (n : Int) - 1 ∧ IntKind.i64.wrap ((k : Int) * ((n : Int) - 1)) = (u : Int) ∧ IntKind.i64.wrap ((k : Int) - 1) = (k : Int) - 1 ∧ IntKind.i64.wrap ((k : Int) * ((k : Int) - 1)) = (v : Int) ∧ IntKind.i64.wrap ((v : Int) / 2) = (z : Int) ∧ IntKind.i64.wrap ((u : Int) - (z : Int)) = ((rs n k : Nat) : Int) := by
 have hB := bytes_k n hn k (by omega) hk
 obtain ⟨q, hq⟩ : ∃ q, rs n k = q := ⟨_, rfl⟩
 rw [hq] at hB ⊢
 obtain ⟨u, hu⟩ : ∃ u : Nat, (k : Int) * ((n : Int) - 1) = (u : Int) := ⟨k * (n - 1), by rw [Int.natCast_mul, Int.natCast_sub (by omega)]; rfl⟩
 obtain ⟨v, hv⟩ : ∃ v : Nat, (k : Int) * ((k : Int) - 1) = (v : Int) := by
  rcases Nat.eq_zero_or_pos k with h0 | h0
  ·exact ⟨0, by rw [h0]; rfl⟩
  ·exact ⟨k * (k - 1), by rw [Int.natCast_mul, Int.natCast_sub (by omega)]; rfl⟩
 have hu9 : u ≤ 23 * 23 := by
  have : (k : Int) * ((n : Int) - 1) ≤ 23 * 23 := Int.mul_le_mul (by omega) (by omega) (by omega) (by omega)
  omega
 have hv9 : v ≤ 23 * 23 := by
  have : (k : Int) * ((k : Int) - 1) ≤ 23 * 23 := by
   rcases Nat.eq_zero_or_pos k with h0 | h0
   ·rw [h0]; decide
   ·exact Int.mul_le_mul (by omega) (by omega) (by omega) (by omega)
  omega
 rw [hu, hv] at hB
 refine ⟨u, v, v / 2, IntWalk.i64_in _ (by omega), by rw [hu]; exact IntWalk.i64_in _ (by omega), IntWalk.i64_in _ (by omega), by rw [hv]; exact IntWalk.i64_in _ (by omega), by rw [show (v : Int) / 2 = ((v / 2 : Nat) : Int) by omega]; exact IntWalk.i64_in _ (by omega), by rw [show (u : Int) - ((v / 2 : Nat) : Int) = (q : Int) by omega]; exact IntWalk.i64_in _ (by omega)⟩
set_option maxRecDepth 100000 in
theorem refB_calls {n k : Nat} (hn : n < 24) (hk : k < n) (w : World) :
  Calls Tryz.prog 41 #[.agg #[.int .i64 (n : Nat), .int .i64 (k : Nat)]] w fun e w' => e = .returned (.int .i64 (rs n k : Nat)) ∧ Below w.heap.size w w' := by
 have hba : Below w.heap.size w (w.alloc (.cells #[.int .i64 (n : Int), .int .i64 (k : Int)] 33)) := (Below.refl _ _).alloc (Nat.le_refl _) _
 obtain ⟨c0, c1⟩ := C2.new w n k
 have HBa := Lib.hid hba
 obtain ⟨u, v, z, w1, w2, w3, w4, w5, w6⟩ := b_nums hn hk
 obtain ⟨q, hq⟩ : ∃ q, rs n k = q := ⟨_, rfl⟩
 rw [hq] at w6 ⊢
 clear hba hq
 have hmx : Tryz.prog.follows .mixedOrders = true := by kernel_rfl
 go_enter Tryz.func41, Tryz.ntmps41
 go_wp2
 go_ret
 exact ⟨rfl, HBa.out⟩
def Few (n k : Int) : Prop := n ≤ 9 ∧ k ≤ 9
instance (n k : Int) : Decidable (Few n k) := inferInstanceAs (Decidable (_ ∧ _))
theorem few_calls (n k : Int) (w : World) : Calls Tryz.prog 5 #[.int .i64 n, .int .i64 k] w fun e w' => e = .returned (.bool (decide (Few n k))) ∧ w = w' := by
 by_cases h1 : n ≤ 9
 ·have d1 : decide (n ≤ 9) = true := decide_eq_true h1
  have HD : Hid (decide (k ≤ 9) = decide (Few n k)) := Lib.hid (by rw [decide_eq_decide]; exact ⟨fun h => ⟨h1, h⟩, fun h => h.2⟩)
  go_enter Tryz.func5, Tryz.ntmps5
  go_wp2
  go_ret
  exact ⟨ret_bool HD.out, rfl⟩
 ·have d1 : decide (n ≤ 9) = false := decide_eq_false h1
  have HD : Hid (decide (Few n k) = false) := Lib.hid (decide_eq_false fun h => h1 h.1)
  go_enter Tryz.func5, Tryz.ntmps5
  go_wp2
  go_ret
  exact ⟨ret_bool HD.out.symm, rfl⟩
end Go.Proofs.YtjoghbmedfmioabGreat.Tr
