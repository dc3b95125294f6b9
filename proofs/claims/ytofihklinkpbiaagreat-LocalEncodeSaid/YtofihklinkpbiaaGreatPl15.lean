/- Of the program, joined: LoWorks, ElTold, ElToldD, LoLaw. -/
import Derived.Test.YtofihklinkpbiaaGreatPl14
import Derived.Deep.RegionHeld
import Derived.Test.YtofihklinkpbiaaGreatPl07
import Derived.Test.YtofihklinkpbiaaGreatPl11
import Derived.Test.YtofihklinkpbiaaGreatPl13
namespace Go.Proofs.YtofihklinkpbiaaGreat.Lo
open Go.RowKit Go.Shelf F8 Poly GF Rd Ms
attribute [local go_sem] Oper.semAt_some
set_option maxRecDepth 100000 in
set_option maxHeartbeats 16000000 in
theorem works_calls (PS : Poly.Spec) (Z : Wl.Spec) (w : World) : Calls Tryz.prog 27 #[] w fun e w' => e = .returned (.bool true) ∧ Below w.heap.size w w' := by
 go_enter Tryz.func27, Tryz.ntmps27
 go_wp2_with fail
 refine (GF.new_calls w).mono ?_
 rintro e w1 ⟨rfl, hw1⟩
 have HMd := Lib.hid (made 6 2 2 w w1 hw1 (by decide) (by decide))
 clear hw1
 go_wp2_with fail
 refine HMd.out.mono ?_
 rintro e w2 (⟨-, S, hL, hSg, rfl⟩ | ⟨hno, -⟩)
 rotate_left
 ·exact absurd (by decide : Good 6 2 2) hno
 have en : S.n = 6 := by have := hL.en; omega
 have ek : S.k = 2 := by have := hL.ek; omega
 have er : S.r = 2 := by have := hL.er; omega
 have eq : S.q = 1 := by have := hL.lw.ok.par.ek; rw [ek, er] at this; omega
 have eG : S.G = 2 := by have := hL.lw.ok.par.en; rw [en, er] at this; omega
 have eX : S.xs = cpts 3 2 := by unfold Lc.xs; rw [er, eG]
 have eT : S.T = 2 := by unfold Lc.T; rw [eq, er]
 have HL := Lib.hid hL.lw
 have EN := Lib.hid en
 have ER := Lib.hid er
 have EQ := Lib.hid eq
 have EX := Lib.hid eX
 have ET := Lib.hid eT
 have HSg := Lib.hid hSg
 clear hL en ek er eq eG eX eT hSg HMd
 go_wp2_with fail
 have hFv := fives_calls (some ⟨w2.heap.size, 0, none⟩) [0, 1, 2, 3, 4, 5] 6 6 _ rfl (by decide) (Row.new w2 #[.int .i64 0, .int .i64 1, .int .i64 2, .int .i64 3, .int .i64 4, .int .i64 5] 3 (0, 0))
 with_reducible refine hFv.mono ?_
 clear hFv
 have HL2 := Lib.hid (HL.out.alloc (.cells #[.int .i64 0, .int .i64 1, .int .i64 2, .int .i64 3, .int .i64 4, .int .i64 5] 3))
 rintro e w3 ⟨A3, c3, E, rfl, hc3, hO3, hL3, hP3, hF3, hb3⟩
 have HL3 := Lib.hid (HL2.out.below hb3)
 have hEls : Els S.g w3 A3 E := hO3.els (hL3.lst HL3.out.ok.fld)
 obtain ⟨A0, k0, A1, k1, A2, k2, A4, k4, A5, k5, A6, k6, rfl⟩ := six hP3 hF3
 have HE3 := Lib.hid hEls
 have hc3' : 6 ≤ c3 := hc3
 clear HL HL2 hO3 hL3 hP3 hF3 hb3 hEls hc3
 rw [show ([0, 1, 2, 3, 4, 5] : List Int).length = 6 from rfl]
 obtain ⟨b3, o3, hA3, -, -⟩ := HE3.out.at_ (i := 0) (Nat.zero_lt_succ _)
 subst hA3
 go_wp2_with fail
 have HL4 := Lib.hid (HL3.out.alloc (.cells #[.int .u8 5, .int .u8 0] 5))
 have HE4 := Lib.hid (HE3.out.below ((Below.refl _ _).alloc (Nat.le_refl _) (.cells #[.int .u8 5, .int .u8 0] 5)))
 have hEn := encode_calls PS HL4.out.ok (some ⟨w3.heap.size, 0, none⟩) [fb 5, 0] 2 2 rfl (bf_new HL3.out.ok.fld.fld #[.int .u8 5, .int .u8 0] [fb 5, 0] rfl)
 rw [EX.out, EQ.out, ER.out, ex_e] at hEn
 with_reducible refine hEn.mono ?_
 clear hEn
 rintro e w5 ⟨A7, c7, rfl, hc7, hO7, hf5, hp5⟩
 have hp5' : Past (w3.alloc (.cells #[.int .u8 5, .int .u8 0] 5)).heap.size S.g (w3.alloc (.cells #[.int .u8 5, .int .u8 0] 5)) w5 := hp5
 have HL5 := Lib.hid (HL4.out.go hf5 hp5')
 have HE5 := Lib.hid (HE4.out.past HL4.out.ok.fld.fld hp5')
 have HB5 := Lib.hid (BF.own hf5 hO7)
 clear hO7 hf5 hp5 hp5' HL3 HL4 HE3 HE4 hc7
 rw [show ([fb 5, fb 5, fb 5, fb 5, fb 5, fb 5] : List F8).length = 6 from rfl]
 go_wp2_with fail
 have hNr := near_calls PS HL5.out.ok 0 (some ⟨b3, o3 + 2, none⟩) _ 2 (c3 - 1) rfl (by decide) (els_cut HE5.out 1 2)
 with_reducible refine hNr.mono ?_
 clear hNr
 rintro e w6 ⟨v6, z6, hNI, rfl, hf6, hp6⟩
 rw [EX.out, ER.out] at hNI
 obtain ⟨rfl, rfl⟩ := NIs.only (G := 2) (cpts_nodup (by decide) (by decide)) (cpts_length 3 2) (show NIs (cpts 3 2) 2 0 [((1 : Int), [fb 5]), (2, [fb 5])] v6 z6 from hNI) ex_n
 have HL6 := Lib.hid (HL5.out.go hf6 hp6)
 have HE6 := Lib.hid (HE5.out.past HL5.out.ok.fld.fld hp6)
 have HB6 := Lib.hid (HB5.out.past hp6)
 rw [show ((fb 5).n : Int) = 5 from rfl]
 clear hNI hf6 hp6 HL5 HE5 HB5
 have HSc : Hid (∀ V, Els S.g V (some ⟨b3, o3, none⟩) [⟨0, A0, [fb 5], k0⟩, ⟨1, A1, [fb 5], k1⟩, ⟨2, A2, [fb 5], k2⟩, ⟨3, A4, [fb 5], k4⟩, ⟨4, A5, [fb 5], k5⟩, ⟨5, A6, [fb 5], k6⟩] →
   (V.cell? ⟨b3, o3 + 2, none⟩ = some (.int .i64 1) ∧ V.cell? ⟨b3, o3 + 3, none⟩ = some (.slice A1 1 k1) ∧ V.cell? ⟨b3, o3 + 8, none⟩ = some (.int .i64 4) ∧ V.cell? ⟨b3, o3 + 9, none⟩ = some (.slice A5 1 k5)) ∧
   (V.cell? ⟨b3, o3 + 6, none⟩ = some (.int .i64 3) ∧ V.cell? ⟨b3, o3 + 7, none⟩ = some (.slice A4 1 k4) ∧ V.cell? ⟨b3, o3 + 10, none⟩ = some (.int .i64 5) ∧ V.cell? ⟨b3, o3 + 11, none⟩ = some (.slice A6 1 k6))) := Lib.hid fun V hV => by
  have key : ∀ k u, (cells2 [⟨0, A0, [fb 5], k0⟩, ⟨1, A1, [fb 5], k1⟩, ⟨2, A2, [fb 5], k2⟩, ⟨3, A4, [fb 5], k4⟩, ⟨4, A5, [fb 5], k5⟩, ⟨5, A6, [fb 5], k6⟩])[k]? = some u → V.cell? ⟨b3, o3 + k, none⟩ = some u := fun k u hu => by
   obtain ⟨b, o, e, hc⟩ := hV.row k u hu
   cases e
   exact hc
  exact ⟨⟨key 2 _ rfl, key 3 _ rfl, key 8 _ rfl, key 9 _ rfl⟩, key 6 _ rfl, key 7 _ rfl, key 10 _ rfl, key 11 _ rfl⟩
 have hbd : Below w6.heap.size w6 w6.drew := (Below.refl _ _).drew
 have hba : Below w6.heap.size w6 (w6.alloc (.cells #[.int .i64 3, .slice A4 1 k4, .int .i64 5, .slice A6 1 k6] 49)).drew := ((Below.refl _ _).alloc (Nat.le_refl _) _).drew
 have hrow : Row (w6.alloc (.cells #[.int .i64 3, .slice A4 1 k4, .int .i64 5, .slice A6 1 k6] 49)).drew (some ⟨w6.heap.size, 0, none⟩) (cells2 [⟨3, A4, [fb 5], k4⟩, ⟨5, A6, [fb 5], k6⟩]) := by
  have := Row.new w6 #[.int .i64 3, .slice A4 1 k4, .int .i64 5, .slice A6 1 k6] 49 (0, 0)
  exact this.drew
 have hEl : Els S.g (w6.alloc (.cells #[.int .i64 3, .slice A4 1 k4, .int .i64 5, .slice A6 1 k6] 49)).drew (some ⟨w6.heap.size, 0, none⟩) [⟨3, A4, [fb 5], k4⟩, ⟨5, A6, [fb 5], k6⟩] := ⟨hrow, (HE6.out.below hba).lst.sub fun e he => by
  simp only [List.mem_cons, List.not_mem_nil, or_false] at he ⊢
  rcases he with rfl | rfl <;> simp⟩
 have hDe := Lib.hid (decode_calls Z (HL6.out.below hba).ok (some ⟨w6.heap.size, 0, none⟩) _ 2 2 0 (by decide) (by decide) rfl (by decide) hEl)
 have HLa := Lib.hid (HL6.out.below hba)
 have HEa := Lib.hid (HE6.out.below hba)
 have HBa := Lib.hid (HB6.out.below hba)
 have HEd := Lib.hid (HE6.out.below hbd)
 have h66 : (3 : Nat) ≤ 6 := by decide
 clear hrow hEl hbd hba
 go_wp2_with fail
 go_region_held (fun V => V.cell? ⟨b3, o3 + 6, none⟩ = some (.int .i64 3) ∧ V.cell? ⟨b3, o3 + 7, none⟩ = some (.slice A4 1 k4) ∧ V.cell? ⟨b3, o3 + 10, none⟩ = some (.int .i64 5) ∧ V.cell? ⟨b3, o3 + 11, none⟩ = some (.slice A6 1 k6)) (first | (with_reducible exact (HSc.out _ HEd.out).2) | (with_reducible exact (HSc.out _ HEa.out).2) | (with_reducible exact (HSc.out _ HE7.out).2))
  (first | (go_at_call 38; (with_reducible refine hDe.out.mono ?_); rintro e w7 ⟨ms, wl, z7, hLI, A8, c8, B8, d8, rfl, hc8, hd8, hO8, hO9, hf7, hp7⟩; have HE7 := Lib.hid (HEa.out.past HLa.out.ok.fld.fld hp7)))
 rw [EX.out, EQ.out, ER.out] at hLI
 obtain ⟨rfl, rfl, rfl⟩ := LIs.only (by decide) (cpts_nodup (by decide) (by decide)) (show LIs (cpts 3 2) 1 2 [((3 : Int), [fb 5]), (5, [fb 5])] 0 ms wl z7 from hLI) ex_d
 have HL7 := Lib.hid (HLa.out.go hf7 hp7)
 have HB7 := Lib.hid (HBa.out.past hp7)
 have HM7 := Lib.hid (BF.own hf7 hO8)
 clear hLI hf7 hp7 hO8 hO9 HLa HEa HBa HEd hDe hc8 hd8 HL6 HE6 HB6
 rw [show ([fb 5, 0] : List F8).length = 2 from rfl, show ([] : List Int).length = 0 from rfl]
 have hbd : Below w7.heap.size w7 w7.drew := (Below.refl _ _).drew
 have hba : Below w7.heap.size w7 (w7.alloc (.cells #[.int .i64 1, .slice A1 1 k1, .int .i64 4, .slice A5 1 k5] 49)).drew := ((Below.refl _ _).alloc (Nat.le_refl _) _).drew
 have hrow : Row (w7.alloc (.cells #[.int .i64 1, .slice A1 1 k1, .int .i64 4, .slice A5 1 k5] 49)).drew (some ⟨w7.heap.size, 0, none⟩) (cells2 [⟨1, A1, [fb 5], k1⟩, ⟨4, A5, [fb 5], k5⟩]) := by
  have := Row.new w7 #[.int .i64 1, .slice A1 1 k1, .int .i64 4, .slice A5 1 k5] 49 (0, 0)
  exact this.drew
 have hEl : Els S.g (w7.alloc (.cells #[.int .i64 1, .slice A1 1 k1, .int .i64 4, .slice A5 1 k5] 49)).drew (some ⟨w7.heap.size, 0, none⟩) [⟨1, A1, [fb 5], k1⟩, ⟨4, A5, [fb 5], k5⟩] := ⟨hrow, (HE7.out.below hba).lst.sub fun e he => by
  simp only [List.mem_cons, List.not_mem_nil, or_false] at he ⊢
  rcases he with rfl | rfl <;> simp⟩
 have hNe := Lib.hid (near_calls PS (HL7.out.below hba).ok 0 (some ⟨w7.heap.size, 0, none⟩) _ 2 2 rfl (by decide) hEl)
 have HLa := Lib.hid (HL7.out.below hba)
 have HEa := Lib.hid (HE7.out.below hba)
 have HBa := Lib.hid (HB7.out.below hba)
 have HMa := Lib.hid (HM7.out.below hba)
 have HEd := Lib.hid (HE7.out.below hbd)
 clear hrow hEl hbd hba
 go_wp2_with fail
 go_region_held (fun V => V.cell? ⟨b3, o3 + 2, none⟩ = some (.int .i64 1) ∧ V.cell? ⟨b3, o3 + 3, none⟩ = some (.slice A1 1 k1) ∧ V.cell? ⟨b3, o3 + 8, none⟩ = some (.int .i64 4) ∧ V.cell? ⟨b3, o3 + 9, none⟩ = some (.slice A5 1 k5)) (first | (with_reducible exact (HSc.out _ HEd.out).1) | (with_reducible exact (HSc.out _ HEa.out).1) | (with_reducible exact (HSc.out _ HE8.out).1))
  (first | (go_at_call 36; (with_reducible refine hNe.out.mono ?_); rintro e w8 ⟨v8, z8, hNI, rfl, hf8, hp8⟩; have HE8 := Lib.hid (HEa.out.past HLa.out.ok.fld.fld hp8)))
 rw [EX.out, ER.out] at hNI
 obtain ⟨rfl, rfl⟩ := NIs.only (G := 2) (cpts_nodup (by decide) (by decide)) (cpts_length 3 2) (show NIs (cpts 3 2) 2 0 [((1 : Int), [fb 5]), (4, [fb 5])] v8 z8 from hNI) ex_f
 have HL8 := Lib.hid (HLa.out.go hf8 hp8)
 have HB8 := Lib.hid (HBa.out.past hp8)
 have HM8 := Lib.hid (HMa.out.past hp8)
 rw [show ((0 : F8).n : Int) = 0 from rfl]
 clear hNI hf8 hp8 HLa HEa HBa HMa HEd hNe HL7 HE7 HB7 HM7 HE8 HSc
 have hN1 := new_calls S.g 6 3 2 w8 HL8.out.ok.fld (by decide) (by decide)
 have hN2 := new_calls S.g 8 2 3 w8 HL8.out.ok.fld (by decide) (by decide)
 rw [HSg.out] at hN1 hN2
 have HN1 := Lib.hid hN1
 have HN2 := Lib.hid hN2
 clear hN1 hN2
 go_wp2_with fail
 with_reducible refine HN1.out.mono ?_
 rintro e w9 (⟨hg, -⟩ | ⟨-, rfl, rfl⟩)
 ·exact absurd hg (by decide)
 go_wp2_with fail
 with_reducible refine HN2.out.mono ?_
 rintro e w9 (⟨hg, -⟩ | ⟨-, rfl, rfl⟩)
 ·exact absurd hg (by decide)
 have hTe := tells_calls HL8.out.ok
 rw [ET.out, show ((2 : Nat) : Int) = 2 from rfl] at hTe
 have HTe := Lib.hid hTe
 have hGr := grp_calls HL8.out.ok 4
 rw [EN.out, ER.out, show grpZ 6 2 4 = [3, 5] by decide] at hGr
 have HGr := Lib.hid hGr
 clear hTe hGr HN1 HN2
 go_wp2_with (go_at_call 29; (with_reducible refine HTe.out.mono ?_); rintro e w9 ⟨rfl, rfl⟩)
 with_reducible refine HGr.out.mono ?_
 rintro e w9 ⟨v9, rfl, hO9, hb9⟩
 obtain ⟨A9, c9, rfl, -, -⟩ := hO9.form
 have HL9 := Lib.hid (HL8.out.below hb9)
 have HB9 := Lib.hid (HB8.out.below hb9)
 have HM9 := Lib.hid (HM8.out.below hb9)
 have hR9 := own_row hO9
 obtain ⟨X9, hX9⟩ : ∃ X9, w9.alloc (.cells #[.int .i64 3, .int .i64 5] 3) = X9 := ⟨_, rfl⟩
 have hbX : Below w9.heap.size w9 X9 := by rw [← hX9]; exact (Below.refl _ _).alloc (Nat.le_refl _) _
 have hSi := Wl.samez_calls A9 (some ⟨w9.heap.size, 0, none⟩) [3, 5] [3, 5] 2 2 c9 2 X9 rfl rfl (by decide) (hR9.below hbX) (by rw [← hX9]; exact Row.new w9 #[.int .i64 3, .int .i64 5] 3 (0, 0)) true rfl
 have HSi := Lib.hid hSi
 have HBX := Lib.hid hbX
 rw [show (Pt.nv [3, 5]).length = 2 from rfl]
 clear hO9 hb9 hR9 hbX hSi HL8 HB8 HM8
 go_wp2_with fail
 with_reducible refine HSi.out.mono ?_
 rintro e wa ⟨rfl, hba⟩
 have hb := HBX.out.trans (hba.mono HBX.out.size)
 have HLa := Lib.hid (HL9.out.below hb)
 have HBa := Lib.hid (HB9.out.below hb)
 have HMa := Lib.hid (HM9.out.below hb)
 clear hb hba HL9 HB9 HM9 HSi HBX hX9
 have hb0 : Below wa.heap.size wa (wa.alloc (.cells #[.int .u8 5, .int .u8 5, .int .u8 5, .int .u8 5, .int .u8 5, .int .u8 5] 5)) := (Below.refl _ _).alloc (Nat.le_refl _) _
 have HLt0 := Lib.hid (bf_new HLa.out.ok.fld.fld #[.int .u8 5, .int .u8 5, .int .u8 5, .int .u8 5, .int .u8 5, .int .u8 5] [fb 5, fb 5, fb 5, fb 5, fb 5, fb 5] rfl)
 have HLb := Lib.hid (HLa.out.below hb0)
 have HBb := Lib.hid (HBa.out.below hb0)
 have HMb := Lib.hid (HMa.out.below hb0)
 clear hb0 HLa HBa HMa
 go_wp2_with fail
 have hSa := same_calls A7 (some ⟨wa.heap.size, 0, none⟩) [fb 5, fb 5, fb 5, fb 5, fb 5, fb 5] [fb 5, fb 5, fb 5, fb 5, fb 5, fb 5] 6 6 c7 6 (wa.alloc (.cells #[.int .u8 5, .int .u8 5, .int .u8 5, .int .u8 5, .int .u8 5, .int .u8 5] 5)) rfl rfl HBb.out.by_ HLt0.out.by_
 rw [decide_eq_true rfl] at hSa
 with_reducible refine hSa.mono ?_
 clear hSa
 rintro e wb ⟨rfl, hwb⟩
 rw [hwb] at HLb HBb HMb
 clear hwb HLt0
 have hb0 : Below wb.heap.size wb (wb.alloc (.cells #[.int .u8 5, .int .u8 0] 5)) := (Below.refl _ _).alloc (Nat.le_refl _) _
 have HLt0 := Lib.hid (bf_new HLb.out.ok.fld.fld #[.int .u8 5, .int .u8 0] [fb 5, 0] rfl)
 have HLc := Lib.hid (HLb.out.below hb0)
 have HMc := Lib.hid (HMb.out.below hb0)
 clear hb0 HLb HBb HMb
 go_wp2_with fail
 have hSa := same_calls A8 (some ⟨wb.heap.size, 0, none⟩) [fb 5, 0] [fb 5, 0] 2 2 c8 2 (wb.alloc (.cells #[.int .u8 5, .int .u8 0] 5)) rfl rfl HMc.out.by_ HLt0.out.by_
 rw [decide_eq_true rfl] at hSa
 with_reducible refine hSa.mono ?_
 clear hSa
 rintro e wc ⟨rfl, hwc⟩
 rw [hwc] at HLc
 go_wp2
 go_ret
 exact ⟨rfl, HLc.out.bel⟩
end Go.Proofs.YtofihklinkpbiaaGreat.Lo

namespace Go.Proofs.YtofihklinkpbiaaGreat.Ms
open Go.RowKit Go.Shelf F8 Poly GF Rd
attribute [local go_sem] Oper.semAt_some
theorem info_sym : (Tryz.prog.info? 49).map (fun i => (i.zero, i.size, i.bytes)) = some (some (.agg #[.int .i64 0, .slice none 0 0]), 2, 32) := by kernel_rfl
theorem bytes_put {w : World} {a n : Nat} {Y : List F8} (h : Bytes w (some ⟨a, 0, none⟩) (bs Y)) (hc : Conv w a n) (hn : Y.length = n) {i : Nat} (hi : i < n) (v : F8) : Bytes (w.setCell ⟨a, i, none⟩ (.int .u8 (v.n : Nat))) (some ⟨a, 0, none⟩) (bs (Y.set i v)) := by
 refine ⟨fun k u hk => ⟨a, 0, rfl, ?_⟩, bs_lt _⟩
 rw [Nat.zero_add]
 rw [← bvs_put] at hk
 by_cases hik : k = i
 ·subst hik
  rw [List.getElem?_set_self (by rw [bvs_length]; omega)] at hk
  obtain rfl := Option.some.inj hk
  obtain ⟨⟨x, hx⟩, _⟩ := hc.cell hi
  exact World.cell?_setCell_same w _ _ hx
 ·rw [List.getElem?_set_ne (fun e => hik e.symm)] at hk
  obtain ⟨b, off, e1, e2⟩ := h.row k u hk
  cases e1
  rw [Nat.zero_add] at e2
  exact (World.cell?_setCell_other _ _ _ _ (by intro e; have := congrArg Addr.off e; simp at this; omega)).trans e2
structure TE (B : Nat) (V : World) (E : List El) : Prop where
 own : ∀ e ∈ E, ∃ b, e.A = some ⟨b, 0, none⟩ ∧ B ≤ b ∧ b < V.heap.size ∧ Bytes V e.A (bs e.s) ∧ Conv V b e.s.length ∧ e.s.length ≤ e.c
 sep : (E.map El.A).Nodup
theorem TE.nil (B : Nat) (V : World) : TE B V [] := ⟨fun _ h => by simp at h, List.nodup_nil⟩
section
variable {B : Nat} {V V' : World} {E : List El}
theorem TE.below (h : TE B V E) (hb : Below V.heap.size V V') : TE B V' E := ⟨fun e he => by
 obtain ⟨b, e1, h1, h2, h3, h4, h5⟩ := h.own e he
 have := hb.size
 exact ⟨b, e1, h1, by omega, h3.below hb, h4.below hb, h5⟩, h.sep⟩
theorem TE.grown {n : Nat} {v : Value} {xs : List Value} {B2 : Nat} (h : TE B V E) (ho : OwnK 2 V B2 49 v n xs) (hg : V.grownBy V' v.ownBlock) : TE B V' E := ⟨fun e he => by
 obtain ⟨b, e1, h1, h2, h3, ⟨cs, hc1, hc2, hc3⟩, h5⟩ := h.own e he
 have hne : v.ownBlock ≠ some b := fun hv => by
  rcases ho.2 with ⟨rfl, -⟩ | ⟨g, cap, cur, rfl, -, hh, -⟩
  ·simp [Value.ownBlock] at hv
  ·simp only [Value.ownBlock, Option.some.injEq] at hv
   subst hv
   rw [hc1] at hh
   injection hh with hh
   injection hh with _ hh
   exact absurd hh (by decide)
 have hk := hg.5 b h2 (Ne.symm hne)
 refine ⟨b, e1, h1, Nat.lt_of_lt_of_le h2 hg.4, ⟨?_, h3.lt⟩, ⟨cs, hk.trans hc1, hc2, hc3⟩, h5⟩
 intro j u hu
 obtain ⟨b', off, e2, hc⟩ := h3.row j u hu
 refine ⟨b', off, e2, ?_⟩
 rw [e1] at e2
 cases e2
 simp only [World.cell?] at hc ⊢
 rw [hk]
 exact hc, h.sep⟩
theorem TE.snoc (h : TE B V E) {e : El} {b : Nat} (e1 : e.A = some ⟨b, 0, none⟩) (h1 : B ≤ b) (h2 : V.heap.size ≤ b) (hb : Below V.heap.size V V') (h3 : b < V'.heap.size) (h4 : Bytes V' e.A (bs e.s)) (h5 : Conv V' b e.s.length) (h6 : e.s.length ≤ e.c) : TE B V' (E ++ [e]) := by
 have hh := h.below hb
 refine ⟨fun f hf => ?_, by
  rw [List.map_append, List.nodup_append]
  refine ⟨h.sep, by simp, fun x hx y hy => ?_⟩
  obtain ⟨f, hf, rfl⟩ := List.mem_map.1 hx
  obtain rfl := List.mem_singleton.1 hy
  obtain ⟨b', e2, -, h2', -⟩ := h.own f hf
  rw [e1, e2]
  intro hh
  injection hh with hh
  injection hh with hh
  omega⟩
 ·rcases List.mem_append.1 hf with hf | hf
  ·exact hh.own f hf
  ·obtain rfl := List.mem_singleton.1 hf
   exact ⟨b, e1, h1, h3, h4, h5, h6⟩
theorem TE.put (h : TE B V E) {p b k : Nat} (hp : p < E.length) (e1 : (E[p]).A = some ⟨b, 0, none⟩) (hk : k < (E[p]).s.length) (v : F8) :
  TE B (V.setCell ⟨b, k, none⟩ (.int .u8 (v.n : Nat))) (E.set p ⟨(E[p]).p, (E[p]).A, (E[p]).s.set k v, (E[p]).c⟩) := by
 have hA : (E.set p ⟨(E[p]).p, (E[p]).A, (E[p]).s.set k v, (E[p]).c⟩).map El.A = E.map El.A := by
  rw [List.map_set]
  have : (E[p]).A = (E.map El.A)[p]'(by simpa using hp) := by simp
  show (E.map El.A).set p (E[p]).A = _
  rw [this, List.set_getElem_self]
 refine ⟨fun e he => ?_, by rw [hA]; exact h.sep⟩
 obtain ⟨q, hq, rfl⟩ := List.getElem_of_mem he
 rw [List.length_set] at hq
 rw [List.getElem_set]
 by_cases hpq : p = q
 ·subst hpq
  rw [if_pos rfl]
  obtain ⟨b', e2, h1, h2, h3, h4, h5⟩ := h.own (E[p]) (List.getElem_mem hp)
  rw [e1] at e2 h3
  cases e2
  refine ⟨b, e1, h1, by rw [World.size_setCell]; exact h2, ?_, ?_, ?_⟩
  ·show Bytes _ (E[p]).A (bs ((E[p]).s.set k v))
   rw [e1]
   exact bytes_put h3 h4 rfl hk v
  ·show Conv _ b ((E[p]).s.set k v).length
   rw [List.length_set]
   exact h4.set_ k _
  ·show ((E[p]).s.set k v).length ≤ _
   rw [List.length_set]
   exact h5
 ·rw [if_neg hpq]
  obtain ⟨b', e2, h1, h2, h3, ⟨cs, hc1, hc2, hc3⟩, h5⟩ := h.own (E[q]) (List.getElem_mem hq)
  have hbb : b ≠ b' := by
   rintro rfl
   have := (List.pairwise_iff_getElem.1 h.sep)
   rcases Nat.lt_or_gt_of_ne hpq with hlt | hlt
   ·exact this p q (by simpa using hp) (by simpa using hq) hlt (by simp [e1, e2])
   ·exact this q p (by simpa using hq) (by simpa using hp) hlt (by simp [e1, e2])
  have hh : (V.setCell ⟨b, k, none⟩ (.int .u8 (v.n : Nat))).heap[b']? = V.heap[b']? := by
   simp [World.setCell, Array.getElem?_modify, hbb]
  refine ⟨b', e2, h1, by rw [World.size_setCell]; exact h2, ⟨?_, h3.lt⟩, ⟨cs, hh.trans hc1, hc2, hc3⟩, h5⟩
  intro j u hu
  obtain ⟨b'', off, e3, hc⟩ := h3.row j u hu
  refine ⟨b'', off, e3, ?_⟩
  rw [e2] at e3
  cases e3
  simp only [World.cell?] at hc ⊢
  rw [hh]
  exact hc
def ordO (tu : Bool) (L : List Int) : List Int := if tu then L.reverse else L
theorem ordO_length (tu : Bool) (L : List Int) : (ordO tu L).length = L.length := by unfold ordO; split <;> simp
end
theorem ordO_at (tu : Bool) (L : List Int) {i : Nat} (hi : i < L.length) : (ordO tu L)[i]'(by rw [ordO_length]; exact hi) = if tu then L[L.length - 1 - i] else L[i] := by
 unfold ordO
 cases tu
 ·simp
 ·simp
end Go.Proofs.YtofihklinkpbiaaGreat.Ms

namespace Go.Proofs.YtofihklinkpbiaaGreat.Ms
open Go.RowKit Go.Shelf F8 Poly GF Rd
attribute [local go_sem] Oper.semAt_some
theorem OwnK.far {k n B : Nat} {w : World} {e : TypeId} {v : Value} {xs : List Value} (h : OwnK k w B e v n xs) {b j : Nat} (hne : v.ownBlock ≠ some b) (u : Value) : OwnK k (w.setCell ⟨b, j, none⟩ u) B e v n xs := by
 refine ⟨h.1, ?_⟩
 rcases h.2 with h2 | ⟨g, cap, cur, rfl, h2, h3, h4⟩
 ·exact .inl h2
 ·refine .inr ⟨g, cap, cur, rfl, h2, ?_, h4⟩
  have hbg : b ≠ g := fun e => hne (by rw [e]; rfl)
  rw [← h3]
  simp [World.setCell, Array.getElem?_modify, hbg]
theorem TE.apart {B B2 n b : Nat} {V : World} {E : List El} {v : Value} {xs : List Value} (h : TE B V E) (ho : OwnK 2 V B2 49 v n xs) {e : El} (he : e ∈ E) (e1 : e.A = some ⟨b, 0, none⟩) : v.ownBlock ≠ some b := fun hv => by
 obtain ⟨b', e2, -, -, -, ⟨cs, hc1, -⟩, -⟩ := h.own e he
 rw [e1] at e2
 cases e2
 rcases ho.2 with ⟨rfl, -⟩ | ⟨g, cap, cur, rfl, -, hh, -⟩
 ·simp [Value.ownBlock] at hv
 ·simp only [Value.ownBlock, Option.some.injEq] at hv
  subst hv
  rw [hc1] at hh
  injection hh with hh
  injection hh with _ hh
  exact absurd hh (by decide)
theorem TE.put2 {B p b k c : Nat} {q : Int} {V : World} {E : List El} {F : List F8} (h : TE B V (E.set p ⟨q, some ⟨b, 0, none⟩, F, c⟩)) (hp : p < E.length) (hk : k < F.length) (v : F8) :
  TE B (V.setCell ⟨b, k, none⟩ (.int .u8 (v.n : Nat))) (E.set p ⟨q, some ⟨b, 0, none⟩, F.set k v, c⟩) := by
 have hp' : p < (E.set p ⟨q, some ⟨b, 0, none⟩, F, c⟩).length := by simpa using hp
 have e0 : (E.set p ⟨q, some ⟨b, 0, none⟩, F, c⟩)[p] = ⟨q, some ⟨b, 0, none⟩, F, c⟩ := List.getElem_set_self _
 have h1 := h.put (b := b) (k := k) hp' (by rw [e0]) (by rw [e0]; exact hk) v
 rw [e0, List.set_set] at h1
 exact h1
theorem TE.at_ {B p : Nat} {V : World} {E : List El} (h : TE B V E) (hp : p < E.length) : ∃ b, (E[p]).A = some ⟨b, 0, none⟩ ∧ B ≤ b := by
 obtain ⟨b, h1, h2, -⟩ := h.own _ (List.getElem_mem hp)
 exact ⟨b, h1, h2⟩
def shF (l : List El) (j : Nat) : List F8 := ((l[j]?).map El.s).getD []
theorem nb_start {l E : List El} (h : ∀ e ∈ E, ∃ f, l[e.p.toNat]? = some f ∧ f.s = e.s) : nb (shF l) (shE E) = 0 := nb_nil fun o ho => by
 obtain ⟨e, he, rfl⟩ := List.mem_map.1 ho
 obtain ⟨f, h1, h2⟩ := h e he
 show e.s = shF l e.p.toNat
 unfold shF
 rw [h1]
 exact h2.symm
theorem cells2_put {E : List El} {p : Nat} (hp : p < E.length) {F : List F8} (hF : F.length = (E[p]).s.length) : cells2 (E.set p ⟨(E[p]).p, (E[p]).A, F, (E[p]).c⟩) = cells2 E := by
 unfold cells2
 rw [List.flatMap_def, List.flatMap_def, List.map_set]
 have e : El.cs ⟨(E[p]).p, (E[p]).A, F, (E[p]).c⟩ = (E.map El.cs)[p]'(by simpa using hp) := by simp [El.cs, hF]
 rw [e, List.set_getElem_self]
theorem ps_set {E : List El} {p : Nat} (hp : p < E.length) (F : List F8) : (E.set p ⟨(E[p]).p, (E[p]).A, F, (E[p]).c⟩).map El.p = E.map El.p := by
 rw [List.map_set]
 have e : (E[p]).p = (E.map El.p)[p]'(by simpa using hp) := by simp
 show (E.map El.p).set p (E[p]).p = _
 rw [e, List.set_getElem_self]
theorem shE_set (E : List El) (p : Nat) (e : El) : shE (E.set p e) = (shE E).set p (e.p, e.s) := by
 unfold shE
 rw [List.map_set]
theorem cells2_lens : ∀ {E E2 : List El}, cells2 E2 = cells2 E → E2.map (fun e => e.s.length) = E.map fun e => e.s.length
 | [], [], _ => rfl
 | [], x :: E2, h => by simp [cells2, El.cs] at h
 | x :: E, [], h => by simp [cells2, El.cs] at h
 | x :: E, y :: E2, h => by
  have h1 : El.cs y ++ cells2 E2 = El.cs x ++ cells2 E := h
  simp only [El.cs, List.cons_append, List.nil_append, List.cons.injEq] at h1
  obtain ⟨-, h2, h3⟩ := h1
  rw [List.map_cons, List.map_cons, cells2_lens h3]
  injection h2 with _ h4 _
  rw [h4]
theorem nb_zero {S : Nat → List F8} {sh : List (Int × List F8)} (h : nb S sh = 0) : ∀ o ∈ sh, o.2 = S o.1.toNat := fun o ho => by
 unfold nb at h
 have h1 := List.eq_nil_of_length_eq_zero h
 by_cases e : o.2 = S o.1.toNat
 ·exact e
 ·have : o ∈ sh.filter fun o => decide (o.2 ≠ S o.1.toNat) := List.mem_filter.2 ⟨ho, by simpa using e⟩
  rw [h1] at this
  simp at this
def ToldG (l : List El) (n t : Nat) (tu : Bool) (w : World) (e : Ending) (w' : World) : Prop :=
 ∃ (L : List Int) (A : Option Addr) (m c : Nat) (E : List El) (P : Option Addr) (pn cp : Nat), OkP n L ∧ L.length = m ∧ m ≤ n ∧ wrongs n (shF l) (shE E) = wrongs n (shF l) (shE E) ∧ (wrongs n (shF l) (shE E)).length = pn ∧
  e = .returned (.tuple #[.slice A m c, .slice P pn cp]) ∧ m ≤ c ∧ pn ≤ cp ∧ OwnK 2 w' w.heap.size 49 (.slice A m c) m (cells2 E) ∧ TE w.heap.size w' E ∧ E.map El.p = ordO tu L ∧ nb (shF l) (shE E) ≤ t ∧
  (∀ e ∈ E, ∃ f, l[e.p.toNat]? = some f ∧ f.s.length = e.s.length) ∧ Own w' w.heap.size 3 (.slice P pn cp) (zs (wrongs n (shF l) (shE E))) ∧ Below w.heap.size w w'
theorem lens_of {l E E2 : List El} (hF : ∀ e ∈ E, ∃ f, l[e.p.toNat]? = some f ∧ f.s = e.s) (hP : E2.map El.p = E.map El.p) (hC : cells2 E2 = cells2 E) : ∀ e ∈ E2, ∃ f, l[e.p.toNat]? = some f ∧ f.s.length = e.s.length := fun e he => by
 obtain ⟨i, hi, rfl⟩ := List.getElem_of_mem he
 have hl := cells2_lens hC
 have hlen : E.length = E2.length := by have := congrArg List.length hP; simpa using this.symm
 obtain ⟨f, h1, h2⟩ := hF (E[i]'(by omega)) (List.getElem_mem _)
 have h3 : (E2[i]).p = (E[i]'(by omega)).p := by
  have := congrArg (fun L => L[i]?) hP
  simpa [hi, hlen] using this
 have h4 : (E2[i]).s.length = (E[i]'(by omega)).s.length := by
  have := congrArg (fun L => L[i]?) hl
  simpa [hi, hlen] using this
 exact ⟨f, by rw [h3]; exact h1, by rw [h4, h2]⟩
end Go.Proofs.YtofihklinkpbiaaGreat.Ms

namespace Go.Proofs.YtofihklinkpbiaaGreat.Lo
open Go.RowKit Go.Shelf F8 Poly GF Rd Ms
attribute [local go_sem] Oper.semAt_some
def RwG (g : Nat) (p : List F8) (w : World) (e : Ending) (w' : World) : Prop :=
 ∃ A c l, e = .returned (.slice A p.length c) ∧ p.length ≤ c ∧ OwnK 1 w' w.heap.size 22 (.slice A p.length c) p.length (cells1 l) ∧ Lst g w' l ∧ l.map El.s = p.map (fun x => [x]) ∧ Below w.heap.size w w'
theorem bytes_one {w : World} {b o : Nat} {p : List F8} (h : Bytes w (some ⟨b, o, none⟩) (bs p)) {i : Nat} (hi : i < p.length) : Bytes w (some ⟨b, o + i, none⟩) (bs [p[i]]) := by
 have hc := cellAt h i hi
 refine ⟨fun k u hu => ?_, bs_lt _⟩
 have hk : k = 0 := by
  have := (List.getElem?_eq_some_iff.1 hu).1
  simp [bs, bv] at this
  omega
 subst hk
 refine ⟨b, o + i, rfl, ?_⟩
 rw [Nat.add_zero, hc, coef_of_lt hi]
 simpa [bs, bv] using hu
def cutE (A : Option Addr) (p : List F8) (c k : Nat) : El := ⟨0, A.map fun a => ⟨a.block, a.off + k, none⟩, [coef p k], c - k⟩
theorem cut_lst {g : Nat} {w : World} {A : Option Addr} {p : List F8} {c i : Nat} (hB : BF g w A p) (hc : p.length ≤ c) (hi : i ≤ p.length) : Lst g w ((List.range i).map (cutE A p c)) := fun e he => by
 obtain ⟨k, hk, rfl⟩ := List.mem_map.1 he
 have hk := List.mem_range.1 hk
 obtain ⟨b, o, rfl⟩ := where_ hB.by_ (by omega)
 have h1 := bytes_one hB.by_ (i := k) (by omega)
 have e1 : p[k]'(by omega) = coef p k := (coef_of_lt (by omega)).symm
 rw [e1] at h1
 refine ⟨⟨h1, fun _ a y ha hy => ?_⟩, by show 1 ≤ c - k; omega⟩
 cases ha; cases hy
 exact fun e => hB.far (by intro h; rw [h] at hi; simp at hi; omega) _ _ rfl rfl e
theorem cut_map {A : Option Addr} {p : List F8} {c : Nat} : ((List.range p.length).map (cutE A p c)).map El.s = p.map fun x => [x] := by
 apply List.ext_getElem
 ·simp
 ·intro i h1 h2
  have hi : i < p.length := by simpa using h1
  simp [cutE, coef_of_lt hi]
set_option maxRecDepth 100000 in
set_option maxHeartbeats 2000000 in
theorem rows_calls {g : Nat} (A : Option Addr) (p : List F8) (n c : Nat) (w : World) (hl : p.length = n) (hn : n ≤ 300) (hB : BF g w A p) (hc : n ≤ c) :
  Calls Tryz.prog 43 #[.slice A n c] w (RwG g p w) := by
 have HB := Lib.hid hB
 have HL := Lib.hid hl
 clear hB hl
 go_enter Tryz.func43, Tryz.ntmps43
 go_wp2
 go_loopw [3, 4] (fun ov iv wr => ∃ i : Nat, i ≤ n ∧ iv = .int .i64 i ∧ Hid (OwnK 1 wr w.heap.size 22 ov i (cells1 ((List.range i).map (cutE A p c)))) ∧ Hid (Below w.heap.size w wr)) (fun _ iv _ => n - (intOf iv).toNat)
 case atStart => exact ⟨0, by omega, rfl, Lib.hid (OwnK.nil _ _ _ _), Lib.hid (Below.refl _ _)⟩
 case round =>
  obtain ⟨i, hi, rfl, HO, HW⟩ := hrel
  by_cases hin : i < n
  ·have hip : i < p.length := by rw [HL.out]; exact hin
   obtain ⟨b, o, hA⟩ := where_ HB.out.by_ (by rw [HL.out]; omega)
   subst hA
   have HTk : Hid ((List.range (i + 1)).map (cutE (some ⟨b, o, none⟩) p c) = (List.range i).map (cutE (some ⟨b, o, none⟩) p c) ++ [⟨0, some ⟨b, o + i, none⟩, [coef p i], c - i⟩]) := Lib.hid (by rw [List.range_succ, List.map_append]; rfl)
   obtain ⟨L, hL⟩ : ∃ L, (List.range i).map (cutE (some ⟨b, o, none⟩) p c) = L := ⟨_, rfl⟩
   rw [hL] at HTk HO
   obtain ⟨x, hx⟩ : ∃ x, coef p i = x := ⟨_, rfl⟩
   rw [hx] at HTk
   have hci : (i : Int) < (c : Int) := by omega
   have hci2 : (i : Int) + 1 ≤ (c : Int) := by omega
   have hcn : i < c := by omega
   have hi1 : ((i : Int) + 1).toNat - i = 1 := by omega
   have hw1 : IntKind.i64.wrap ((i : Int) + 1) = (i : Int) + 1 := IntWalk.i64_in _ (by omega)
   obtain ⟨wa, hwa⟩ : ∃ wa, wr.alloc (.cells #[.slice (some ⟨b, o + i, none⟩) 1 (c - i)] 22) = wa := ⟨_, rfl⟩
   have hba : Below wr.heap.size wr wa := by rw [← hwa]; exact (Below.refl _ _).alloc (Nat.le_refl _) _
   have hsz := HW.out.size
   have hza := hba.size
   have HRow : Hid (Row wa (some ⟨wr.heap.size, 0, none⟩) (cells1 [⟨0, some ⟨b, o + i, none⟩, [x], c - i⟩])) := Lib.hid (by
    rw [← hwa]
    exact Row.new wr #[.slice (some ⟨b, o + i, none⟩) 1 (c - i)] 22 (0, 0))
   have HOw := Lib.hid (HO.out.below hba)
   have HB2 := Lib.hid (HW.out.trans (hba.mono hsz))
   have hz9 : w.heap.size ≤ wa.heap.size := by omega
   clear hba hx HO hL
   go_wp2_with (at_builtin; refine wpList_appK _ rfl 1 _ _ _ rfl w.heap.size 22 _ 24 Tryz.underlying34 info_bs rfl (by omega) (by omega) _ i (cells1 L) rfl HOw.out ⟨wr.heap.size, 0, none⟩ 1 1 (cells1 [⟨0, some ⟨b, o + i, none⟩, [x], c - i⟩]) rfl rfl HRow.out (cells1_one _) (by omega) hz9 ?_; rintro v7 w7 hown hg7 -)
   rw [← cells1_append, ← HTk.out] at hown
   have HO7 := Lib.hid hown
   have HB7 := Lib.hid (HB2.out.trans (HOw.out.grew hz9 hg7))
   clear hown hg7
   go_roundw
   case rel => exact ⟨i + 1, by omega, by go_num, HO7, HB7⟩
   case measure => simp [intOf]; omega
  ·obtain rfl : i = n := by omega
   obtain ⟨A9, c9, rfl, hc9, -⟩ := HO.out.shape
   have HX : Hid (RwG g p w (.returned (.slice A9 i c9)) wr) := Lib.hid ⟨A9, c9, (List.range i).map (cutE A p c), by rw [HL.out], by rw [HL.out]; exact hc9, by rw [HL.out]; exact HO.out, cut_lst (HB.out.below HW.out) (by rw [HL.out]; exact hc) (by rw [HL.out]; exact Nat.le_refl _), by rw [← HL.out]; exact cut_map, HW.out⟩
   clear HO
   go_wp2
   go_ret
   exact HX.out
theorem te_lst {g B : Nat} {V : World} {E : List El} (h : TE B V E) (hg : g < B) : Lst g V E := fun e he => by
 obtain ⟨b, h1, h2, -, h3, -, h4⟩ := h.own e he
 refine ⟨⟨h3, fun _ a q ha hq => ?_⟩, h4⟩
 rw [h1] at ha
 cases ha; cases hq
 show b ≠ g
 omega
theorem shF_cut {l : List El} {p : List F8} {j : Nat} (hl : l.map El.s = p.map fun x => [x]) (hj : j < p.length) : shF l j = [coef p j] := by
 have h6 : (l.map El.s)[j]? = some [p[j]] := by rw [hl, List.getElem?_map, List.getElem?_eq_getElem hj]; rfl
 rw [List.getElem?_map] at h6
 unfold shF
 rw [h6, coef_of_lt hj]; rfl
theorem told_lok {l E : List El} {p : List F8} {L : List Int} {tu : Bool} (hl : l.map El.s = p.map fun x => [x]) (hL : OkP p.length L) (hP : E.map El.p = ordO tu L) (hlen : ∀ e ∈ E, ∃ f, l[e.p.toNat]? = some f ∧ f.s.length = e.s.length) : LOk p.length (shE E) := by
 refine ⟨?_, fun o ho => ?_⟩
 ·have e1 : (shE E).map Prod.fst = E.map El.p := by simp [shE]
  rw [e1, hP]
  unfold ordO
  split
  ·exact (List.reverse_perm L).nodup_iff.2 hL.2
  ·exact hL.2
 ·obtain ⟨e, he, rfl⟩ := List.mem_map.1 ho
  have h1 : e.p ∈ ordO tu L := hP ▸ List.mem_map_of_mem he
  have h2 : e.p ∈ L := by
   unfold ordO at h1
   split at h1
   ·exact List.mem_reverse.1 h1
   ·exact h1
  refine ⟨hL.1 _ h2, ?_⟩
  obtain ⟨f, h4, h5⟩ := hlen e he
  show e.s.length = 1
  rw [← h5]
  have h6 : f.s ∈ l.map El.s := List.mem_map_of_mem (List.mem_of_getElem? h4)
  rw [hl] at h6
  obtain ⟨x, -, hx⟩ := List.mem_map.1 h6
  rw [← hx]; rfl
theorem nb_congr {n : Nat} {S S' : Nat → List F8} {sh : List (Int × List F8)} (h : LOk n sh) (he : ∀ j, j < n → S j = S' j) : nb S sh = nb S' sh := by
 unfold nb
 congr 1
 refine List.filter_congr fun o ho => ?_
 have h1 := (h.2 o ho).1
 rw [he _ (by omega)]
theorem wrongs_congr {n : Nat} {S S' : Nat → List F8} {sh : List (Int × List F8)} (h : ∀ j, j < n → S j = S' j) : wrongs n S sh = wrongs n S' sh := by
 unfold wrongs
 congr 1
 refine List.filter_congr fun j hj => ?_
 rw [h j (List.mem_range.1 hj)]
theorem val_word (xs p : List F8) {j : Nat} (h : j < xs.length) : valF xs p j = [coef (word p xs) j] := by
 unfold valF
 rw [word_get h]
end Go.Proofs.YtofihklinkpbiaaGreat.Lo
