/- Of the program, joined: MsCodeI, MsCodeJ. -/
import Derived.Test.YtjoghbmedfmioaaGreatPb22
import Derived.Deep.RegionHeld
namespace Go.Proofs.YtjoghbmedfmioaaGreat.Ms
open Go.RowKit Go.Shelf F8 Poly GF Rd
attribute [local go_sem] Oper.semAt_some
theorem argr_iff {n : Nat} {l : List El} {to t : Int} : ArgR n to (shE l) t ↔ (0 ≤ to ∧ to < (n : Int)) ∧ Sy.VOk n 1 [to] (Sy.elsN l) ∧ 0 ≤ t := by
 unfold ArgR
 rw [argok_iff]
 unfold Sy.VOk
 constructor
 ·rintro ⟨h1, h2, ⟨h3, h4⟩, h5⟩
  refine ⟨h1, ⟨h3, fun o ho => ?_⟩, h5⟩
  obtain ⟨e, he, rfl⟩ := List.mem_map.1 ho
  have h6 := h4 _ ho
  have h7 := h2 (e.p, e.s) (List.mem_map.2 ⟨e, he, rfl⟩)
  exact ⟨h6.1, by simpa using h7, h6.2.2⟩
 ·rintro ⟨h1, ⟨h3, h4⟩, h5⟩
  refine ⟨h1, fun o ho => ?_, ⟨h3, fun o ho => ⟨(h4 o ho).1, by simp, (h4 o ho).2.2⟩⟩, h5⟩
  obtain ⟨e, he, rfl⟩ := List.mem_map.1 ho
  have h6 := (h4 (e.p, e.s.length) (List.mem_map.2 ⟨e, he, rfl⟩)).2.1
  simpa using h6
def RPost (S : Co) (w : World) (to : Int) (sh : List (Int × List F8)) (t : Int) (e : Ending) (w' : World) : Prop := ∃ ms wl z, RIs S.xs S.n S.d S.a S.v to sh t ms wl z ∧ Wl.WRes S.g w ms wl z e w'
theorem RPost.err {S : Co} {w w' : World} {sh : List (Int × List F8)} {to t z : Int} (hk : Kp S w w') (h : RIs S.xs S.n S.d S.a S.v to sh t [] [] z) : RPost S w to sh t (.returned (.tuple #[.slice none 0 0, .slice none 0 0, .int .i64 z])) w' :=
 ⟨[], [], z, h, none, 0, none, 0, rfl, Nat.le_refl _, Nat.le_refl _, Own.nil _ _ _, Own.nil _ _ _, hk.fldp, hk.past⟩
theorem ylds_append (xs : List F8) (v : Nat) (a b : List (Int × List F8)) : ylds xs v (a ++ b) = ylds xs v a ++ ylds xs v b := by unfold ylds; rw [List.map_append]
set_option maxRecDepth 100000 in
set_option maxHeartbeats 16000000 in
theorem repair_calls (PS : Poly.Spec) (Z : Wl.Spec) {S : Co} {w : World} (h : S.Ok w) (to : Int) (A : Option Addr) (l : List El) (m c : Nat) (t : Int) (ht1 : -9223372036854775808 ≤ t) (ht2 : t < 9223372036854775808) (hl : l.length = m) (hm : m ≤ 1000) (hE : Els S.g w A l) :
  Calls Tryz.prog 33 #[.pointer (some ⟨S.b, 0, none⟩), .int .i64 to, .slice A m c, .int .i64 t] w (RPost S w to (shE l) t) := by
 have hmx : Tryz.prog.follows .mixedOrders = true := by kernel_rfl
 have hn := h.nums
 have H := Lib.hid h
 have HE := Lib.hid hE
 have HM := Lib.hid hl
 have HN := Lib.hid hn
 have HNone := Lib.hid (isNone_calls h)
 obtain ⟨-, x1, -⟩ := h.cells
 have hnd := Sy.isNode_calls to S.n w
 have hbad : ∀ {w'}, Kp S w w' → ¬ ArgR S.n to (shE l) t → RPost S w to (shE l) t (.returned (.tuple #[.slice none 0 0, .slice none 0 0, .int .i64 2])) w' := fun hk hno => RPost.err hk (.inl ⟨hno, rfl, rfl, rfl⟩)
 by_cases hto : 0 ≤ to ∧ to < (S.n : Int)
 ·rw [decide_eq_true hto] at hnd
  have HNd := Lib.hid hnd
  by_cases ht : t < 0
  ·have HX := Lib.hid (hbad (Kp.start h) (fun hA => by have := (argr_iff.1 hA).2.2; omega))
   have hd : decide (t < 0) = true := decide_eq_true ht
   clear h hE hl hn hbad hnd
   go_enter Tryz.func33, Tryz.ntmps33
   go_wp2_with (first | (go_at_call 56; refine HNone.out.mono ?_; rintro e w1 ⟨rfl, rfl⟩) | (go_at_call 49; refine HNd.out.mono ?_; rintro e w1 ⟨rfl, rfl⟩))
   go_ret3
   exact HX.out
  ·have hd : decide (t < 0) = false := decide_eq_false ht
   obtain ⟨V1, hV1⟩ : ∃ V1, w.alloc (.cells #[.int .i64 to] 3) = V1 := ⟨_, rfl⟩
   have hk1 : Kp S w V1 := by rw [← hV1]; exact (Kp.start h).alloc _
   have hrow : Row V1 (some ⟨w.heap.size, 0, none⟩) (zs [to]) := by rw [← hV1]; exact Row.new w #[.int .i64 to] 3 (0, 0)
   have hval := Sy.valid_calls A l m c S.n 1 (some ⟨w.heap.size, 0, none⟩) [to] 1 1 V1 hl hm (hE.past h.fld.fld hk1.past).row (by omega) rfl (by omega) hrow
   rw [show ((1 : Nat) : Int) = (1 : Int) from rfl] at hval
   have HK1 := Lib.hid hk1
   by_cases hv : Sy.VOk S.n 1 [to] (Sy.elsN l)
   ·rw [decide_eq_true hv] at hval
    have HVal := Lib.hid hval
    have HA := Lib.hid (argr_iff.2 ⟨hto, hv, by omega⟩ : ArgR S.n to (shE l) t)
    clear h hE hl hn hbad hnd hval hv hk1 hrow
    go_enter Tryz.func33, Tryz.ntmps33
    go_wp2_with (first | (go_at_call 56; refine HNone.out.mono ?_; rintro e w1 ⟨rfl, rfl⟩) | (go_at_call 49; refine HNd.out.mono ?_; rintro e w1 ⟨rfl, rfl⟩) | (go_at_call 44; (with_reducible refine HVal.out.mono ?_); rintro e w1 ⟨rfl, hb1⟩; have HK2 := Lib.hid (HK1.out.below hb1); clear hb1))
    clear HVal HNd HNone HK1 hV1 x1
    have hz0 := HK2.out.size
    go_loopw [11, 12, 47] (fun o1 o2 iv wr => ∃ j : Nat, j ≤ m ∧ iv = .int .i64 j ∧ Hid (Own wr w.heap.size 3 o1 (zs (((shE l).take j).map Prod.fst))) ∧ Hid (Own wr w.heap.size 5 o2 (bv (bs (ylds S.xs S.v ((shE l).take j))))) ∧ Hid (Kp S w wr)) (fun _ _ iv _ => m - (intOf iv).toNat)
    case atStart => exact ⟨0, by omega, rfl, Lib.hid (by simpa [zs] using Own.nil _ _ _), Lib.hid (by simpa [ylds, bs, bv] using Own.nil _ _ _), HK2⟩
    case round =>
     clear HK2
     obtain ⟨j, hj, rfl, HO1, HO2, HK⟩ := hrel
     by_cases hjm : j < m
     ·have hzr := HK.out.size
      have hti : j < l.length := by rw [HM.out]; exact hjm
      obtain ⟨b, off, rfl, hc0, hc1⟩ := row2_at (HE.out.past H.out.fld.fld HK.out.past).row hti
      have hlst := HE.out.lst _ (List.getElem_mem hti)
      have hrng := (HA.out.2.2.2.1 ((l[j]).p, (l[j]).s) (List.mem_map.2 ⟨l[j], List.getElem_mem hti, rfl⟩))
      have hts : (shE l).take (j + 1) = (shE l).take j ++ [((l[j]).p, (l[j]).s)] := by
       unfold shE
       rw [← List.map_take, take_succ' l hti, List.map_append, List.map_take]; rfl
      obtain ⟨uA, h1⟩ : ∃ x, (l[j]).A = x := ⟨_, rfl⟩
      obtain ⟨us, h2⟩ : ∃ x, (l[j]).s = x := ⟨_, rfl⟩
      obtain ⟨uc, h3⟩ : ∃ x, (l[j]).c = x := ⟨_, rfl⟩
      obtain ⟨up, h5⟩ : ∃ x, (l[j]).p = x := ⟨_, rfl⟩
      rw [h1, h2, h3] at hlst
      rw [h1, h2, h3] at hc1
      rw [h5] at hc0
      rw [h2, h5] at hrng hts
      simp only at hrng
      obtain ⟨q, rfl⟩ : ∃ q : Nat, up = (q : Int) := ⟨up.toNat, by have := hrng.1; omega⟩
      have hun : us.length = 1 := hrng.2.2
      rw [hun] at hc1
      have hqn : q < S.n := by have := hrng.2.1; omega
      have hnum := HN.out
      obtain ⟨bu, ou, rfl⟩ := where_ hlst.1.by_ (by omega)
      obtain ⟨bX, oX, hX⟩ := where_ H.out.bx.by_ (by rw [H.out.len]; omega)
      obtain ⟨y, hy⟩ : ∃ y, coef us 0 = y := ⟨_, rfl⟩
      obtain ⟨px, hpx⟩ : ∃ px, coef S.xs (S.v + q) = px := ⟨_, rfl⟩
      obtain ⟨fa, hfa⟩ : ∃ fa, Poly.eval (trim (roots (S.xs.take S.v))) px = fa := ⟨_, rfl⟩
      have hfn : fa ≠ 0 := by rw [← hfa, ← hpx]; exact factor_ne H.out.par hqn
      have hfst : ((shE l).take (j + 1)).map Prod.fst = ((shE l).take j).map Prod.fst ++ [(q : Int)] := by rw [hts, List.map_append]; rfl
      have hyl : ylds S.xs S.v ((shE l).take (j + 1)) = ylds S.xs S.v ((shE l).take j) ++ [y / fa] := by
       rw [hts, ylds_append]
       congr 1
       show [coef us 0 / Poly.eval (trim (roots (S.xs.take S.v))) (coef S.xs (S.v + (q : Int).toNat))] = [y / fa]
       rw [Int.toNat_natCast, hy, hpx, hfa]
      obtain ⟨W1, hW1⟩ : ∃ W1, wr.alloc (.cells #[.int .i64 (q : Int), .slice (some ⟨bu, ou, none⟩) 1 uc] 54) = W1 := ⟨_, rfl⟩
      have hk1 : Kp S w W1 := by rw [← hW1]; exact HK.out.alloc _
      have hb1 : Block W1 wr.heap.size 54 #[.int .i64 (q : Int), .slice (some ⟨bu, ou, none⟩) 1 uc] := by rw [← hW1]; exact Block.new wr _ _
      have ho1 := HO1.out.alloc (.cells #[.int .i64 (q : Int), .slice (some ⟨bu, ou, none⟩) 1 uc] 54)
      have ho2 := HO2.out.alloc (.cells #[.int .i64 (q : Int), .slice (some ⟨bu, ou, none⟩) 1 uc] 54)
      rw [hW1] at ho1 ho2
      have HSc : Hid (∀ V, Kp S w V → Block V wr.heap.size 54 #[.int .i64 (q : Int), .slice (some ⟨bu, ou, none⟩) 1 uc] → V.cell? ⟨S.b, 0, none⟩ = some (.pointer (some ⟨S.g, 0, none⟩)) ∧ V.cell? ⟨S.b, 5, none⟩ = some (.int .i64 S.v) ∧ V.cell? ⟨S.b, 6, none⟩ = some (.slice (some ⟨bX, oX, none⟩) S.nx S.cX) ∧ V.cell? ⟨S.b, 10, none⟩ = some (.slice S.Z S.nz S.cZ) ∧ V.cell? ⟨bX, oX + (S.v + q), none⟩ = some (.int .u8 (px.n : Int)) ∧ V.cell? ⟨wr.heap.size, 0, none⟩ = some (.int .i64 (q : Int)) ∧ V.cell? ⟨wr.heap.size, 1, none⟩ = some (.slice (some ⟨bu, ou, none⟩) 1 uc) ∧ V.cell? ⟨bu, ou, none⟩ = some (.int .u8 (y.n : Int))) := Lib.hid fun V hV hB => by
       obtain ⟨x0, -, -, -, -, x5, -, -, -, -, x8, -⟩ := hV.ok.cells
       obtain ⟨x6, x7⟩ := hV.ok.pt hX (p := S.v + q) (by omega)
       have x9 := cellAt (hlst.1.past hV.past).by_ 0 (by omega)
       rw [hpx] at x7
       rw [hy] at x9
       exact ⟨x0, x5, x6, x8, x7, hB.cell 0, hB.cell 1, x9⟩
      have HAt : Hid (∀ V, Kp S w V → Calls Tryz.prog 50 #[.pointer (some ⟨S.g, 0, none⟩), .slice S.Z S.nz S.cZ, .int .u8 px.n] V fun e w' => e = .returned (.int .u8 fa.n) ∧ FldP w' (some ⟨S.g, 0, none⟩) ∧ Past V.heap.size S.g V w') := Lib.hid fun V hV => by
       have hzl : (trim (roots (S.xs.take S.v))).length = S.nz := by rw [tight_length, List.length_take, H.out.len, hV.ok.nz_]; congr 1; omega
       rw [← hfa]
       exact (PS.atP S.Z _ S.nz S.cZ V hzl hV.ok.bz.by_ hV.ok.cz (by have := hV.ok.nz_; omega) (some ⟨S.g, 0, none⟩) hV.fldp hV.ok.bz.far px).mono fun e w' ⟨h1, h2, h3⟩ => ⟨h1, h2, ⟨h3.os, h3.tape, h3.output, h3.size, h3.block⟩⟩
      have HDv : Hid (∀ V, Kp S w V → Calls Tryz.prog 60 #[.pointer (some ⟨S.g, 0, none⟩), .int .u8 y.n, .int .u8 fa.n] V fun e w' => e = .returned (.tuple #[.int .u8 (y / fa).n, .bool true]) ∧ FldP w' (some ⟨S.g, 0, none⟩) ∧ Past V.heap.size S.g V w') := Lib.hid fun V hV =>
       (div_f S.g y fa hfn V hV.fld).mono fun e w' ⟨h1, h2, h3⟩ => ⟨h1, FldP.of h2, h3⟩
      have hw1 : IntKind.i64.wrap ((S.v : Int) + (q : Int)) = (S.v : Int) + (q : Int) := IntWalk.i64_in _ (by omega)
      have hi1 : (S.v : Int) + (q : Int) < (S.nx : Int) := by omega
      have hi0 : (0 : Int) ≤ (S.v : Int) + (q : Int) := by omega
      have hi2 : ((S.v : Int) + (q : Int)).toNat = S.v + q := by omega
      have h01 : (0 : Int) < (1 : Int) := by omega
      have HFst := Lib.hid hfst
      have HYl := Lib.hid hyl
      have hjn : ((shE l).take j).length ≤ 1000 := by rw [List.length_take, shE_length, HM.out]; omega
      have HJn := Lib.hid hjn
      have HK := Lib.hid hk1.drew
      have HB := Lib.hid hb1.drew
      have HO1 := Lib.hid ho1.drew
      have HO2 := Lib.hid ho2.drew
      have HS := Lib.hid (HSc.out _ HK.out HB.out)
      have hgw := H.out.fld.fld.lt
      clear hk1 hb1 ho1 ho2 hlst hrng hts hfst hyl hy hpx hfa hfn hX hnum h1 h2 h3 h5 hti hjn
      go_wp2_with fail
      go_region_held (fun V => V.cell? ⟨S.b, 0, none⟩ = some (.pointer (some ⟨S.g, 0, none⟩)) ∧ V.cell? ⟨S.b, 5, none⟩ = some (.int .i64 S.v) ∧ V.cell? ⟨S.b, 6, none⟩ = some (.slice (some ⟨bX, oX, none⟩) S.nx S.cX) ∧ V.cell? ⟨S.b, 10, none⟩ = some (.slice S.Z S.nz S.cZ) ∧ V.cell? ⟨bX, oX + (S.v + q), none⟩ = some (.int .u8 (px.n : Int)) ∧ V.cell? ⟨wr.heap.size, 0, none⟩ = some (.int .i64 (q : Int)) ∧ V.cell? ⟨wr.heap.size, 1, none⟩ = some (.slice (some ⟨bu, ou, none⟩) 1 uc) ∧ V.cell? ⟨bu, ou, none⟩ = some (.int .u8 (y.n : Int))) (exact HS.out)
       ((go_at_call 50; (with_reducible refine (HAt.out _ HK.out).mono ?_); rintro e9 w9 ⟨rfl, hf9, hp9⟩; replace HO1 := Lib.hid (Mat.own_keep HO1.out (by decide) HK.out.fld hp9); replace HO2 := Lib.hid (own_keep HO2.out HK.out.fldp hp9); replace HB := Lib.hid (HB.out.past hp9 HB.out.lt (by omega)); replace HK := Lib.hid (HK.out.go hf9 hp9); replace HS := Lib.hid (HSc.out _ HK.out HB.out); clear hf9 hp9))
      replace HO1 := Lib.hid HO1.out.drew
      replace HO2 := Lib.hid HO2.out.drew
      replace HB := Lib.hid HB.out.drew
      replace HK := Lib.hid HK.out.drew
      replace HS := Lib.hid (HSc.out _ HK.out HB.out)
      go_wp2_with fail
      go_region_held (fun V => V.cell? ⟨S.b, 0, none⟩ = some (.pointer (some ⟨S.g, 0, none⟩)) ∧ V.cell? ⟨S.b, 5, none⟩ = some (.int .i64 S.v) ∧ V.cell? ⟨S.b, 6, none⟩ = some (.slice (some ⟨bX, oX, none⟩) S.nx S.cX) ∧ V.cell? ⟨S.b, 10, none⟩ = some (.slice S.Z S.nz S.cZ) ∧ V.cell? ⟨bX, oX + (S.v + q), none⟩ = some (.int .u8 (px.n : Int)) ∧ V.cell? ⟨wr.heap.size, 0, none⟩ = some (.int .i64 (q : Int)) ∧ V.cell? ⟨wr.heap.size, 1, none⟩ = some (.slice (some ⟨bu, ou, none⟩) 1 uc) ∧ V.cell? ⟨bu, ou, none⟩ = some (.int .u8 (y.n : Int))) (exact HS.out)
       ((go_at_call 60; (with_reducible refine (HDv.out _ HK.out).mono ?_); rintro e9 w9 ⟨rfl, hf9, hp9⟩; replace HO1 := Lib.hid (Mat.own_keep HO1.out (by decide) HK.out.fld hp9); replace HO2 := Lib.hid (own_keep HO2.out HK.out.fldp hp9); replace HB := Lib.hid (HB.out.past hp9 HB.out.lt (by omega)); replace HK := Lib.hid (HK.out.go hf9 hp9); replace HS := Lib.hid (HSc.out _ HK.out HB.out); clear hf9 hp9))
      have hv0 := HB.out.cell 0
      have HN1 : Hid ((zs (((shE l).take j).map Prod.fst)).length ≤ 1000) := Lib.hid (by rw [zs_length, List.length_map]; exact HJn.out)
      have HN2 : Hid ((bv (bs (ylds S.xs S.v ((shE l).take j)))).length ≤ 1000) := Lib.hid (by rw [bvs_length, ylds_length]; exact HJn.out)
      have HZs : Hid (zs (((shE l).take j).map Prod.fst) ++ zs [(q : Int)] = zs (((shE l).take (j + 1)).map Prod.fst)) := Lib.hid (by rw [← zs_append, HFst.out])
      have HYs : Hid (bv (bs (ylds S.xs S.v ((shE l).take j))) ++ bv [(y / fa).n] = bv (bs (ylds S.xs S.v ((shE l).take (j + 1))))) := Lib.hid (by rw [HYl.out, bvs_snoc])
      have hzw := HK.out.size
      go_wp2_with (first
       | (at_builtin; (with_reducible refine wpList_app _ rfl _ _ _ rfl w.heap.size 3 _ 8 Tryz.underlying44 info_i rfl (by omega) _ _ rfl (HO1.out.alloc _) (some ⟨w9.heap.size, 0, none⟩) 1 1 (zs [(q : Int)]) rfl rfl (Row.new _ _ _ _) (zs_one _) (by have := HN1.out; omega) (by simp; omega) ?_); rintro v5 w5 hown5 hg5 -; have HO15 := Lib.hid (HZs.out ▸ hown5); have HO25 := Lib.hid ((HO2.out.alloc (.cells #[.int .i64 (q : Int)] 3)).grown hg5 (own_apart (HO2.out.alloc _) (show OwnK 1 _ w.heap.size 3 _ _ _ from HO1.out.alloc (.cells #[.int .i64 (q : Int)] 3)) (by decide))); have HK5 := Lib.hid (Kp.later H.out (HK.out.alloc (.cells #[.int .i64 (q : Int)] 3)) ((HO1.out.alloc _).grew (by simp; omega) hg5)); have hz5 := HK5.out.size; clear hown5 hg5)
       | (at_builtin; (with_reducible refine wpList_app _ rfl _ _ _ rfl w.heap.size 5 _ 1 Tryz.underlying34 info_u8 rfl (by omega) _ _ rfl (HO25.out.alloc _) (some ⟨w5.heap.size, 0, none⟩) 1 1 (bv [(y / fa).n]) rfl rfl (Row.new _ _ _ _) (bv_one _) (by have := HN2.out; omega) (by simp; omega) ?_); rintro v6 w6 hown6 hg6 -))
      have HO26 := Lib.hid (HYs.out ▸ hown6)
      have HO16 := Lib.hid ((HO15.out.alloc (.cells #[.int .u8 ((y / fa).n : Int)] 5)).grown hg6 (own_apart (HO15.out.alloc _) (show OwnK 1 _ w.heap.size 5 _ _ _ from HO25.out.alloc (.cells #[.int .u8 ((y / fa).n : Int)] 5)) (by decide)))
      have HK6 := Lib.hid (Kp.later H.out (HK5.out.alloc (.cells #[.int .u8 ((y / fa).n : Int)] 5)) ((HO25.out.alloc _).grew (by simp; omega) hg6))
      clear hown6 hg6 HO15 HO25 HK5 HO1 HO2 HB HK HS
      go_wp2
      go_roundw
      case rel => exact ⟨j + 1, by omega, by go_num, HO16, HO26, HK6⟩
      case measure => simp [intOf]; omega
     ·obtain rfl : j = m := by omega
      have hfull : (shE l).take j = shE l := List.take_of_length_le (by rw [shE_length, HM.out]; exact Nat.le_refl _)
      have h1 := HO1.out
      have h2 := HO2.out
      rw [hfull] at h1 h2
      have hl1 : ((shE l).map Prod.fst).length = j := by rw [List.length_map, shE_length, HM.out]
      have hl2 : (ylds S.xs S.v (shE l)).length = j := by rw [ylds_length, shE_length, HM.out]
      obtain ⟨A1, c1, rfl, -, -⟩ := h1.form
      obtain ⟨A2, c2, rfl, hc2⟩ := Own.shape h2
      rw [zs_length, hl1] at h1 ⊢
      rw [hl2] at h2 hc2 ⊢
      obtain ⟨-, -, -, -, -, -, -, -, -, -, -, -, x12⟩ := HK.out.ok.cells
      have hDe := Z.decodeP HK.out.ok.cdh A1 ((shE l).map Prod.fst) j c1 hl1 (Mat.Own.row' h1) hm A2 (ylds S.xs S.v (shE l)) j c2 hl2 (Own.bytes h2) hc2 hm (far_own HK.out.fld h2) t ht1 ht2
      have HDe := Lib.hid hDe
      clear h1 h2 hl1 hl2 hc2 hfull hDe HO1 HO2
      go_wp2_with fail
      refine HDe.out.mono ?_
      rintro e w5 ⟨msg, wl, z, hW, A3, c3, B3, d3, rfl, hc3, hd3, hO3m, hO3w, hf3, hp3⟩
      obtain ⟨hz, hnz⟩ := ris_of H.out.par HA.out hW
      have hk5 := HK.out.go hf3 hp3
      by_cases hz0 : z = 0
      ·obtain ⟨hmd, hR⟩ := hz hz0
       subst hz0
       obtain ⟨tn, rfl⟩ : ∃ tn : Nat, to = (tn : Int) := ⟨to.toNat, by omega⟩
       rw [Int.toNat_natCast] at hR
       have htn : tn < S.n := by omega
       have hnum := HN.out
       obtain ⟨pr, hpr⟩ : ∃ pr, trim (pmul (trim (roots (S.xs.take S.v))) msg) = pr := ⟨_, rfl⟩
       have hprl : pr.length ≤ 2 * S.a := by rw [← hpr]; exact prod_len H.out.par hmd
       rw [hpr] at hR
       have hbm : BF S.g w5 A3 msg := BF.own hf3 hO3m
       have hzl : (trim (roots (S.xs.take S.v))).length = S.nz := by rw [tight_length, List.length_take, H.out.len, H.out.nz_]; congr 1; omega
       have HMu : Hid (∀ V, Kp S w V → BF S.g V A3 msg → Calls Tryz.prog 62 #[.pointer (some ⟨S.g, 0, none⟩), .slice S.Z S.nz S.cZ, .slice A3 msg.length c3] V fun e w' => ∃ A c pn, pr.length = pn ∧ e = .returned (.slice A pn c) ∧ BF S.g w' A pr ∧ FldP w' (some ⟨S.g, 0, none⟩) ∧ Past V.heap.size S.g V w') := Lib.hid fun V hV hB => by
        refine (PS.mulP S.Z A3 _ msg S.nz msg.length S.cZ c3 V hzl rfl hV.ok.bz.by_ hB.by_ hV.ok.cz hc3 (by have := hV.ok.nz_; omega) (by omega) (some ⟨S.g, 0, none⟩) hV.fldp hV.ok.bz.far hB.far).mono ?_
        rintro e w' ⟨A9, c9, rfl, hc9, hO9, hf9, hp9⟩
        rw [hpr] at hO9 ⊢
        exact ⟨A9, c9, _, rfl, rfl, BF.own hf9 hO9, hf9, ⟨hp9.os, hp9.tape, hp9.output, hp9.size, hp9.block⟩⟩
       have HRp : Hid (∀ V A c pn, Kp S w V → pr.length = pn → BF S.g V A pr → Calls Tryz.prog 61 #[.pointer (some ⟨S.b, 0, none⟩), .int .i64 (tn : Nat), .slice A pn c] V (RepPost S V (mend S.a (xpow (coef S.xs (S.v + tn)) S.a) (full pr (2 * S.a))))) := Lib.hid fun V A c pn hV hpn hB =>
        repaired_calls hV.ok tn htn A pr pn c hpn (by omega) hB
       have HC : Hid (∀ V, Kp S w V → V.cell? ⟨S.b, 0, none⟩ = some (.pointer (some ⟨S.g, 0, none⟩)) ∧ V.cell? ⟨S.b, 10, none⟩ = some (.slice S.Z S.nz S.cZ)) := Lib.hid fun V hV => by
        obtain ⟨x0, -, -, -, -, -, -, -, -, -, x10, -⟩ := hV.ok.cells
        exact ⟨x0, x10⟩
       have hsz := HK.out.size
       have HBm := Lib.hid hbm.by_
       have HBM : Hid (BF S.g w5.drew A3 msg) := Lib.hid ⟨hbm.by_.drew, hbm.far⟩
       have HR := Lib.hid hR
       have HD3 := Lib.hid hd3
       have HW3 := Lib.hid ((hO3w.drew).more hsz)
       replace HK := Lib.hid hk5.drew
       have HS := Lib.hid (HC.out _ HK.out)
       clear hW hz hnz hk5 hc3 hd3 hO3m hO3w hf3 hp3 HDe hbm hR hprl hzl hmd hnum hpr htn
       go_wp2_with fail
       go_region_held (fun V => V.cell? ⟨S.b, 0, none⟩ = some (.pointer (some ⟨S.g, 0, none⟩)) ∧ V.cell? ⟨S.b, 10, none⟩ = some (.slice S.Z S.nz S.cZ)) (exact HS.out)
        ((first
         | (go_at_call 62; (with_reducible refine (HMu.out _ HK.out HBM.out).mono ?_); rintro e6 w6 ⟨A6, c6, pn, hpn, rfl, hB6, hf6, hp6⟩; replace HW3 := Lib.hid (Mat.own_keep HW3.out (by decide) HK.out.fld hp6); replace HK := Lib.hid (HK.out.go hf6 hp6); replace HS := Lib.hid (HC.out _ HK.out); have HB6 := Lib.hid hB6; have HPn := Lib.hid hpn; clear hB6 hpn hf6 hp6)
         | (go_at_call 61; (with_reducible refine (HRp.out _ A6 c6 pn HK.out HPn.out HB6.out).mono ?_); rintro e7 w7 ⟨A7, c7, rfl, hc7, hO7, hf7, hp7⟩; have HC7 := Lib.hid hc7; have HO7 := Lib.hid (hO7.more HK.out.size); replace HW3 := Lib.hid (Mat.own_keep HW3.out (by decide) HK.out.fld hp7); replace HK := Lib.hid (HK.out.go hf7 hp7); replace HS := Lib.hid (HC.out _ HK.out); clear hc7 hO7 hf7 hp7)))
       have HX : Hid (RPost S w tn (shE l) t (.returned (.tuple #[.slice A7 S.a c7, .slice B3 wl.length d3, .int .i64 0])) w7) := Lib.hid ⟨_, wl, 0, HR.out, A7, c7, B3, d3, by rw [mend_length], by rw [mend_length]; exact HC7.out, HD3.out, by rw [mend_length]; exact HO7.out, HW3.out, HK.out.fldp, HK.out.past⟩
       clear HC7 HO7 HW3 HK HS HR HMu HRp HC
       go_wp2
       go_ret3
       exact HX.out
      ·have HX := Lib.hid (RPost.err hk5 (hnz hz0) : RPost S w to (shE l) t _ w5)
       have hzb : (z == (0 : Int)) = false := by simpa using hz0
       have hzn : (z != (0 : Int)) = true := by simpa using hz0
       clear hW hz hnz hk5 hc3 hd3 hO3m hO3w hf3 hp3 hz0 HDe
       go_wp2
       go_ret3
       exact HX.out
   ·rw [decide_eq_false hv] at hval
    have HVal := Lib.hid hval
    have HNo : Hid (¬ ArgR S.n to (shE l) t) := Lib.hid (fun hA => hv (argr_iff.1 hA).2.1)
    have HBad := Lib.hid (fun w' (hk : Kp S w w') => hbad hk HNo.out)
    clear h hE hl hn hbad hnd hval hv hk1 hrow
    go_enter Tryz.func33, Tryz.ntmps33
    go_wp2_with (first | (go_at_call 56; refine HNone.out.mono ?_; rintro e w1 ⟨rfl, rfl⟩) | (go_at_call 49; refine HNd.out.mono ?_; rintro e w1 ⟨rfl, rfl⟩) | (go_at_call 44; (with_reducible refine HVal.out.mono ?_); rintro e w1 ⟨rfl, hb1⟩; have HX := Lib.hid (HBad.out w1 (HK1.out.below hb1)); clear hb1))
    go_ret3
    exact HX.out
 ·rw [decide_eq_false hto] at hnd
  have HNd := Lib.hid hnd
  have HX := Lib.hid (hbad (Kp.start h) (fun hA => hto hA.1))
  clear h hE hl hn hbad hnd hto
  go_enter Tryz.func33, Tryz.ntmps33
  go_wp2_with (first | (go_at_call 56; refine HNone.out.mono ?_; rintro e w1 ⟨rfl, rfl⟩) | (go_at_call 49; refine HNd.out.mono ?_; rintro e w1 ⟨rfl, rfl⟩))
  go_ret3
  exact HX.out
end Go.Proofs.YtjoghbmedfmioaaGreat.Ms

namespace Go.Proofs.YtjoghbmedfmioaaGreat.Ms
open Go.RowKit Go.Shelf F8 Poly GF Rd
attribute [local go_sem] Oper.semAt_some
def Good (n k d : Int) : Prop := (2 ≤ k ∧ 2 * k ≤ d + 2 ∧ d < n ∧ d - k + 1 ≤ 16) ∧ n + (d - 2 * k + 2) ≤ Pt.lim (d - k + 1).toNat
def NewIs (w : World) (g : Nat) (n k d : Int) (e : Ending) (w' : World) : Prop :=
 (Good n k d ∧ ∃ S : Co, S.Ok w' ∧ S.g = g ∧ (S.n : Int) = n ∧ (S.k : Int) = k ∧ (S.d : Int) = d ∧ w.heap.size ≤ S.b ∧ e = .returned (.tuple #[.pointer (some ⟨S.b, 0, none⟩), .int .i64 0]) ∧ Past w.heap.size g w w') ∨
 (¬ Good n k d ∧ e = .returned (.tuple #[.pointer none, .int .i64 2]) ∧ FldP w' (some ⟨g, 0, none⟩) ∧ Past w.heap.size g w w')
theorem good255 {n k d : Int} (h : Good n k d) : n ≤ 255 := by
 have := Pt.lim_le (d - k + 1).toNat
 have := h.2; have := h.1
 omega
set_option maxRecDepth 100000 in
set_option maxHeartbeats 16000000 in
theorem new_bad (g : Nat) (n k d : Int) (w : World) (hf : FldP w (some ⟨g, 0, none⟩)) (hn1 : -9223372036854775808 ≤ n) (hn2 : n < 9223372036854775808) (hk1 : -9223372036854775808 ≤ k) (hk2 : k < 9223372036854775808) (hd1 : -9223372036854775808 ≤ d) (hd2 : d < 9223372036854775808)
  (hb : ¬ (2 ≤ k ∧ 2 * k ≤ d + 2 ∧ d < n ∧ d - k + 1 ≤ 16 ∧ n ≤ 255)) :
  Calls Tryz.prog 29 #[.pointer (some ⟨g, 0, none⟩), .int .i64 n, .int .i64 k, .int .i64 d] w (NewIs w g n k d) := by
 have HX : Hid (NewIs w g n k d (.returned (.tuple #[.pointer none, .int .i64 2])) w) := Lib.hid (.inr ⟨fun h => hb ⟨h.1.1, h.1.2.1, h.1.2.2.1, h.1.2.2.2, good255 h⟩, rfl, hf, Past.refl _ _ _⟩)
 clear hf
 by_cases c1 : n > 255
 ·clear hb
  go_enter Tryz.func29, Tryz.ntmps29
  go_wp2
  go_ret2
  exact HX.out
 by_cases c2 : n ≤ d
 ·clear hb
  go_enter Tryz.func29, Tryz.ntmps29
  go_wp2
  go_ret2
  exact HX.out
 by_cases c3 : k < 2
 ·clear hb
  go_enter Tryz.func29, Tryz.ntmps29
  go_wp2
  go_ret2
  exact HX.out
 by_cases c4 : 2 * k ≤ d + 2
 ·have h5 : 16 < d - k + 1 := by omega
  have c6 : ¬ (d / 2 + 1 < k) := by omega
  clear hb
  go_enter Tryz.func29, Tryz.ntmps29
  go_wp2
  go_ret2
  exact HX.out
 ·have h4 : wrap64 (d.tdiv 2 + 1) < k := by
   have e := Int.tdiv_eq_ediv (a := d) (b := 2)
   have e2 : d.tdiv 2 ≤ d / 2 + 1 ∧ (0 ≤ d → d.tdiv 2 = d / 2) ∧ d / 2 ≤ d.tdiv 2 := by
    rw [e]
    refine ⟨?_, fun h => by rw [if_pos (.inl h)]; omega, ?_⟩
    ·split
     ·omega
     ·simp [Int.sign]
    ·split
     ·omega
     ·simp [Int.sign]; omega
   have e3 : wrap64 (d.tdiv 2 + 1) = d.tdiv 2 + 1 := by unfold wrap64; omega
   rw [e3]
   by_cases h0 : 0 ≤ d
   ·have := e2.2.1 h0; omega
   ·have := e2.1; omega
  clear hb
  go_enter Tryz.func29, Tryz.ntmps29
  go_wp2
  go_ret2
  exact HX.out
theorem bs_pts (n : Nat) : bs (Rd.pts n) = Pt.pts n := by simp [bs, Rd.pts, Pt.pts]
structure NS (g : Nat) (w V : World) : Prop where
 fld : FldP V (some ⟨g, 0, none⟩)
 past : Past w.heap.size g w V
section
variable {g : Nat} {w V V' : World}
theorem NS.go (h : NS g w V) (hf : FldP V' (some ⟨g, 0, none⟩)) (hp : Past V.heap.size g V V') : NS g w V' := ⟨hf, h.past.trans (hp.mono h.past.size)⟩
theorem NS.later (h : NS g w V) (hg : g < w.heap.size) (hb : Below w.heap.size V V') : NS g w V' :=
 ⟨FldP.of (h.fld.fld.imp (fun x => x.below hb hg) (fun x => x.below hb hg)), h.past.trans (Past.of_below hb _)⟩
end
theorem own_setb {V : World} {B j : Nat} {e : TypeId} {v : Value} {xs : List Value} (h : Own V (B + 1) e v xs) (u : Value) : Own (V.setCell ⟨B, j, none⟩ u) (B + 1) e v xs :=
 Own.far h (p := ⟨B, j, none⟩) (fun e => by have := (h.lt _ e).1; simp at this; omega) u
theorem bytes_setb {V : World} {B j : Nat} {A : Option Addr} {l : List Nat} (h : Bytes V A l) (hne : ∀ a, A = some a → a.block ≠ B) (u : Value) : Bytes (V.setCell ⟨B, j, none⟩ u) A l := by
 refine ⟨fun k x hx => ?_, h.lt⟩
 obtain ⟨b, off, e, hc⟩ := h.row k x hx
 refine ⟨b, off, e, ?_⟩
 rw [World.cell?_of_block (w := V) (a := ⟨b, off + k, none⟩) (Below.heap_setCell V ⟨B, j, none⟩ u b (hne _ e))]
 exact hc
theorem cd_setb {V : World} {B j b g : Nat} {A : Option Addr} {xs : List F8} {n c k : Nat} (h : Cd V b g A xs n c k) (hb : b ≠ B) (hne : ∀ a, A = some a → a.block ≠ B) (u : Value) (hf : FldP (V.setCell ⟨B, j, none⟩ u) (some ⟨g, 0, none⟩)) : Cd (V.setCell ⟨B, j, none⟩ u) b g A xs n c k :=
 { h with blk := h.blk.far (p := ⟨B, j, none⟩) hb u, by_ := bytes_setb h.by_ hne u, fld := hf }
set_option maxRecDepth 100000 in
set_option maxHeartbeats 16000000 in
theorem new_good (PS : Poly.Spec) (g : Nat) (n k d : Int) (w : World) (hf : FldP w (some ⟨g, 0, none⟩)) (h1 : 2 ≤ k) (h2 : 2 * k ≤ d + 2) (h3 : d < n) (h4 : d - k + 1 ≤ 16) (h5 : n ≤ 255) :
  Calls Tryz.prog 29 #[.pointer (some ⟨g, 0, none⟩), .int .i64 n, .int .i64 k, .int .i64 d] w (NewIs w g n k d) := by
 have hmx : Tryz.prog.follows .mixedOrders = true := by kernel_rfl
 have b1 : ¬ (255 < n) := by omega
 have b2 : ¬ (n ≤ d) := by omega
 have b3 : ¬ (k < 2) := by omega
 have b4 : ¬ (d / 2 + 1 < k) := by omega
 have b5 : ¬ (16 < d - k + 1) := by omega
 have hgw := hf.fld.lt
 have HF := Lib.hid hf
 clear hf
 go_enter Tryz.func29, Tryz.ntmps29
 go_wp2_with fail
 obtain ⟨a, ha⟩ : ∃ a : Nat, d - k + 1 = (a : Int) := ⟨(d - k + 1).toNat, by omega⟩
 obtain ⟨v, hv⟩ : ∃ v : Nat, d - 2 * k + 2 = (v : Int) := ⟨(d - 2 * k + 2).toNat, by omega⟩
 rw [ha, hv]
 obtain ⟨w1, hw1⟩ : ∃ w1, w.alloc (.cells #[.pointer (some ⟨g, 0, none⟩), .int .i64 n, .int .i64 k, .int .i64 d, .int .i64 (a : Int), .int .i64 (v : Int), .slice none 0 0, .int .i64 0, .int .i64 0, .slice none 0 0, .slice none 0 0, .pointer none, .pointer none] 106) = w1 := ⟨_, rfl⟩
 rw [hw1]
 have hk1 : NS g w w1 := by rw [← hw1]; exact ⟨HF.out.below ((Below.refl _ _).alloc (Nat.le_refl _) _), Past.of_below ((Below.refl _ _).alloc (Nat.le_refl _) _) _⟩
 have hb1 : Block w1 w.heap.size 106 #[.pointer (some ⟨g, 0, none⟩), .int .i64 n, .int .i64 k, .int .i64 d, .int .i64 (a : Int), .int .i64 (v : Int), .slice none 0 0, .int .i64 0, .int .i64 0, .slice none 0 0, .slice none 0 0, .pointer none, .pointer none] := by rw [← hw1]; exact Block.new _ _ _
 have HK1 := Lib.hid hk1
 have HB1 := Lib.hid hb1
 have HS : Hid (w1.drew.cell? ⟨w.heap.size, 4, none⟩ = some (.int .i64 (a : Int)) ∧ w1.drew.cell? ⟨w.heap.size, 5, none⟩ = some (.int .i64 (v : Int))) := Lib.hid ⟨hb1.drew.cell 4, hb1.drew.cell 5⟩
 have hwn : IntKind.i64.wrap (n + (v : Int)) = n + (v : Int) := IntWalk.i64_in _ (by omega)
 have HSp := Lib.hid (Pt.spread_calls (some ⟨g, 0, none⟩) (n + (v : Int)) (a : Int) w1.drew hk1.fld)
 obtain ⟨nx, hnx⟩ : ∃ nx : Nat, n + (v : Int) = (nx : Int) := ⟨(n + (v : Int)).toNat, by omega⟩
 have HNx := Lib.hid hnx
 have HA := Lib.hid ha
 have HV := Lib.hid hv
 have ha16 : a ≤ 16 := by omega
 have hv15 : v ≤ 30 := by omega
 clear hk1 hb1 hw1 hnx ha hv b1 b2 b3 b4 b5
 go_region_held (fun V => V.cell? ⟨w.heap.size, 4, none⟩ = some (.int .i64 (a : Int)) ∧ V.cell? ⟨w.heap.size, 5, none⟩ = some (.int .i64 (v : Int))) (exact HS.out)
  ((go_at_call 53; (with_reducible refine HSp.out.mono ?_); rintro e2 w2 ⟨v2, rfl, hO2, hf2, hp2⟩; have hp2' : Past w1.heap.size g w1 w2 := ⟨hp2.os, hp2.tape, hp2.output, hp2.size, hp2.block⟩; have HK2 := Lib.hid (HK1.out.go hf2 hp2'); have HB2 := Lib.hid (HB1.out.past hp2' HB1.out.lt (by omega)); replace HS : Hid (w2.cell? ⟨w.heap.size, 4, none⟩ = some (.int .i64 (a : Int)) ∧ w2.cell? ⟨w.heap.size, 5, none⟩ = some (.int .i64 (v : Int))) := Lib.hid ⟨HB2.out.cell 4, HB2.out.cell 5⟩; have HO2 := Lib.hid hO2; have hz2 := hp2'.size; clear hO2 hf2 hp2 hp2'))
 clear HS HSp hwn
 obtain ⟨sp, hsp⟩ : ∃ sp, Pt.spreadR (n + (v : Int)) (a : Int) = sp := ⟨_, rfl⟩
 rw [hsp] at HO2 ⊢
 by_cases hgood : n + (v : Int) ≤ (Pt.lim a : Int)
 ·have e : sp = (Pt.pts nx, 0) := by
   rw [← hsp, HNx.out]
   have := HA.out; have := HNx.out
   rw [HNx.out] at hgood
   unfold Pt.spreadR
   rw [if_pos ⟨by omega, by omega, by omega, by rw [Int.toNat_natCast]; exact hgood⟩, Int.toNat_natCast]
  subst e
  rw [← bs_pts] at HO2
  obtain ⟨xs, hxs⟩ : ∃ xs, Rd.pts nx = xs := ⟨_, rfl⟩
  have hxl : xs.length = nx := by rw [← hxs, Rd.pts_length]
  rw [hxs] at HO2
  have ho2 := HO2.out
  obtain ⟨X0, cX, rfl, -, -, hcX⟩ := ho2.form1 (by rw [bvs_length, hxl]; have := HNx.out; omega)
  rw [bvs_length, hxl] at ho2 hcX ⊢
  obtain ⟨X, hX⟩ : ∃ X : Option Addr, some ⟨X0, 0, none⟩ = X := ⟨_, rfl⟩
  rw [hX] at ho2 ⊢
  have ho2 := ho2.more (show w.heap.size + 1 ≤ w1.heap.size from HB1.out.lt)
  have hb2 := HB2.out
  have hnx255 : nx ≤ 255 := by have h9 := HNx.out; have := Pt.lim_le a; omega
  obtain ⟨w3, hw3⟩ : ∃ w3, w2.setCell ⟨w.heap.size, 6, none⟩ (.slice X nx cX) = w3 := ⟨_, rfl⟩
  have hb3 : Block w3 w.heap.size 106 #[.pointer (some ⟨g, 0, none⟩), .int .i64 n, .int .i64 k, .int .i64 d, .int .i64 (a : Int), .int .i64 (v : Int), .slice X nx cX, .int .i64 0, .int .i64 0, .slice none 0 0, .slice none 0 0, .pointer none, .pointer none] := by rw [← hw3]; exact hb2.set_ 6 _
  have ho3 : Own w3 (w.heap.size + 1) 5 (.slice X nx cX) (bv (bs xs)) := by rw [← hw3]; exact own_setb ho2 _
  have hk3 : NS g w w3 := by rw [← hw3]; exact HK2.out.later hgw ((Below.refl _ _).setCell (p := ⟨w.heap.size, 6, none⟩) (Nat.le_refl _) _)
  have x6 := hb2.cell 6
  have f6 := hb2.frozen 6
  have x4 := hb3.cell 4
  obtain ⟨aa, haa⟩ : ∃ aa : Nat, 2 * a = aa := ⟨_, rfl⟩
  have haa' : (2 : Int) * (a : Int) = (aa : Int) := by omega
  have hfar3 : Far (some ⟨g, 0, none⟩) X xs := far_own hk3.fld.fld ho3
  have HPw := Lib.hid (Mat.powers_calls (some ⟨g, 0, none⟩) X xs nx aa cX hxl (by omega) (by omega) (by have : nx * aa ≤ 255 * 32 := Nat.mul_le_mul hnx255 (by omega); omega) w3 (Own.bytes ho3) hfar3 hk3.fld)
  have HXs := Lib.hid hxs
  have HXl := Lib.hid hxl
  have HAa := Lib.hid haa
  have HO3 := Lib.hid ho3
  have HB3 := Lib.hid hb3
  have HK3 := Lib.hid hk3
  clear ho2 hb2 hb3 ho3 hk3 hxs hxl haa hsp hfar3 HO2 HB2 HK2 HB1 HK1
  go_wp2_with fail
  refine HPw.out.mono ?_
  rintro e w4 ⟨W, cW, rfl, hcW, hO4, hf4, hp4⟩
  obtain ⟨nw, hnw⟩ : ∃ nw, (Mat.flat nx aa (Mat.powF xs)).length = nw := ⟨_, rfl⟩
  rw [hnw] at hcW hO4 ⊢
  have hp4 : Past w3.heap.size g w3 w4 := ⟨hp4.os, hp4.tape, hp4.output, hp4.size, hp4.block⟩
  have hk4 := HK3.out.go hf4 hp4
  have hb4 := HB3.out.past hp4 HB3.out.lt (by omega)
  have ho4 := own_keep HO3.out HK3.out.fld hp4
  have hz4 := hp4.size
  have hz3 := HB3.out.lt
  have how4 := hO4.more (show w.heap.size + 1 ≤ w3.heap.size from hz3)
  obtain ⟨w5, hw5⟩ : ∃ w5, ((w4.setCell ⟨w.heap.size, 7, none⟩ (.int .i64 (nx : Int))).setCell ⟨w.heap.size, 8, none⟩ (.int .i64 (aa : Int))).setCell ⟨w.heap.size, 9, none⟩ (.slice W nw cW) = w5 := ⟨_, rfl⟩
  have hb5 : Block w5 w.heap.size 106 #[.pointer (some ⟨g, 0, none⟩), .int .i64 n, .int .i64 k, .int .i64 d, .int .i64 (a : Int), .int .i64 (v : Int), .slice X nx cX, .int .i64 (nx : Int), .int .i64 (aa : Int), .slice W nw cW, .slice none 0 0, .pointer none, .pointer none] := by rw [← hw5]; exact ((hb4.set_ 7 _).set_ 8 _).set_ 9 _
  have ho5 : Own w5 (w.heap.size + 1) 5 (.slice X nx cX) (bv (bs xs)) := by rw [← hw5]; exact own_setb (own_setb (own_setb ho4 _) _) _
  have how5 : Own w5 (w.heap.size + 1) 5 (.slice W nw cW) (bv (bs (Mat.flat nx aa (Mat.powF xs)))) := by rw [← hw5]; exact own_setb (own_setb (own_setb how4 _) _) _
  have hk5 : NS g w w5 := by rw [← hw5]; exact hk4.later hgw ((((Below.refl _ _).setCell (p := ⟨w.heap.size, 7, none⟩) (Nat.le_refl _) _).setCell (p := ⟨w.heap.size, 8, none⟩) (Nat.le_refl _) _).setCell (p := ⟨w.heap.size, 9, none⟩) (Nat.le_refl _) _)
  have y7 := hb4.cell 7
  have y8 := hb4.cell 8
  have y9 := hb4.cell 9
  have g7 := hb4.frozen 7
  have g8 := hb4.frozen 8
  have g9 := hb4.frozen 9
  have x5 := hb5.cell 5
  have hvn : v < nx := by have := HNx.out; omega
  have hvc1 : (v : Int) ≤ (cX : Int) := by omega
  have hvc2 : (v : Int) ≤ (nx : Int) := by omega
  have hvc3 : (0 : Int) ≤ (v : Int) := by omega
  have HRt : Hid (∀ V, NS g w V → Own V (w.heap.size + 1) 5 (.slice X nx cX) (bv (bs xs)) → Calls Tryz.prog 54 #[.pointer (some ⟨g, 0, none⟩), .slice X v cX] V fun e w' => ∃ Z cZ nz, nz = v + 1 ∧ e = .returned (.slice Z nz cZ) ∧ nz ≤ cZ ∧ Own w' V.heap.size 5 (.slice Z nz cZ) (bv (bs (trim (roots (xs.take v))))) ∧ FldP w' (some ⟨g, 0, none⟩) ∧ Past V.heap.size g V w') := Lib.hid fun V hV hO => by
   have hl : (xs.take v).length = v := by rw [List.length_take, HXl.out]; omega
   have hfar := far_own hV.fld.fld hO
   refine (PS.rootsP X (xs.take v) v cX V hl (bytes_take (Own.bytes hO) v) (by omega) (by omega) (some ⟨g, 0, none⟩) hV.fld (fun hne => hfar (fun e => hne (by rw [e]; simp)))).mono ?_
   rintro e w' ⟨Z, cZ, rfl, hc, ho, hf9, hp9⟩
   have hzl : (trim (roots (xs.take v))).length = v + 1 := by rw [tight_length, hl]
   rw [hzl] at hc ho ⊢
   exact ⟨Z, cZ, v + 1, rfl, rfl, hc, ho, hf9, ⟨hp9.os, hp9.tape, hp9.output, hp9.size, hp9.block⟩⟩
  have HO5 := Lib.hid ho5
  have HB5 := Lib.hid hb5
  have HK5 := Lib.hid hk5
  have HOW5 := Lib.hid how5
  have HNw := Lib.hid hnw
  clear ho4 hb4 hk4 how4 hb5 ho5 how5 hk5 hO4 hf4 hp4 hnw HPw HO3 HB3 HK3 x6 f6 x4 hw3
  go_wp2_with fail
  refine (HRt.out _ HK5.out HO5.out).mono ?_
  rintro e w6 ⟨Z, cZ, nz, hnz, rfl, hcZ, hO6, hf6, hp6⟩
  have hk6 := HK5.out.go hf6 hp6
  have hb6 := HB5.out.past hp6 HB5.out.lt (by omega)
  have ho6 := own_keep HO5.out HK5.out.fld hp6
  have how6 := own_keep HOW5.out HK5.out.fld hp6
  have hoz6 := hO6.more (show w.heap.size + 1 ≤ w5.heap.size from HB5.out.lt)
  obtain ⟨w7, hw7⟩ : ∃ w7, w6.setCell ⟨w.heap.size, 10, none⟩ (.slice Z nz cZ) = w7 := ⟨_, rfl⟩
  have hb7 : Block w7 w.heap.size 106 #[.pointer (some ⟨g, 0, none⟩), .int .i64 n, .int .i64 k, .int .i64 d, .int .i64 (a : Int), .int .i64 (v : Int), .slice X nx cX, .int .i64 (nx : Int), .int .i64 (aa : Int), .slice W nw cW, .slice Z nz cZ, .pointer none, .pointer none] := by rw [← hw7]; exact hb6.set_ 10 _
  have ho7 : Own w7 (w.heap.size + 1) 5 (.slice X nx cX) (bv (bs xs)) := by rw [← hw7]; exact own_setb ho6 _
  have how7 : Own w7 (w.heap.size + 1) 5 (.slice W nw cW) (bv (bs (Mat.flat nx aa (Mat.powF xs)))) := by rw [← hw7]; exact own_setb how6 _
  have hoz7 : Own w7 (w.heap.size + 1) 5 (.slice Z nz cZ) (bv (bs (trim (roots (xs.take v))))) := by rw [← hw7]; exact own_setb hoz6 _
  have hk7 : NS g w w7 := by rw [← hw7]; exact hk6.later hgw ((Below.refl _ _).setCell (p := ⟨w.heap.size, 10, none⟩) (Nat.le_refl _) _)
  have y10 := hb6.cell 10
  have g10 := hb6.frozen 10
  have x4 := hb7.cell 4
  have hgd : Rd.newR xs (a : Int) = 0 := by
   have := HA.out; have := HNx.out
   unfold Rd.newR
   rw [if_pos ⟨by rw [← HXs.out]; exact Rd.pts_nodup hnx255, by omega, by rw [HXl.out]; omega⟩]
  have HNp := Lib.hid (Rd.new_calls g X xs nx cX (a : Int) w7 HXl.out (Own.bytes ho7) hcX (by omega) hk7.fld)
  have HO7 := Lib.hid ho7
  have HB7 := Lib.hid hb7
  have HK7 := Lib.hid hk7
  have HOW7 := Lib.hid how7
  have HOZ7 := Lib.hid hoz7
  have HNz := Lib.hid hnz
  clear hk6 hb6 ho6 how6 hoz6 hb7 ho7 how7 hoz7 hk7 hO6 hf6 hp6 hnz HRt HO5 HB5 HK5 HOW5 hw5 y7 y8 y9 g7 g8 g9 x5
  go_wp2_with fail
  refine HNp.out.mono ?_
  rintro e w8 hN8
  rcases hN8 with ⟨-, bp, Ap, cp, qp, hqp, rfl, hbp, hAp, hcd8, hbel8⟩ | ⟨hbad, -, -⟩
  rotate_left
  ·rw [hgd] at hbad; cases hbad
  obtain rfl : qp = a := by omega
  have hz7 := HB7.out.lt
  have hk8 := HK7.out.go (HK7.out.fld.below hbel8) (Past.of_below hbel8 g)
  have hb8 := HB7.out.below hbel8 HB7.out.lt
  obtain ⟨w9, hw9⟩ : ∃ w9, w8.setCell ⟨w.heap.size, 11, none⟩ (.pointer (some ⟨bp, 0, none⟩)) = w9 := ⟨_, rfl⟩
  have hb9 : Block w9 w.heap.size 106 #[.pointer (some ⟨g, 0, none⟩), .int .i64 n, .int .i64 k, .int .i64 d, .int .i64 (qp : Int), .int .i64 (v : Int), .slice X nx cX, .int .i64 (nx : Int), .int .i64 (aa : Int), .slice W nw cW, .slice Z nz cZ, .pointer (some ⟨bp, 0, none⟩), .pointer none] := by rw [← hw9]; exact hb8.set_ 11 _
  have ho9 : Own w9 (w.heap.size + 1) 5 (.slice X nx cX) (bv (bs xs)) := by rw [← hw9]; exact own_setb (HO7.out.below hbel8) _
  have how9 : Own w9 (w.heap.size + 1) 5 (.slice W nw cW) (bv (bs (Mat.flat nx aa (Mat.powF xs)))) := by rw [← hw9]; exact own_setb (HOW7.out.below hbel8) _
  have hoz9 : Own w9 (w.heap.size + 1) 5 (.slice Z nz cZ) (bv (bs (trim (roots (xs.take v))))) := by rw [← hw9]; exact own_setb (HOZ7.out.below hbel8) _
  have hk9 : NS g w w9 := by rw [← hw9]; exact hk8.later hgw ((Below.refl _ _).setCell (p := ⟨w.heap.size, 11, none⟩) (Nat.le_refl _) _)
  have hcd9 : Cd w9 bp g Ap xs nx cp qp := by
   have hk9' := hk9.fld
   rw [← hw9] at hk9' ⊢
   exact cd_setb hcd8 (by omega) (fun a9 ha9 => by have := hAp a9 ha9; omega) _ hk9'
  subst hX
  have y11 := hb8.cell 11
  have g11 := hb8.frozen 11
  have x5 := hb9.cell 5
  obtain ⟨dn, hdn⟩ : ∃ dn : Nat, d = (dn : Int) := ⟨d.toNat, by omega⟩
  obtain ⟨nn, hnn⟩ : ∃ nn : Nat, n = (nn : Int) := ⟨n.toNat, by omega⟩
  obtain ⟨kn, hkn⟩ : ∃ kn : Nat, k = (kn : Int) := ⟨k.toNat, by omega⟩
  have hnxn : nx = nn + v := by have := HNx.out; omega
  have hdl : (xs.drop v).length = nx - v := by rw [List.length_drop, HXl.out]
  have hgd2 : Rd.newR (xs.drop v) d = 0 := by
   unfold Rd.newR
   rw [if_pos ⟨by rw [← HXs.out]; exact (Rd.pts_nodup hnx255).sublist (List.drop_sublist _ _), by omega, by rw [hdl]; omega⟩]
  have hNh := Rd.new_calls g (some ⟨X0, 0 + v, none⟩) (xs.drop v) (nx - v) (cX - v) d w9 hdl (bytes_drop (Own.bytes ho9) v) (by omega) (by omega) hk9.fld
  rw [Nat.zero_add] at hNh
  have HNh := Lib.hid hNh
  have hsl : v < cX := by omega
  have hsl2 : (v : Int) < (cX : Int) := by omega
  have hnxc : (nx : Int) ≤ (cX : Int) := by omega
  have HO9 := Lib.hid ho9
  have HB9 := Lib.hid hb9
  have HK9 := Lib.hid hk9
  have HOW9 := Lib.hid how9
  have HOZ9 := Lib.hid hoz9
  have HCd9 := Lib.hid hcd9
  have hbp' : w.heap.size < bp := by omega
  have HAp : Hid (∀ a9, Ap = some a9 → w.heap.size < a9.block) := Lib.hid fun a9 ha9 => by have := hAp a9 ha9; omega
  have HDn := Lib.hid hdn
  have HNn := Lib.hid hnn
  have HKn := Lib.hid hkn
  have HNxn := Lib.hid hnxn
  have HDl := Lib.hid hdl
  clear hb8 hk8 hb9 ho9 how9 hoz9 hk9 hcd9 hcd8 hbel8 HO7 HB7 HK7 HOW7 HOZ7 HNp hw7 y10 g10 x4 hgd hAp hdn hnn hkn hnxn hdl hNh
  go_wp2_with fail
  refine HNh.out.mono ?_
  rintro e w10 hN10
  rcases hN10 with ⟨-, bh, Ah, ch, qd, hqd, rfl, hbh, hAh, hcd10, hbel10⟩ | ⟨hbad, -, -⟩
  rotate_left
  ·rw [hgd2] at hbad; cases hbad
  have hz9 := HB9.out.lt
  have hk10 := HK9.out.go (HK9.out.fld.below hbel10) (Past.of_below hbel10 g)
  have hb10 := HB9.out.below hbel10 HB9.out.lt
  obtain ⟨w11, hw11⟩ : ∃ w11, w10.setCell ⟨w.heap.size, 12, none⟩ (.pointer (some ⟨bh, 0, none⟩)) = w11 := ⟨_, rfl⟩
  have hb11 : Block w11 w.heap.size 106 #[.pointer (some ⟨g, 0, none⟩), .int .i64 n, .int .i64 k, .int .i64 d, .int .i64 (qp : Int), .int .i64 (v : Int), .slice (some ⟨X0, 0, none⟩) nx cX, .int .i64 (nx : Int), .int .i64 (aa : Int), .slice W nw cW, .slice Z nz cZ, .pointer (some ⟨bp, 0, none⟩), .pointer (some ⟨bh, 0, none⟩)] := by rw [← hw11]; exact hb10.set_ 12 _
  have ho11 : Own w11 (w.heap.size + 1) 5 (.slice (some ⟨X0, 0, none⟩) nx cX) (bv (bs xs)) := by rw [← hw11]; exact own_setb (HO9.out.below hbel10) _
  have how11 : Own w11 (w.heap.size + 1) 5 (.slice W nw cW) (bv (bs (Mat.flat nx aa (Mat.powF xs)))) := by rw [← hw11]; exact own_setb (HOW9.out.below hbel10) _
  have hoz11 : Own w11 (w.heap.size + 1) 5 (.slice Z nz cZ) (bv (bs (trim (roots (xs.take v))))) := by rw [← hw11]; exact own_setb (HOZ9.out.below hbel10) _
  have hk11 : NS g w w11 := by rw [← hw11]; exact hk10.later hgw ((Below.refl _ _).setCell (p := ⟨w.heap.size, 12, none⟩) (Nat.le_refl _) _)
  have hcp11 : Cd w11 bp g Ap xs nx cp qp := by
   have hk9' := hk11.fld
   rw [← hw11] at hk9' ⊢
   exact cd_setb (HCd9.out.below hbel10) (by omega) (fun a9 ha9 => by have := HAp.out a9 ha9; omega) _ hk9'
  have hch11 : Cd w11 bh g Ah (xs.drop v) (nx - v) ch qd := by
   have hk9' := hk11.fld
   rw [← hw11] at hk9' ⊢
   exact cd_setb hcd10 (by omega) (fun a9 ha9 => by have := hAh a9 ha9; omega) _ hk9'
  have y12 := hb10.cell 12
  have g12 := hb10.frozen 12
  obtain ⟨S, hS⟩ : ∃ S : Co, S = ⟨w.heap.size, g, bp, bh, nn, kn, dn, qp, v, nx, aa, nw, nz, xs, some ⟨X0, 0, none⟩, cX, W, cW, Z, cZ, Ap, cp, Ah, ch⟩ := ⟨_, rfl⟩
  have hok : S.Ok w11 := by
   have hnn := HNn.out; have hkn := HKn.out; have hdn := HDn.out; have hav := HA.out; have hvv := HV.out; have hnxn := HNxn.out
   subst hS
   refine { blk := ?_, bg := (by show w.heap.size ≠ g; omega), par := ?_, a16 := ha16, xs_ := HXs.out.symm, nx_ := HNxn.out, aa_ := HAa.out.symm, nw_ := (by show nw = nx * aa; rw [← HNw.out, Mat.flat_length]), nz_ := HNz.out, bx := BF.own hk11.fld ho11, cx := hcX, bw := BF.own hk11.fld how11, cw := hcW, bz := BF.own hk11.fld hoz11, cz := hcZ, cdp := hcp11, cdh := ?_ }
   ·show Block w11 w.heap.size 106 #[.pointer (some ⟨g, 0, none⟩), .int .i64 (nn : Int), .int .i64 (kn : Int), .int .i64 (dn : Int), .int .i64 (qp : Int), .int .i64 (v : Int), .slice (some ⟨X0, 0, none⟩) nx cX, .int .i64 (nx : Int), .int .i64 (aa : Int), .slice W nw cW, .slice Z nz cZ, .pointer (some ⟨bp, 0, none⟩), .pointer (some ⟨bh, 0, none⟩)]
    rw [← hnn, ← hkn, ← hdn]
    exact hb11
   ·show Par xs nn kn dn qp v
    have e1 : dn + 1 - kn = qp := by omega
    have e2 : dn + 2 - 2 * kn = v := by omega
    have := par_of (n := nn) (k := kn) (d := dn) (by omega) (by omega) (by omega) (by rw [e1, e2]; omega)
    rw [e1, e2, ← hnxn, HXs.out] at this
    exact this
   ·show Cd w11 bh g Ah (xs.drop v) nn ch dn
    rw [show nx - v = nn by omega, show qd = dn by omega] at hch11
    exact hch11
  have HX : Hid (NewIs w g n k d (.returned (.tuple #[.pointer (some ⟨w.heap.size, 0, none⟩), .int .i64 0])) w11) := Lib.hid (.inl ⟨⟨⟨h1, h2, h3, h4⟩, by rw [HA.out, HV.out, Int.toNat_natCast]; exact hgood⟩, S, hok, by rw [hS], by rw [hS]; exact HNn.out.symm, by rw [hS]; exact HKn.out.symm, by rw [hS]; exact HDn.out.symm, by rw [hS]; exact Nat.le_refl _, by rw [hS], hk11.past⟩)
  clear hb11 ho11 how11 hoz11 hk11 hcp11 hch11 hok hS hb10 hk10 hcd10 hbel10 HNh HO9 HB9 HK9 HOW9 HOZ9 HCd9 y11 g11 x5 hw9 hgood hqd hAh
  go_wp2
  go_ret2
  exact HX.out
 ·have e : sp = ([], 2) := by
   rw [← hsp]
   unfold Pt.spreadR
   rw [if_neg (fun h => hgood (by have := h.2.2.2; rwa [Int.toNat_natCast] at this))]
  subst e
  have hno : ¬ Good n k d := fun h => hgood (by
   have h6 := h.2
   rw [HA.out, Int.toNat_natCast, HV.out] at h6
   exact h6)
  have HX : Hid (NewIs w g n k d (.returned (.tuple #[.pointer none, .int .i64 2])) w2) := Lib.hid (.inr ⟨hno, rfl, HK2.out.fld, HK2.out.past⟩)
  clear hno hgood hsp HB1 HB2 HK1 HK2 HO2
  go_wp2
  go_ret2
  exact HX.out
theorem new_calls (PS : Poly.Spec) (g : Nat) (n k d : Int) (w : World) (hf : FldP w (some ⟨g, 0, none⟩)) (hn1 : -9223372036854775808 ≤ n) (hn2 : n < 9223372036854775808) (hk1 : -9223372036854775808 ≤ k) (hk2 : k < 9223372036854775808) (hd1 : -9223372036854775808 ≤ d) (hd2 : d < 9223372036854775808) :
  Calls Tryz.prog 29 #[.pointer (some ⟨g, 0, none⟩), .int .i64 n, .int .i64 k, .int .i64 d] w (NewIs w g n k d) := by
 by_cases hb : 2 ≤ k ∧ 2 * k ≤ d + 2 ∧ d < n ∧ d - k + 1 ≤ 16 ∧ n ≤ 255
 ·exact new_good PS g n k d w hf hb.1 hb.2.1 hb.2.2.1 hb.2.2.2.1 hb.2.2.2.2
 ·exact new_bad g n k d w hf hn1 hn2 hk1 hk2 hd1 hd2 hb
end Go.Proofs.YtjoghbmedfmioaaGreat.Ms
