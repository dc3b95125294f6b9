/- Of the program, joined: MsCode7, MsCode8, MsCode9. -/
import Derived.Test.YtofihklinkpbiaaGreatPb17
import Derived.Test.YtofihklinkpbiaaGreatPb15
import Derived.RegionTactic
namespace Go.Proofs.YtofihklinkpbiaaGreat.Ms
open Go.RowKit Go.Shelf F8 Poly GF Rd
attribute [local go_sem] Oper.semAt_some
def fill (vs : List F8) (j : Nat) : List F8 := vs.take j ++ List.replicate (vs.length - j) 0
theorem fill_length {vs : List F8} {j : Nat} (h : j ≤ vs.length) : (fill vs j).length = vs.length := by simp [fill]; omega
theorem fill_zero (vs : List F8) : fill vs 0 = List.replicate vs.length 0 := by simp [fill]
theorem fill_all (vs : List F8) : fill vs vs.length = vs := by simp [fill]
theorem fill_set {vs : List F8} {j : Nat} (h : j < vs.length) : (fill vs j).set j (coef vs j) = fill vs (j + 1) := by
 unfold fill
 obtain ⟨q, hq⟩ : ∃ q, vs.length - j = q + 1 := ⟨vs.length - j - 1, by omega⟩
 have h2 : vs.length - (j + 1) = q := by omega
 rw [hq, h2, List.set_append_right _ _ (by rw [List.length_take]; omega), List.length_take, Nat.min_eq_left (by omega), Nat.sub_self, List.replicate_succ, List.set_cons_zero, take_succ' vs h, coef_of_lt h, List.append_assoc]
 rfl
theorem add_f (x y : F8) (w : World) : Calls Tryz.prog 44 #[.int .u8 x.n, .int .u8 y.n] w fun e w' => e = .returned (.int .u8 (x + y).n) ∧ w = w' := GF.add_calls x.n y.n x.h y.h w
theorem Co.Ok.pt {S : Co} {V : World} (h : S.Ok V) {bX oX : Nat} (hX : S.X = some ⟨bX, oX, none⟩) {p : Nat} (hp : p < S.nx) : V.cell? ⟨S.b, 6, none⟩ = some (.slice (some ⟨bX, oX, none⟩) S.nx S.cX) ∧ V.cell? ⟨bX, oX + p, none⟩ = some (.int .u8 ((coef S.xs p).n : Int)) := by
 obtain ⟨-, -, -, -, -, -, c6, -⟩ := h.cells
 have hb := h.bx.by_
 rw [hX] at c6 hb
 exact ⟨c6, cellAt hb p (by rw [h.len]; exact hp)⟩
theorem Co.Ok.c0 {S : Co} {V : World} (h : S.Ok V) : V.cell? ⟨S.b, 0, none⟩ = some (.pointer (some ⟨S.g, 0, none⟩)) := h.cells.1
theorem Wres_back {S : Co} {w w1 w2 : World} {m : List F8} {wl : List Int} {z : Int} {e : Ending} (hk : Kp S w w1) (h : Wl.WRes S.g w1 m wl z e w2) : Wl.WRes S.g w m wl z e w2 := by
 obtain ⟨A, c, B, d, h1, h2, h3, h4, h5, h6, h7⟩ := h
 exact ⟨A, c, B, d, h1, h2, h3, h4.more hk.size, h5.more hk.size, h6, hk.past.trans (h7.mono hk.size)⟩
set_option maxRecDepth 100000 in
set_option maxHeartbeats 8000000 in
theorem row_calls (PS : Poly.Spec) (T : Wl.Spec) {S : Co} {w : World} (h : S.Ok w) (p : Nat) (oA : Option Addr) (os : List F8) (on oc : Nat) (hon : os.length = on) (hon2 : on = S.a) (hoc : on ≤ oc) (hoB : BF S.g w oA os) (hp : p < S.nx) (A : Option Addr) (l : List El) (m c : Nat) (t : Int) (ht : -9223372036854775808 ≤ t) (ht2 : t < 9223372036854775808) (hl : l.length = m) (hm : m ≤ 300) (hE : Els S.g w A l) (L : List (Nat × List F8)) (hI : Is l L) (hL : OkL S.xs S.a L) (hne : ∀ u ∈ L, u.1 ≠ p) :
  Calls Tryz.prog 102 #[.pointer (some ⟨S.b, 0, none⟩), .agg #[.int .i64 (p : Nat), .slice oA on oc], .slice A m c, .int .i64 t] w fun e w' => ∃ msg wl z, Wl.WIs S.xs S.a (plI L) (vals S.a S.xs (p, os) L) t msg wl z ∧ Wl.WRes S.g w msg wl z e w' := by
 have hmx : Tryz.prog.follows .mixedOrders = true := by kernel_rfl
 have hn := h.nums
 obtain ⟨bX, oX, hX⟩ := where_ h.bx.by_ (by rw [h.len]; omega)
 obtain ⟨vs, hvs⟩ : ∃ vs, vals S.a S.xs (p, os) L = vs := ⟨_, rfl⟩
 have hLm : L.length = m := by rw [← hI.length, hl]
 have hvl : vs.length = m := by rw [← hvs, vals_length, hLm]
 have HVS : Hid (∀ j (hj : j < L.length), coef vs j = Poly.eval os (coef S.xs (L[j]).1) + xpow (coef S.xs p) S.a * ((Poly.eval os (coef S.xs (L[j]).1) + Poly.eval (L[j]).2 (coef S.xs p)) / (xpow (coef S.xs p) S.a + xpow (coef S.xs (L[j]).1) S.a))) := Lib.hid (fun j hj => by
  rw [← hvs, coef_of_lt (by rw [vals_length]; exact hj)]
  simp only [vals, List.getElem_map]
  rfl)
 obtain ⟨la, hla⟩ : ∃ la, xpow (coef S.xs p) S.a = la := ⟨_, rfl⟩
 rw [hla] at HVS
 have HNZ : Hid (∀ j (hj : j < L.length), la + xpow (coef S.xs (L[j]).1) S.a ≠ 0) := Lib.hid (fun j hj => by
  rw [← hla]
  exact sum_ne (h.par.P.lam _ _ (by rw [h.len]; exact hp) (hL.lt _ (List.getElem_mem hj)) (Ne.symm (hne _ (List.getElem_mem hj)))))
 have HLt : Hid (∀ j (hj : j < L.length), (L[j]).1 < S.nx) := Lib.hid (fun j hj => by rw [← h.len]; exact hL.lt _ (List.getElem_mem hj))
 have HUn : Hid (∀ j (hj : j < L.length), (L[j]).2.length = S.a) := Lib.hid (fun j hj => hL.len _ (List.getElem_mem hj))
 have HVL := Lib.hid hvl
 have hw1 : Kp S w (w.alloc (.cells #[.int .i64 (p : Int), .slice oA on oc] 102)) := (Kp.start h).alloc _
 have HLa := Lib.hid (lambda_calls hw1.ok p hp)
 have HW1 := Lib.hid hw1
 have HB1 := Lib.hid (Block.new w 102 #[.int .i64 (p : Int), .slice oA on oc])
 have HX := Lib.hid hX
 have H := Lib.hid h
 have HOB := Lib.hid hoB
 have HON := Lib.hid hon
 have HON2 := Lib.hid hon2
 have HE := Lib.hid hE
 have HI := Lib.hid hI
 have HLm := Lib.hid hLm
 have HM := Lib.hid hl
 have HVs := Lib.hid hvs
 have HLac := Lib.hid hla
 have hg5 : S.g ≠ w.heap.size := by have := h.fld.fld.lt; omega
 have hn1 : on ≤ 16 := by omega
 have ha16 : S.a ≤ 16 := hn.2.1
 have c00 := HB1.out.cell 0
 clear h hoB hon hon2 hE hI hL hne hl hvl hLm hw1 hX hvs hn
 go_enter Tryz.func102, Tryz.ntmps102
 go_wp2_with fail
 refine HLa.out.mono ?_
 rintro e w2 ⟨rfl, hf2, hp2⟩
 rw [HLac.out]
 have hk2 := HW1.out.go hf2 hp2
 have hs1 : w.heap.size < w2.heap.size := by have := hp2.size; simp at this; omega
 have hb2 := HB1.out.past hp2 (by simp) (Ne.symm hg5)
 obtain ⟨w3, hmk, hO3, hB3⟩ := make_run w2 m (by omega)
 obtain ⟨v0, hv0⟩ : ∃ v, w2.heap.size = v := ⟨_, rfl⟩
 rw [hv0] at hmk hO3
 have HK3 := Lib.hid (hk2.below hB3)
 have HB3 := Lib.hid (hb2.below hB3 hs1)
 have HO3 : Hid (Own w3 w.heap.size 5 (.slice (some ⟨v0, 0, none⟩) m m) (bv (bs (fill vs 0)))) := Lib.hid (by rw [fill_zero, HVL.out]; exact hO3.more (by omega))
 have hv1 : w.heap.size < v0 := by omega
 clear hk2 hb2 hO3 hB3 hf2 hp2 HLa HW1 HB1 c00 hv0 hs1
 go_wp2_with fail
 go_loopw [28] (fun i wr => ∃ j : Nat, j ≤ m ∧ i = .int .i64 j ∧ Hid (Kp S w wr) ∧ Hid (Block wr w.heap.size 102 #[.int .i64 (p : Int), .slice oA on oc]) ∧ Hid (Own wr w.heap.size 5 (.slice (some ⟨v0, 0, none⟩) m m) (bv (bs (fill vs j))))) (fun i _ => m - (intOf i).toNat)
 case atStart => exact ⟨0, by omega, rfl, HK3, HB3, HO3⟩
 case round =>
  clear HK3 HB3 HO3 hmk
  obtain ⟨j, hj, rfl, HK, HB, HO⟩ := hrel
  by_cases hjm : j < m
  ·have hti : j < l.length := by rw [HM.out]; exact hjm
   have htL : j < L.length := by rw [HLm.out]; exact hjm
   obtain ⟨b, off, rfl, hc0, hc1⟩ := row2_at (HE.out.past H.out.fld.fld HK.out.past).row hti
   have hlst := (HE.out.past H.out.fld.fld HK.out.past).lst _ (List.getElem_mem hti)
   obtain ⟨hup, hus⟩ := HI.out.get hti htL
   have hvj := HVS.out j htL
   have hnz := HNZ.out j htL
   have hult := HLt.out j htL
   have hun := HUn.out j htL
   have hset := fill_set (vs := vs) (j := j) (by rw [HVL.out]; exact hjm)
   obtain ⟨uA, h6⟩ : ∃ a, (l[j]).A = a := ⟨_, rfl⟩
   obtain ⟨uc, h8⟩ : ∃ a, (l[j]).c = a := ⟨_, rfl⟩
   rw [hup] at hc0
   rw [hus, h6, h8] at hc1 hlst
   obtain ⟨up, h9⟩ : ∃ a, (L[j]).1 = a := ⟨_, rfl⟩
   obtain ⟨us, h10⟩ : ∃ a, (L[j]).2 = a := ⟨_, rfl⟩
   rw [h9] at hc0 hvj hnz hult
   rw [h10] at hc1 hvj hlst hun
   obtain ⟨un, h11⟩ : ∃ a, us.length = a := ⟨_, rfl⟩
   rw [h11] at hc1 hlst hun
   have HUN := Lib.hid h11
   have HUB := Lib.hid hlst.1
   have huc := hlst.2
   have hun2 : un ≤ 16 := by omega
   rw [hvj] at hset
   have HSet := Lib.hid hset
   have HNz := Lib.hid hnz
   clear hup hus h6 h8 h9 h10 h11 hlst hvj hnz hset hun
   obtain ⟨ob, hob⟩ : ∃ ob, wr.heap.size = ob := ⟨_, rfl⟩
   have hk1 := HK.out.alloc (.cells #[.int .i64 (up : Int), .slice uA un uc] 102)
   have hsz := HK.out.size
   have hgw := H.out.fld.fld.lt
   have HK1 := Lib.hid hk1
   have hbo := Block.new wr 102 #[.int .i64 (up : Int), .slice uA un uc]
   rw [hob] at hbo
   have HBo := Lib.hid hbo
   have HB1 := Lib.hid (HB.out.alloc (.cells #[.int .i64 (up : Int), .slice uA un uc] 102))
   have HO1 := Lib.hid (HO.out.alloc (.cells #[.int .i64 (up : Int), .slice uA un uc] 102))
   have HUB1 := Lib.hid (HUB.out.below ((Below.refl _ wr).alloc (Nat.le_refl _) (.cells #[.int .i64 (up : Int), .slice uA un uc] 102)))
   have hsz1 : w.heap.size ≤ ob ∧ ob < (wr.alloc (.cells #[.int .i64 (up : Int), .slice uA un uc] 102)).heap.size := ⟨by omega, by simp; omega⟩
   have hbog : ob ≠ S.g := by omega
   have hpi : (p : Int) < (S.nx : Int) := by omega
   have hui : (up : Int) < (S.nx : Int) := by omega
   have hp0 : (0 : Int) ≤ (p : Int) := by omega
   have hu0 : (0 : Int) ≤ (up : Int) := by omega
   have hcX := H.out.cx
   clear hk1 hbo HK HB HO HUB
   go_wp2_with fail
   obtain ⟨V, hV⟩ : ∃ V, wr.alloc (.cells #[.int .i64 (up : Int), .slice uA un uc] 102) = V := ⟨_, rfl⟩
   rw [hV] at HK1 HBo HB1 HO1 HUB1 hsz1 ⊢
   clear hV hob hc0 hc1
   have s0 := HK1.out.ok.c0
   obtain ⟨s6, sx⟩ := HK1.out.ok.pt HX.out hult
   have sb0 := HB1.out.cell 0
   have sb1 := HB1.out.cell 1
   have so0 := HBo.out.cell 0
   have so1 := HBo.out.cell 1
   have HAt := Lib.hid (PS.atP oA os on oc V.drew HON.out ((HOB.out.past HK1.out.past).by_.drew) hoc (by omega) (some ⟨S.g, 0, none⟩) HK1.out.fldp HOB.out.far (coef S.xs up))
   refine wp_region_still_tail 14 hmx (by kernel_rfl) ?_
   simp only [List.take_succ_cons, List.take_zero, List.drop_succ_cons, List.drop_zero]
   iterate 14 still_step
   refine wpStill_nil ?_
   go_wp2_with fail
   refine HAt.out.mono ?_
   rintro e w4 ⟨rfl, hf4, hp4⟩
   have hp4' : Past V.heap.size S.g V w4 := ⟨hp4.os, hp4.tape, hp4.output, hp4.size, hp4.block⟩
   have HK4 := Lib.hid (HK1.out.go hf4 hp4')
   have HBo4 := Lib.hid (HBo.out.past hp4' HBo.out.lt hbog)
   have HB4 := Lib.hid (HB1.out.past hp4' HB1.out.lt (Ne.symm hg5))
   have HO4 := Lib.hid (own_keep HO1.out HK1.out.fldp hp4')
   have HUB4 := Lib.hid (HUB1.out.past hp4')
   have hsz4 : ob < w4.heap.size := by have := hp4'.size; omega
   obtain ⟨x1, hx1⟩ : ∃ x, Poly.eval os (coef S.xs up) = x := ⟨_, rfl⟩
   rw [hx1] at HSet ⊢
   clear hf4 hp4 hp4' HK1 HBo HB1 HO1 HUB1 HAt s0 s6 sx sb0 sb1 so0 so1 V hsz1 hx1
   have s0 := HK4.out.ok.c0
   obtain ⟨s6, sx⟩ := HK4.out.ok.pt HX.out hp
   have sb0 := HB4.out.cell 0
   have so0 := HBo4.out.cell 0
   have so1 := HBo4.out.cell 1
   have HAt := Lib.hid (PS.atP uA us un uc w4.drew HUN.out HUB4.out.by_.drew huc (by omega) (some ⟨S.g, 0, none⟩) HK4.out.fldp HUB4.out.far (coef S.xs p))
   go_wp2_with fail
   refine wp_region_still_tail 14 hmx (by kernel_rfl) ?_
   simp only [List.take_succ_cons, List.take_zero, List.drop_succ_cons, List.drop_zero]
   iterate 14 still_step
   refine wpStill_nil ?_
   go_wp2_with fail
   refine HAt.out.mono ?_
   rintro e w5 ⟨rfl, hf5, hp5⟩
   have hp5' : Past w4.heap.size S.g w4 w5 := ⟨hp5.os, hp5.tape, hp5.output, hp5.size, hp5.block⟩
   have HK5 := Lib.hid (HK4.out.go hf5 hp5')
   have HBo5 := Lib.hid (HBo4.out.past hp5' HBo4.out.lt hbog)
   have HB5 := Lib.hid (HB4.out.past hp5' HB4.out.lt (Ne.symm hg5))
   have HO5 := Lib.hid (own_keep HO4.out HK4.out.fldp hp5')
   have hsz5 : ob < w5.heap.size := by have := hp5'.size; omega
   obtain ⟨x2, hx2⟩ : ∃ x, Poly.eval us (coef S.xs p) = x := ⟨_, rfl⟩
   rw [hx2] at HSet ⊢
   obtain ⟨lu, hlu⟩ : ∃ x, xpow (coef S.xs up) S.a = x := ⟨_, rfl⟩
   rw [hlu] at HSet HNz
   have HLu := Lib.hid hlu
   clear hf5 hp5 hp5' HK4 HBo4 HB4 HO4 HUB4 HAt s0 s6 sx sb0 so0 so1 w4 hsz4 hx2 hlu
   have HSc : Hid (∀ V, Kp S w V → Block V ob 102 #[.int .i64 (up : Int), .slice uA un uc] → V.cell? ⟨S.b, 0, none⟩ = some (.pointer (some ⟨S.g, 0, none⟩)) ∧ V.cell? ⟨ob, 0, none⟩ = some (.int .i64 (up : Int))) := Lib.hid (fun V h1 h2 => ⟨h1.ok.c0, h2.cell 0⟩)
   have HK := Lib.hid HK5.out.drew
   have HBo := Lib.hid HBo5.out.drew
   have HB := Lib.hid HB5.out.drew
   have HO := Lib.hid HO5.out.drew
   have hob5 : ob < w5.drew.heap.size := hsz5
   have HOb := Lib.hid hob5
   have HDz := Lib.hid (sum_ne (l := la) (m := lu))
   clear HK5 HBo5 HB5 HO5 hsz5 hob5
   go_wp2_with fail
   go_region_held (fun V => V.cell? ⟨S.b, 0, none⟩ = some (.pointer (some ⟨S.g, 0, none⟩)) ∧ V.cell? ⟨ob, 0, none⟩ = some (.int .i64 (up : Int))) (exact HSc.out _ HK.out HBo.out)
    ((first
     | (go_at_call 44; (with_reducible refine (add_f _ _ _).mono ?_); rintro e wq ⟨rfl, rfl⟩)
     | (go_at_call 119; refine (lambda_calls HK.out.ok up hult).mono ?_; rintro e wl ⟨rfl, hf, hp8⟩; rw [HLu.out]; replace HBo := Lib.hid (HBo.out.past hp8 HBo.out.lt hbog); replace HB := Lib.hid (HB.out.past hp8 HB.out.lt (Ne.symm hg5)); replace HO := Lib.hid (own_keep HO.out HK.out.fldp hp8); replace HOb := Lib.hid (Nat.lt_of_lt_of_le HOb.out hp8.size); replace HK := Lib.hid (HK.out.go hf hp8); clear hf hp8)
     | (go_at_call 59; refine (div_f S.g (x1 + x2) (la + lu) HNz.out _ HK.out.fld).mono ?_; rintro e wl ⟨rfl, hf, hp8⟩; replace HBo := Lib.hid (HBo.out.past hp8 HBo.out.lt hbog); replace HB := Lib.hid (HB.out.past hp8 HB.out.lt (Ne.symm hg5)); replace HO := Lib.hid (own_keep HO.out HK.out.fldp hp8); replace HOb := Lib.hid (Nat.lt_of_lt_of_le HOb.out hp8.size); replace HK := Lib.hid (HK.out.go (FldP.of hf) hp8); clear hf hp8)))
   all_goals
    obtain ⟨wq, hwq⟩ : ∃ wq, wl = wq := ⟨_, rfl⟩
    rw [hwq] at HK HBo HB HO HOb ⊢
    clear hwq
    have s0 := HK.out.ok.c0
    have HMul := Lib.hid (mul_f S.g la ((x1 + x2) / (la + lu)) wq HK.out.fld)
    obtain ⟨qv, hqv⟩ : ∃ x, (x1 + x2) / (la + lu) = x := ⟨_, rfl⟩
    rw [hqv] at HSet HMul ⊢
    have hfl : (fill vs j).length = m := by rw [fill_length (by rw [HVL.out]; omega), HVL.out]
    have HFl := Lib.hid hfl
    clear hqv HDz HNz HLu hfl
    go_wp2_with fail
    refine HMul.out.mono ?_
    rintro e w7 ⟨rfl, hf7, hp7⟩
    have hK7 := HK.out.go (FldP.of hf7) hp7
    have hB7 := HB.out.past hp7 HB.out.lt (Ne.symm hg5)
    have hO7 := own_keep HO.out HK.out.fldp hp7
    have k7 := own_cell hO7 HFl.out hjm
    have f7 := Own.frozenAt hO7 (by rw [bvs_length, HFl.out]) j
    have HK7 : Hid (Kp S w (w7.setCell ⟨v0, j, none⟩ (.int .u8 ((x1 + la * qv).n : Int)))) := Lib.hid (Kp.later H.out hK7 ((Below.refl _ _).setCell (p := ⟨v0, j, none⟩) (by show w.heap.size ≤ v0; omega) _))
    have HB7 : Hid (Block (w7.setCell ⟨v0, j, none⟩ (.int .u8 ((x1 + la * qv).n : Int))) w.heap.size 102 #[.int .i64 (p : Int), .slice oA on oc]) := Lib.hid (hB7.far (p := ⟨v0, j, none⟩) (by show w.heap.size ≠ v0; omega) _)
    have HO7 : Hid (Own (w7.setCell ⟨v0, j, none⟩ (.int .u8 ((x1 + la * qv).n : Int))) w.heap.size 5 (.slice (some ⟨v0, 0, none⟩) m m) (bv (bs (fill vs (j + 1))))) := Lib.hid (by rw [← HSet.out]; exact own_set hO7 HFl.out)
    have hjm' : (j : Int) < (m : Int) := by omega
    clear hK7 hB7 hO7 hf7 hp7 HMul HK HB HO HBo HOb s0
    go_wp2_with (go_at_call 44; (with_reducible refine (add_f _ _ _).mono ?_); rintro e wz ⟨rfl, rfl⟩)
    go_roundw
    case rel => exact ⟨j + 1, by omega, by go_num, HK7, HB7, HO7⟩
    case measure => simp [intOf]; omega
  ·obtain rfl : j = m := by omega
   have hown := HO.out
   have hfa : fill vs j = vs := by rw [← HVL.out]; exact fill_all vs
   rw [hfa] at hown
   have HDec := Lib.hid (decoder_calls (S := S) (w := wr) A l j c t HM.out (by omega) (HE.out.past H.out.fld.fld HK.out.past).row)
   have HOw := Lib.hid hown
   clear hown hfa HO HB
   go_wp2_with fail
   refine HDec.out.mono ?_
   rintro e w8 ⟨P, d, rfl, hD, hb8⟩
   have hK8 := HK.out.below hb8
   have hO8 := HOw.out.below hb8
   have HD1 := Lib.hid (decoder1_calls T hK8.ok hD (by omega) ht ht2 (some ⟨v0, 0, none⟩) vs j j HVL.out (BF.own hK8.fldp hO8) (Nat.le_refl _) (by omega))
   have HK8 := Lib.hid hK8
   clear hD hb8 hK8 hO8 HDec
   go_wp2_with fail
   refine HD1.out.mono ?_
   rintro e w9 ⟨msg, wl, z, hw, hr⟩
   rw [HI.out.plE] at hw
   obtain ⟨A1, c1, B1, d1, rfl, h1, h2, h3, h4, h5, h6⟩ := Wres_back HK8.out hr
   have HX : Hid (∃ msg' wl' z', Wl.WIs S.xs S.a (plI L) vs t msg' wl' z' ∧ Wl.WRes S.g w msg' wl' z' (.returned (.tuple #[.slice A1 msg.length c1, .slice B1 wl.length d1, .int .i64 z])) w9) := Lib.hid ⟨msg, wl, z, hw, A1, c1, B1, d1, rfl, h1, h2, h3, h4, h5, h6⟩
   clear hw hr h1 h2 h3 h4 h5 h6 HD1
   go_wp2
   go_ret3
   rw [HVs.out]
   exact HX.out
end Go.Proofs.YtofihklinkpbiaaGreat.Ms

namespace Go.Proofs.YtofihklinkpbiaaGreat.Ms
open Go.RowKit Go.Shelf F8 Poly GF Rd
attribute [local go_sem] Oper.semAt_some
def secL (a : Nat) (la : F8) (s f : List F8) : List F8 := (List.range a).map fun i => (coef s i + coef f i) / la
theorem secL_length (a : Nat) (la : F8) (s f : List F8) : (secL a la s f).length = a := by simp [secL]
theorem coef_secL {a : Nat} {la : F8} {s f : List F8} {i : Nat} (h : i < a) : coef (secL a la s f) i = (coef s i + coef f i) / la := by unfold secL; rw [Wl.coef_range, if_pos h]
set_option maxRecDepth 100000 in
set_option maxHeartbeats 8000000 in
theorem second_calls {S : Co} {w : World} (h : S.Ok w) (p : Nat) (oA : Option Addr) (os : List F8) (on oc : Nat) (hon : os.length = on) (hon2 : on = S.a) (hoB : BF S.g w oA os) (hp : p < S.nx) (fA : Option Addr) (fs : List F8) (fn fc : Nat) (hfn : fs.length = fn) (hfn2 : fn = S.a) (hfB : BF S.g w fA fs) :
  Calls Tryz.prog 104 #[.pointer (some ⟨S.b, 0, none⟩), .agg #[.int .i64 (p : Nat), .slice oA on oc], .slice fA fn fc] w fun e w' => PolyRes (some ⟨S.g, 0, none⟩) w w' e (secL S.a (xpow (coef S.xs p) S.a) os fs) := by
 have hn := h.nums
 obtain ⟨ob, oo, rfl⟩ := where_ hoB.by_ (by omega)
 obtain ⟨fb, fo, rfl⟩ := where_ hfB.by_ (by omega)
 obtain ⟨a, ha⟩ : ∃ a, S.a = a := ⟨_, rfl⟩
 obtain ⟨la, hla⟩ : ∃ la, xpow (coef S.xs p) S.a = la := ⟨_, rfl⟩
 have hnz : la ≠ 0 := by rw [← hla]; exact xpow_ne (h.par.P.nz p (by rw [h.len]; exact hp)) _
 rw [ha] at hon2 hfn2 hn
 rw [hla]
 subst hon2 hfn2
 obtain ⟨vs, hvs⟩ : ∃ vs, secL fn la os fs = vs := ⟨_, rfl⟩
 have hvl : vs.length = fn := by rw [← hvs, secL_length]
 have HC : Hid (∀ i, i < fn → coef vs i = (coef os i + coef fs i) / la) := Lib.hid (fun i hi => by rw [← hvs, coef_secL hi])
 have hw1 : Kp S w (w.alloc (.cells #[.int .i64 (p : Int), .slice (some ⟨ob, oo, none⟩) fn oc] 102)) := (Kp.start h).alloc _
 have HW1 := Lib.hid hw1
 have HB1 := Lib.hid (Block.new w 102 #[.int .i64 (p : Int), .slice (some ⟨ob, oo, none⟩) fn oc])
 obtain ⟨w3, hmk, hO3, hB3⟩ := make_run (w.alloc (.cells #[.int .i64 (p : Int), .slice (some ⟨ob, oo, none⟩) fn oc] 102)) fn (by omega)
 rw [World.size_alloc] at hmk hO3 hB3
 have c4 := hw1.ok.cells.2.2.2.2.1
 rw [ha] at c4
 have HK3 := Lib.hid (hw1.below (by rw [World.size_alloc]; exact hB3))
 have HB3 := Lib.hid (HB1.out.below hB3 (by omega))
 have HVL := Lib.hid hvl
 have HO3 : Hid (Own w3 w.heap.size 5 (.slice (some ⟨w.heap.size + 1, 0, none⟩) fn fn) (bv (bs (fill vs 0)))) := Lib.hid (by rw [fill_zero, HVL.out]; exact hO3.more (by omega))
 have H := Lib.hid h
 have HOB := Lib.hid hoB
 have HFB := Lib.hid hfB
 have HON := Lib.hid hon
 have HFN := Lib.hid hfn
 have HVs := Lib.hid hvs
 have HLa := Lib.hid hla
 have HA := Lib.hid ha
 have HNz := Lib.hid hnz
 have hg5 : S.g ≠ w.heap.size := by have := h.fld.fld.lt; omega
 have hfn16 : fn ≤ 16 := hn.2.1
 rw [ha, hvs]
 clear h hoB hfB hon hfn hvs hla ha hnz hvl hO3 hB3 hw1 hn HW1 HB1
 go_enter Tryz.func104, Tryz.ntmps104
 go_wp2_with fail
 clear c4 hmk
 go_loopw [16] (fun i wr => ∃ j : Nat, j ≤ fn ∧ i = .int .i64 j ∧ Hid (Kp S w wr) ∧ Hid (Block wr w.heap.size 102 #[.int .i64 (p : Int), .slice (some ⟨ob, oo, none⟩) fn oc]) ∧ Hid (Own wr w.heap.size 5 (.slice (some ⟨w.heap.size + 1, 0, none⟩) fn fn) (bv (bs (fill vs j))))) (fun i _ => fn - (intOf i).toNat)
 case atStart => exact ⟨0, by omega, rfl, HK3, HB3, HO3⟩
 case round =>
  clear HK3 HB3 HO3
  obtain ⟨j, hj, rfl, HK, HB, HO⟩ := hrel
  by_cases hjm : j < fn
  ·have hset := fill_set (vs := vs) (j := j) (by rw [HVL.out]; exact hjm)
   rw [HC.out j hjm] at hset
   have HFl : Hid ((fill vs j).length = fn) := Lib.hid (by rw [fill_length (by rw [HVL.out]; omega), HVL.out])
   obtain ⟨x1, hx1⟩ : ∃ x, coef os j = x := ⟨_, rfl⟩
   obtain ⟨x2, hx2⟩ : ∃ x, coef fs j = x := ⟨_, rfl⟩
   rw [hx1, hx2] at hset
   have HSet := Lib.hid hset
   have HSc : Hid (∀ V, Kp S w V → Block V w.heap.size 102 #[.int .i64 (p : Int), .slice (some ⟨ob, oo, none⟩) fn oc] → V.cell? ⟨S.b, 0, none⟩ = some (.pointer (some ⟨S.g, 0, none⟩)) ∧ V.cell? ⟨w.heap.size, 0, none⟩ = some (.int .i64 (p : Int)) ∧ V.cell? ⟨w.heap.size, 1, none⟩ = some (.slice (some ⟨ob, oo, none⟩) fn oc) ∧ V.cell? ⟨ob, oo + j, none⟩ = some (.int .u8 (x1.n : Int)) ∧ V.cell? ⟨fb, fo + j, none⟩ = some (.int .u8 (x2.n : Int))) := Lib.hid (fun V h1 h2 => ⟨h1.ok.c0, h2.cell 0, h2.cell 1, by rw [← hx1]; exact cellAt (HOB.out.past h1.past).by_ j (by rw [HON.out]; exact hjm), by rw [← hx2]; exact cellAt (HFB.out.past h1.past).by_ j (by rw [HFN.out]; exact hjm)⟩)
   have hjm1 : (j : Int) < (fn : Int) := by omega
   have hj0 : (0 : Int) ≤ (j : Int) := by omega
   have hT : True := trivial
   clear hset hx1 hx2
   have HK := Lib.hid HK.out.drew
   have HB := Lib.hid HB.out.drew
   have HO := Lib.hid HO.out.drew
   have HL : Hid True := Lib.hid trivial
   go_wp2_with fail
   go_region_held (fun V => V.cell? ⟨S.b, 0, none⟩ = some (.pointer (some ⟨S.g, 0, none⟩)) ∧ V.cell? ⟨w.heap.size, 0, none⟩ = some (.int .i64 (p : Int)) ∧ V.cell? ⟨w.heap.size, 1, none⟩ = some (.slice (some ⟨ob, oo, none⟩) fn oc) ∧ V.cell? ⟨ob, oo + j, none⟩ = some (.int .u8 (x1.n : Int)) ∧ V.cell? ⟨fb, fo + j, none⟩ = some (.int .u8 (x2.n : Int))) (first | exact HSc.out _ HK.out HB.out | exact HSc.out _ HK9.out HB9.out)
    ((first
     | (go_at_call 44; (with_reducible refine (add_f _ _ _).mono ?_); rintro e wq ⟨rfl, rfl⟩)
     | (go_at_call 119; refine (lambda_calls HK.out.ok p hp).mono ?_; rintro e wl ⟨rfl, hf, hp8⟩; rw [HLa.out]; replace HB := Lib.hid (HB.out.past hp8 HB.out.lt (Ne.symm hg5)); replace HO := Lib.hid (own_keep HO.out HK.out.fldp hp8); replace HK := Lib.hid (HK.out.go hf hp8); clear hf hp8)
     | (go_at_call 59; refine (div_f S.g (x1 + x2) la HNz.out _ HK.out.fld).mono ?_; rintro e wl ⟨rfl, hf, hp8⟩; replace HB := Lib.hid (HB.out.past hp8 HB.out.lt (Ne.symm hg5)); replace HO := Lib.hid (own_keep HO.out HK.out.fldp hp8); replace HK := Lib.hid (HK.out.go (FldP.of hf) hp8); clear hf hp8; have k7 := own_cell HO.out HFl.out hjm; have f7 := Own.frozenAt HO.out (by rw [bvs_length, HFl.out]) j; have HK9 : Hid (Kp S w (wl.setCell ⟨w.heap.size + 1, j, none⟩ (.int .u8 (((x1 + x2) / la).n : Int)))) := Lib.hid (Kp.later H.out HK.out ((Below.refl _ _).setCell (p := ⟨w.heap.size + 1, j, none⟩) (by simp) _)); have HB9 : Hid (Block (wl.setCell ⟨w.heap.size + 1, j, none⟩ (.int .u8 (((x1 + x2) / la).n : Int))) w.heap.size 102 #[.int .i64 (p : Int), .slice (some ⟨ob, oo, none⟩) fn oc]) := Lib.hid (HB.out.far (p := ⟨w.heap.size + 1, j, none⟩) (by simp) _); have HO9 : Hid (Own (wl.setCell ⟨w.heap.size + 1, j, none⟩ (.int .u8 (((x1 + x2) / la).n : Int))) w.heap.size 5 (.slice (some ⟨w.heap.size + 1, 0, none⟩) fn fn) (bv (bs (fill vs (j + 1))))) := Lib.hid (by rw [← HSet.out]; exact own_set HO.out HFl.out))))
   all_goals
    go_wp2
    go_roundw
    case rel => exact ⟨j + 1, by omega, by go_num, HK9, HB9, HO9⟩
    case measure => simp [intOf]; omega
  ·obtain rfl : j = fn := by omega
   have hown := HO.out
   have hfa : fill vs j = vs := by rw [← HVL.out]; exact fill_all vs
   rw [hfa] at hown
   have hX : PolyRes (some ⟨S.g, 0, none⟩) w wr (.returned (.slice (some ⟨w.heap.size + 1, 0, none⟩) j j)) vs := ⟨_, j, by rw [HVL.out], by rw [HVL.out]; exact Nat.le_refl _, by rw [HVL.out]; exact hown, HK.out.fldp, HK.out.past⟩
   have HX := Lib.hid hX
   clear hown hfa hX HO HB HK
   go_wp2
   go_ret
   exact HX.out
end Go.Proofs.YtofihklinkpbiaaGreat.Ms

namespace Go.Proofs.YtofihklinkpbiaaGreat.Ms
open Go.RowKit Go.Shelf F8 Poly GF Rd
attribute [local go_sem] Oper.semAt_some
def nils (n : Nat) : List El := List.replicate n ⟨0, none, [], 0⟩
theorem make_bss (n : Nat) (hn : n ≤ 1000) : ∃ mk : World → World, ∀ W, (Instr.makeSlice 34 (.int .i64 (n : Int)) (.int .i64 (n : Int))).run Tryz.prog W = .ok (.slice (some ⟨W.heap.size, 0, none⟩) n n) (mk W) ∧ Own (mk W) W.heap.size 22 (.slice (some ⟨W.heap.size, 0, none⟩) n n) (cells1 (nils n)) ∧ Below W.heap.size W (mk W) ∧ W.heap.size < (mk W).heap.size := by
 have key : ∀ W : World, ∃ w', (Instr.makeSlice 34 (.int .i64 (n : Int)) (.int .i64 (n : Int))).run Tryz.prog W = .ok (.slice (some ⟨W.heap.size, 0, none⟩) n n) w' ∧ Own w' W.heap.size 22 (.slice (some ⟨W.heap.size, 0, none⟩) n n) (cells1 (nils n)) ∧ Below W.heap.size W w' ∧ W.heap.size < w'.heap.size := fun W => by
  obtain ⟨i0, hi, hi1, hi2, hi3⟩ := info_parts info_bs
  obtain ⟨w1, hmk, ho, hg⟩ := run_make_full (P := Tryz.prog) W W.heap.size 34 22 i0 _ 1 Tryz.underlying34 hi hi1 hi2 .i64 .i64 n (by rw [hi3]; omega) (by simp only [maxLen]; omega) (Nat.le_refl _)
  have e : (madeCells (Value.slice none 0 0).cells (n * 1)).toList = cells1 (nils n) := by
   apply List.ext_getElem
   ·simp [madeCells, Value.cells, cells1, nils]
   ·intro i h1 h2
    simp [madeCells, Value.cells, cells1, nils, El.v, Nat.mod_one]
  rw [e] at ho
  refine ⟨w1, hmk, ?_, (Below.refl W.heap.size W).grown hg (Nat.le_refl _) (fun _ h => by cases h), (ho.lt W.heap.size rfl).2⟩
  unfold Own; rw [cells1_length, nils, List.length_replicate]; exact ho
 exact ⟨fun W => Classical.choose (key W), fun W => Classical.choose_spec (key W)⟩
structure Two (S : Co) (w : World) (f0 s0 m j k : Nat) (Fs Gs : List El) (V : World) : Prop where
 kp : Kp S w V
 f : Own V w.heap.size 22 (.slice (some ⟨f0, 0, none⟩) m m) (cells1 Fs)
 g : Own V w.heap.size 22 (.slice (some ⟨s0, 0, none⟩) m m) (cells1 Gs)
 fl : Fs.length = m
 gl : Gs.length = m
 fo : LstO V w.heap.size (Fs.take j)
 go : LstO V w.heap.size (Gs.take k)
section
variable {S : Co} {w V V' : World} {f0 s0 m j k : Nat} {Fs Gs : List El}
theorem Two.below (h : Two S w f0 s0 m j k Fs Gs V) (hb : Below V.heap.size V V') : Two S w f0 s0 m j k Fs Gs V' := ⟨h.kp.below hb, h.f.below hb, h.g.below hb, h.fl, h.gl, h.fo.below hb, h.go.below hb⟩
theorem Two.drew (h : Two S w f0 s0 m j k Fs Gs V) : Two S w f0 s0 m j k Fs Gs V.drew := h.below (Below.refl _ _).drew
theorem Two.alloc (h : Two S w f0 s0 m j k Fs Gs V) (o : Obj) : Two S w f0 s0 m j k Fs Gs (V.alloc o) := h.below ((Below.refl _ _).alloc (Nat.le_refl _) o)
theorem Two.past (h : Two S w f0 s0 m j k Fs Gs V) (hf : FldP V' (some ⟨S.g, 0, none⟩)) (hp : Past V.heap.size S.g V V') : Two S w f0 s0 m j k Fs Gs V' :=
 ⟨h.kp.go hf hp, Mat.own_keep h.f (by decide) h.kp.fld hp, Mat.own_keep h.g (by decide) h.kp.fld hp, h.fl, h.gl, h.fo.past h.kp.fld hp, h.go.past h.kp.fld hp⟩
theorem LstO.put {B r i : Nat} {t : TypeId} {v : Value} {xs : List Value} {n : Nat} {l : List El} (h : LstO V B l) (h2 : OwnK 1 V B t (.slice (some ⟨r, 0, none⟩) n n) n xs) (ht : 5 ≠ t) : LstO (V.setCell ⟨r, i, none⟩ v) B l := fun e he =>
 Own.far (h e he) (p := ⟨r, i, none⟩) (by
  rcases own_apart (h e he) h2 ht with h3 | h3
  ·rw [h3]; simp
  ·exact h3) v
theorem own_K {B n r : Nat} {t : TypeId} {xs : List Value} (h : Own V B t (.slice (some ⟨r, 0, none⟩) n n) xs) (hn : xs.length = n) : OwnK 1 V B t (.slice (some ⟨r, 0, none⟩) n n) n xs := by
 unfold Own at h; rw [hn] at h; exact h
theorem set_take {i : Nat} {l : List El} {e : El} (h : i < l.length) : (l.set i e).take (i + 1) = l.take i ++ [e] := by
 rw [List.take_succ_eq_append_getElem (by rw [List.length_set]; omega), List.getElem_set_self, List.take_set_of_le (Nat.le_refl _)]
theorem own_cell1 {B : Nat} {t : TypeId} {r n i : Nat} {l : List El} {e : El} (h : Own V B t (.slice (some ⟨r, 0, none⟩) n n) (cells1 l)) (hl : l.length = n) (he : l[i]? = some e) : V.cell? ⟨r, i, none⟩ = some e.v := by
 have hi : i < l.length := (List.getElem?_eq_some_iff.1 he).1
 rw [Own.cellAt h (by rw [cells1_length, hl]) i (by rw [cells1_length]; exact hi)]
 have : (cells1 l)[i]? = some e.v := by simp [cells1, he]
 rw [← List.getElem?_eq_getElem]; exact this
theorem Two.setF (h : Two S w f0 s0 m j k Fs Gs V) (hw : S.Ok w) (hne : f0 ≠ s0) (hj : j < m) {e : El} (he : Own V w.heap.size 5 e.v (bv (bs e.s))) : Two S w f0 s0 m (j + 1) k (Fs.set j e) Gs (V.setCell ⟨f0, j, none⟩ e.v) := by
 have hk := own_K h.f (by rw [cells1_length, h.fl])
 have hB : w.heap.size ≤ f0 := (h.f.lt f0 rfl).1
 refine ⟨Kp.later hw h.kp ((Below.refl _ _).setCell (p := ⟨f0, j, none⟩) hB _), ?_, Own.far h.g (p := ⟨f0, j, none⟩) (by simp [Value.ownBlock]; exact Ne.symm hne) _, by rw [List.length_set, h.fl], h.gl, ?_, h.go.put hk (by decide)⟩
 ·have := Own.set_ h.f (by rw [cells1_length, h.fl]) j e.v
  rwa [show (cells1 Fs).set j e.v = cells1 (Fs.set j e) by simp [cells1, List.map_set]] at this
 ·rw [set_take (by rw [h.fl]; exact hj)]
  exact (h.fo.append (LstO.one he)).put hk (by decide)
theorem Two.setG (h : Two S w f0 s0 m j k Fs Gs V) (hw : S.Ok w) (hne : f0 ≠ s0) (hk2 : k < m) {e : El} (he : Own V w.heap.size 5 e.v (bv (bs e.s))) : Two S w f0 s0 m j (k + 1) Fs (Gs.set k e) (V.setCell ⟨s0, k, none⟩ e.v) := by
 have hk := own_K h.g (by rw [cells1_length, h.gl])
 have hB : w.heap.size ≤ s0 := (h.g.lt s0 rfl).1
 refine ⟨Kp.later hw h.kp ((Below.refl _ _).setCell (p := ⟨s0, k, none⟩) hB _), Own.far h.f (p := ⟨s0, k, none⟩) (by simp [Value.ownBlock]; exact hne) _, ?_, h.fl, by rw [List.length_set, h.gl], h.fo.put hk (by decide), ?_⟩
 ·have := Own.set_ h.g (by rw [cells1_length, h.gl]) k e.v
  rwa [show (cells1 Gs).set k e.v = cells1 (Gs.set k e) by simp [cells1, List.map_set]] at this
 ·rw [set_take (by rw [h.gl]; exact hk2)]
  exact (h.go.append (LstO.one he)).put hk (by decide)
end
end Go.Proofs.YtofihklinkpbiaaGreat.Ms
