/- What the definition's Pick does. -/
import Derived.Test.YtidelegamdibgaaMatRefB
import Derived.Test.YtidelegamdibgaaMatPick
namespace Go.Proofs.Ytidelegamdibgaa.Mat
open Go.RowKit F8 Poly GF
attribute [local go_sem] Oper.semAt_some

set_option maxRecDepth 100000 in
set_option maxHeartbeats 1000000 in
theorem refPick_bad (R C : Int) (A Aat : Option Addr) (n cap na ca : Nat) (h : RightB R C n = false) (w : World) :
    Calls Try.prog 15 #[.agg #[.int .i64 R, .int .i64 C, .slice A n cap], .slice Aat na ca] w fun e w' => MatResE w w' e 0 0 [] 50 := by
  obtain ⟨wa, hwa, HQ, hsa⟩ := qr2 w (.int .i64 R) (.int .i64 C) (.slice A n cap) (.int .i64 0) (.int .i64 0) (.slice none 0 0)
  obtain ⟨x0, x1, x2⟩ := HQ.at_ (b := w.heap.size) (x := .int .i64 R) (y := .int .i64 C) (z := .slice A n cap) (by simp)
  have HR := Lib.hid h
  have hfin : ∀ V, QR w [(w.heap.size + 1, #[.int .i64 0, .int .i64 0, .slice none 0 0]), (w.heap.size, #[.int .i64 R, .int .i64 C, .slice A n cap])] V → Block V (w.heap.size + 1) 33 #[.int .i64 0, .int .i64 0, .slice none 0 0] ∧ Below w.heap.size w V := fun V hV => ⟨hV.bl (w.heap.size + 1, #[.int .i64 0, .int .i64 0, .slice none 0 0]) (by simp), hV.bel⟩
  clear h
  go_enter Try.func15, Try.ntmps15
  go_wp2_with fail
  clear hwa hsa x0 x1 x2
  refine (refRight_calls R C A n cap _).mono ?_
  rintro e w1 ⟨rfl, hB⟩
  have HQ := HQ.below hB
  clear hB
  rw [HR.out]
  obtain ⟨hb, hbel⟩ := hfin _ HQ
  obtain ⟨s0, s1, s2⟩ := cells3 hb
  have f0 := hb.frozen 0
  have f1 := hb.frozen 1
  have f2 := hb.frozen 2
  clear hfin HQ
  go_wp2
  refine bodyPost_ret (v := .tuple #[.agg #[.int .i64 0, .int .i64 0, .slice none 0 0], .int .i64 50]) (by simp [results, Try.results15, go_sem, s0, s1, s2]) rfl ?_
  exact ⟨none, 0, rfl, Nat.le_refl _, Own.nil _ _ _, below_set3 hbel (by omega) _ _ _⟩

set_option maxRecDepth 100000 in
set_option maxHeartbeats 2000000 in
theorem refPick_calls (r c N cap na ca : Nat) (A Aat : Option Addr) (s : List F8) (zs : List Int) (hr : r ≤ 100) (hc : c ≤ 100) (hN : r * c = N) (hcap : N ≤ cap) (hl : s.length = N) (hna : zs.length = na) (hna2 : na ≤ 100) (w : World) (hb : Bytes w A (bs s)) (hz : Row w Aat (zv zs)) :
    Calls Try.prog 15 #[.agg #[.int .i64 r, .int .i64 c, .slice A N cap], .slice Aat na ca] w (PickRes r c s zs w) := by
  have HR : Hid (RightB r c N = true) := Lib.hid (rightB_iff.2 ⟨r, c, rfl, rfl, by omega, by omega, hN.symm⟩)
  have hN9 : N ≤ 10000 := by rw [← hN]; exact mul_bound hr hc
  obtain ⟨M, hM⟩ : ∃ M, na * c = M := ⟨_, rfl⟩
  have hM9 : M ≤ 10000 := by rw [← hM]; exact mul_bound hna2 hc
  have hwm := wrap_mul hM (by omega)
  have h1 : decide (65536 < (na : Int)) = false := by simp; omega
  have h2 : decide (16777216 < (M : Int)) = false := by simp; omega
  have hmx : Try.prog.follows .mixedOrders = true := by kernel_rfl
  have hbl : ∀ k, k < r → (k + 1) * c ≤ N := fun k hk => by rw [← hN]; exact Nat.mul_le_mul_right c (by omega)
  have HBL := Lib.hid hbl
  obtain ⟨pos, hpos⟩ : ∃ f : Nat → Nat, (fun k => (zs.getD k 0).toNat) = f := ⟨_, rfl⟩
  have HPos : Hid (∀ k, pos k = (zs.getD k 0).toNat) := Lib.hid (fun k => by rw [← hpos])
  have HPosE := Lib.hid hpos
  have HB := Lib.hid hb
  have HZ := Lib.hid hz
  have HL := Lib.hid hl
  have HN := Lib.hid hN
  have HNa := Lib.hid hna
  have HCb : Hid (∀ k, k ≤ na → k * c ≤ 10000) := Lib.hid (fun k hk => mul_bound (show k ≤ 100 by omega) hc)
  obtain ⟨wa, hwa, HQ, hsa⟩ := qr2 w (.int .i64 r) (.int .i64 c) (.slice A N cap) (.int .i64 0) (.int .i64 0) (.slice none 0 0)
  obtain ⟨x0, x1, x2⟩ := HQ.at_ (b := w.heap.size) (x := .int .i64 r) (y := .int .i64 c) (z := .slice A N cap) (by simp)
  clear hb hz hl hN hna hM hbl hpos
  go_enter Try.func15, Try.ntmps15
  go_wp2_with fail
  clear hwa hsa x0 x1 x2
  refine (refRight_calls r c A N cap _).mono ?_
  rintro e w1 ⟨rfl, hB⟩
  have HQ := HQ.below hB
  clear hB
  rw [HR.out]
  obtain ⟨x0, x1, x2⟩ := HQ.at_ (b := w.heap.size) (x := .int .i64 r) (y := .int .i64 c) (z := .slice A N cap) (by simp)
  have HW := Lib.hid (RA.start HQ na c)
  clear HQ
  go_wp2_with fail
  clear x0 x1 x2 hwm h1 h2
  obtain ⟨bv_, hbv⟩ : ∃ b, w1.heap.size = b := ⟨_, rfl⟩
  rw [hbv] at HW ⊢
  clear hbv
  go_loopw [7] (fun i wr => ∃ (k : Nat) (A7 : Option Addr) (n7 c7 : Nat) (X : List F8), k ≤ na ∧ i = .int .i64 k ∧ Hid (X = partL s c 0 pos k) ∧ Hid (∀ j, j < k → pos j < r) ∧ Hid (∀ z ∈ zs.take k, 0 ≤ z ∧ z < (r : Int)) ∧ Hid (RA w [(w.heap.size + 1, #[.int .i64 0, .int .i64 0, .slice none 0 0]), (w.heap.size, #[.int .i64 r, .int .i64 c, .slice A N cap])] bv_ na c A7 n7 c7 X wr)) (fun i _ => na - (intOf i).toNat)
  case atStart => exact ⟨0, none, 0, 0, [], Nat.zero_le _, rfl, Lib.hid rfl, Lib.hid (fun j h => by omega), Lib.hid (fun z hz => by simp at hz), HW⟩
  case round =>
    clear HW
    obtain ⟨k, A7, n7, c7, X, hk, rfl, HX, HI, HA, HW⟩ := hrel
    by_cases hkk : k < na
    · have hkz : k < zs.length := by rw [HNa.out]; exact hkk
      obtain ⟨x0, x1, x2⟩ := HW.out.at_ (k := w.heap.size) (x := .int .i64 r) (y := .int .i64 c) (z := .slice A N cap) (by simp)
      obtain ⟨b4, o4, rfl, hcell⟩ := (HZ.out.below HW.out.bel) k (.int .i64 zs[k]) (by simp [zv, hkz])
      have htk : zs.take (k + 1) = zs.take k ++ [zs[k]] := take_succ' zs hkz
      have hmem : zs[k] ∈ zs := List.getElem_mem hkz
      have hpk : pos k = zs[k].toNat := by rw [HPos.out, List.getD_eq_getElem?_getD, List.getElem?_eq_getElem hkz]; rfl
      obtain ⟨z, hz⟩ : ∃ z, zs[k] = z := ⟨_, rfl⟩
      have hzk : (zv zs)[k]? = some (.int .i64 zs[k]) := by simp [zv, hkz]
      rw [hz] at hcell htk hmem hpk hzk
      have HZk := Lib.hid hzk
      clear hzk
      have HTk := Lib.hid htk
      have HMem := Lib.hid hmem
      have HPk := Lib.hid hpk
      clear htk hz hmem hkz hpk
      by_cases h0 : z < 0
      · have d1 : decide (z < 0) = true := by simpa using h0
        have HBad : Hid (¬ AllIn zs r) := Lib.hid (fun h => by have := (h z HMem.out).1; omega)
        obtain ⟨z0, z1, z2⟩ := HW.out.at_ (k := w.heap.size + 1) (x := .int .i64 0) (y := .int .i64 0) (z := .slice none 0 0) (by simp)
        clear h0
        go_wp2_with fail
        go_region
        have hb := (HW.out.bl (w.heap.size + 1, #[.int .i64 0, .int .i64 0, .slice none 0 0]) (by simp)).1
        have hbd := hb.below (Below.drewN' (Below.refl _ _) 1) hb.lt
        have hbel := (HW.out.drewN 1).bel
        obtain ⟨s0, s1, s2⟩ := cells3 hb
        have f0 := hb.frozen 0
        have f1 := hb.frozen 1
        have f2 := hb.frozen 2
        go_wp2
        refine bodyPost_ret (v := .tuple #[.agg #[.int .i64 0, .int .i64 0, .slice none 0 0], .int .i64 2]) (by simp [results, Try.results15, go_sem, s0, s1, s2]) rfl ?_
        exact .inl ⟨HBad.out, none, 0, rfl, Nat.le_refl _, Own.nil _ _ _, below_set3 hbel (by omega) _ _ _⟩
      · have d1 : decide (z < 0) = false := by simpa using h0
        by_cases h1 : (r : Int) ≤ z
        · have d2 : decide ((r : Int) ≤ z) = true := by simpa using h1
          have HBad : Hid (¬ AllIn zs r) := Lib.hid (fun h => by have := (h z HMem.out).2; omega)
          clear h0 h1
          go_wp2_with fail
          go_region
          have hb := (HW.out.bl (w.heap.size + 1, #[.int .i64 0, .int .i64 0, .slice none 0 0]) (by simp)).1
          have hbel := (HW.out.drewN 1).bel
          obtain ⟨s0, s1, s2⟩ := cells3 hb
          have f0 := hb.frozen 0
          have f1 := hb.frozen 1
          have f2 := hb.frozen 2
          go_wp2
          refine bodyPost_ret (v := .tuple #[.agg #[.int .i64 0, .int .i64 0, .slice none 0 0], .int .i64 2]) (by simp [results, Try.results15, go_sem, s0, s1, s2]) rfl ?_
          exact .inl ⟨HBad.out, none, 0, rfl, Nat.le_refl _, Own.nil _ _ _, below_set3 hbel (by omega) _ _ _⟩
        · have d2 : decide ((r : Int) ≤ z) = false := by simpa using h1
          obtain ⟨q, rfl⟩ : ∃ q : Nat, z = q := ⟨z.toNat, by omega⟩
          have hqr : q < r := by omega
          have hpq : pos k = q := by rw [HPk.out]; simp
          have d3 : decide (r ≤ q) = false := by simp; omega
          have HCell : Hid (∀ V, Row V (some ⟨b4, o4, none⟩) (zv zs) → V.cell? ⟨b4, o4 + k, none⟩ = some (.int .i64 (q : Nat))) := Lib.hid (fun V hV => by
            obtain ⟨b5, o5, e5, h5⟩ := hV k (.int .i64 (q : Nat)) HZk.out
            cases e5; exact h5)
          have hrow := HBL.out q hqr
          have hrl : (rowL s c q).length = c := rowL_length (by rw [HL.out]; exact hrow)
          rw [Nat.succ_mul] at hrow
          obtain ⟨lo, hlo⟩ : ∃ x, q * c = x := ⟨_, rfl⟩
          obtain ⟨hi, hhi⟩ : ∃ x, lo + c = x := ⟨_, rfl⟩
          rw [hlo, hhi] at hrow
          obtain ⟨A3, hrun, hb3⟩ := slice_mid (HB.out.below HW.out.bel) N cap lo hi c HL.out hhi hrow hcap
          have hb3' : Bytes wr A3 (bs (rowL s c q)) := by unfold rowL; rw [hlo]; exact hb3
          have hw1 := wrap_mul hlo (by omega)
          have hw2 : IntKind.i64.wrap ((lo : Int) + (c : Int)) = (hi : Int) := by
            have e : (lo : Int) + (c : Int) = (hi : Int) := by omega
            rw [e]; exact IntWalk.i64_in _ (by omega)
          have HX2 : Hid (X ++ rowL s c q = partL s c 0 pos (k + 1)) := Lib.hid (by
            rw [HX.out]
            show _ = partL s c 0 pos k ++ (rowL s c (pos k)).drop 0
            rw [hpq, List.drop_zero])
          have HI2 : Hid (∀ j, j < k + 1 → pos j < r) := Lib.hid (fun j hj => by
            by_cases e : j = k
            · rw [e, hpq]; exact hqr
            · exact HI.out j (by omega))
          have HA2 : Hid (∀ z ∈ zs.take (k + 1), 0 ≤ z ∧ z < (r : Int)) := Lib.hid (fun z hz => by
            rw [HTk.out] at hz
            rcases List.mem_append.1 hz with h | h
            · exact HA.out z h
            · simp only [List.mem_singleton] at h; subst h; omega)
          have hlen : n7 ≤ 10000 := by
            have h1 := HW.out.len
            rw [HX.out, partL_length (fun j hj => by rw [HL.out]; exact HBL.out _ (HI.out j hj))] at h1
            have := HCb.out k hk
            simp at h1
            omega
          have HLEN := Lib.hid hlen
          have HB3 := Lib.hid hb3'
          have HRL := Lib.hid hrl
          clear hb3 hb3' hrl hlo hhi hlen hpq h0 h1 hqr
          go_wp2_with fail
          go_region
          have HB3 := Lib.hid (show Bytes wr.drew A3 (bs (rowL s c q)) from HB3.out.below (Below.drewN' (Below.refl _ wr) 1))
          have hcd := (show Row wr.drew (some ⟨b4, o4, none⟩) (zv zs) from (HZ.out.below HW.out.bel).below (Below.drewN' (Below.refl _ wr) 1))
          have HCD := Lib.hid hcd
          have HW := Lib.hid HW.out.drew
          clear hcd x0 x1 x2 hcell
          generalize wr.drew = wd0 at *
          obtain ⟨x0, x1, x2⟩ := HW.out.at_ (k := w.heap.size) (x := .int .i64 r) (y := .int .i64 c) (z := .slice A N cap) (by simp)
          obtain ⟨z0, z1, z2⟩ := cells3 HW.out.box
          have hcell := HCell.out wd0 HCD.out
          go_wp2_with fail
          refine wp_region_still_tail 22 hmx (by kernel_rfl) ?_
          simp only [List.take_succ_cons, List.take_zero, List.drop_succ_cons, List.drop_zero]
          iterate 22 still_step
          refine wpStill_nil ?_
          clear x0 x1 x2 z0 z1 z2 hw1 hw2 hrun hcell
          show wpList _ _ _ _ _ wd0.drew
          have hdr := HW.out.drew
          have hb3d := (show Bytes wd0.drew A3 (bs (rowL s c q)) from HB3.out.below (Below.drewN' (Below.refl _ wd0) 1))
          generalize wd0.drew = wd at *
          refine wpList_app (w := wd) rfl (.tmp 52) (.tmp 72) 22 rfl w.heap.size 5 (.int .u8 0) 1 Try.underlying22 info_u8 rfl (by decide) (.slice A7 n7 c7) _ rfl hdr.own A3 c (cap - lo) (bv (bs (rowL s c q))) rfl (by rw [bvs_length, HRL.out]) hb3d.row (bv_one _) (by have := HLEN.out; rw [bvs_length, hdr.len]; omega) hdr.bel.size ?_
          intro v' w3 hown hgr _
          obtain ⟨A8, c8, rfl, hcel, hfro, hRA⟩ := hdr.app hown hgr
          rw [HRL.out] at hRA ⊢
          obtain ⟨w4, hw4⟩ : ∃ v, w3.setCell ⟨bv_, 2, none⟩ (.slice A8 (n7 + c) c8) = v := ⟨_, rfl⟩
          rw [hw4] at hRA
          have HW2 := Lib.hid hRA
          clear hdr hown hgr hRA hb3d HW
          go_wp2
          go_roundw
          case rel => exact ⟨k + 1, _, _, _, _, by omega, by go_num, HX2, HI2, HA2, HW2⟩
          case measure => simp [intOf]; omega
    · have ekn : na = k := by omega
      subst ekn
      have HAll : Hid (AllIn zs r) := Lib.hid (fun z hz => HA.out z (by rw [List.take_of_length_le (by rw [HNa.out]; exact Nat.le_refl _)]; exact hz))
      obtain ⟨z0, z1, z2⟩ := cells3 HW.out.box
      obtain ⟨y0, y1, y2⟩ := HW.out.at_ (k := w.heap.size + 1) (x := .int .i64 0) (y := .int .i64 0) (z := .slice none 0 0) (by simp)
      have f0 := HW.out.froz (k := w.heap.size + 1) (cs := #[.int .i64 0, .int .i64 0, .slice none 0 0]) (by simp) 0
      have f1 := HW.out.froz (k := w.heap.size + 1) (cs := #[.int .i64 0, .int .i64 0, .slice none 0 0]) (by simp) 1
      have f2 := HW.out.froz (k := w.heap.size + 1) (cs := #[.int .i64 0, .int .i64 0, .slice none 0 0]) (by simp) 2
      obtain ⟨V, hV, r0, r1, r2, h1, h2⟩ := HW.out.ret (k := w.heap.size + 1) (x0 := .int .i64 0) (y0 := .int .i64 0) (z0 := .slice none 0 0) (by omega) (by simp)
      have hl := HW.out.len
      have hc7 : X.length ≤ c7 := by
        obtain ⟨A9, c9, e9, hc9⟩ := Own.shape h1
        injection e9 with e1 e2 e3
        rw [e3]; exact hc9
      have HLn := Lib.hid hl
      clear hl
      go_wp2
      refine bodyPost_ret (v := .tuple #[.agg #[.int .i64 na, .int .i64 c, .slice A7 n7 c7], .int .i64 0]) (by simp [results, Try.results15, go_sem, r0, r1, r2]) rfl ?_
      refine .inr ⟨HAll.out, ?_⟩
      rw [HPosE.out, HNa.out, ← HX.out]
      exact ⟨A7, c7, by rw [HLn.out], hc7, by rw [HLn.out]; exact h1, h2⟩
end Go.Proofs.Ytidelegamdibgaa.Mat
