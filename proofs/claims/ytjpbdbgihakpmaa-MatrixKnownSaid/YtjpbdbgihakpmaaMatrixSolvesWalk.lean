/- The walk of MatrixSolves. -/
import Derived.Test.YtjpbdbgihakpmaaMatWorks
import Derived.Deep.RegionWith
import Derived.BigQuiet
namespace Go.Proofs.Ytjpbdbgihakpmaa.matrixSolves
open Go.RowKit F8 GF Poly Mat

set_option maxRecDepth 100000 in
set_option maxHeartbeats 8000000 in
theorem core (w : World) (Ra Ca : Int) (A : Option Addr) (s : List F8) (n1 c1 : Nat) (hl1 : s.length = n1) (hb1 : Bytes w A (bs s)) (hc1 : n1 ≤ c1)
  (Rb Cb : Int) (B : Option Addr) (t : List F8) (n2 c2 : Nat) (hl2 : t.length = n2) (hb2 : Bytes w B (bs t)) (hc2 : n2 ≤ c2)
  (Rc Cc : Int) (C : Option Addr) (u : List F8) (n3 c3 : Nat) (hl3 : u.length = n3) (hb3 : Bytes w C (bs u)) (hc3 : n3 ≤ c3) :
  Calls Try.prog 15 #[.agg #[.int .i64 Ra, .int .i64 Ca, .slice A n1 c1], .agg #[.int .i64 Rb, .int .i64 Cb, .slice B n2 c2], .agg #[.int .i64 Rc, .int .i64 Cc, .slice C n3 c3]] w fun e w' => e = .returned (.bool true) ∧ Below w.heap.size w w' := by
 obtain ⟨wa, hwa, HQ⟩ := st3 w Ra Ca A n1 c1 Rb Cb B n2 c2 Rc Cc C n3 c3
 have HL1 := Lib.hid hl1
 have HB1 := Lib.hid hb1
 obtain ⟨b1, HS1⟩ : ∃ b, Hid (smallB Ra Ca n1 8 = b) := ⟨_, Lib.hid rfl⟩
 have HL2 := Lib.hid hl2
 have HB2 := Lib.hid hb2
 obtain ⟨b2, HS2⟩ : ∃ b, Hid (smallB Rb Cb n2 8 = b) := ⟨_, Lib.hid rfl⟩
 have HL3 := Lib.hid hl3
 have HB3 := Lib.hid hb3
 obtain ⟨b3, HS3⟩ : ∃ b, Hid (smallB Rc Cc n3 8 = b) := ⟨_, Lib.hid rfl⟩
 clear hl1 hb1 hl2 hb2 hl3 hb3
 obtain ⟨qa0, qa1, qa2⟩ := HQ.at_ (b := w.heap.size) (R := Ra) (C := Ca) (A := A) (n := n1) (c := c1) (by simp)
 go_enter Try.func15, Try.ntmps15
 go_wp2_with fail
 clear hwa
 clear qa0 qa1 qa2
 refine (small8 Ra Ca A n1 c1 _).mono ?_
 rintro e v1 ⟨rfl, hB⟩
 have HQ := HQ.below hB
 clear hB
 rw [HS1.out]
 cases b1
 case false =>
  go_wp2_with (go_at_call 23; (with_reducible refine (works_calls _).mono ?_); rintro e wz ⟨rfl, HZ⟩)
  go_ret
  exact ⟨rfl, (HQ.below HZ).bel⟩
 case true =>
  obtain ⟨qb0, qb1, qb2⟩ := HQ.at_ (b := w.heap.size + 1) (R := Rb) (C := Cb) (A := B) (n := n2) (c := c2) (by simp)
  go_wp2_with fail
  clear qb0 qb1 qb2
  refine (small8 Rb Cb B n2 c2 _).mono ?_
  rintro e v2 ⟨rfl, hB⟩
  have HQ := HQ.below hB
  clear hB
  rw [HS2.out]
  cases b2
  case false =>
   go_wp2_with (go_at_call 23; (with_reducible refine (works_calls _).mono ?_); rintro e wz ⟨rfl, HZ⟩)
   go_ret
   exact ⟨rfl, (HQ.below HZ).bel⟩
  case true =>
   obtain ⟨qc0, qc1, qc2⟩ := HQ.at_ (b := w.heap.size + 2) (R := Rc) (C := Cc) (A := C) (n := n3) (c := c3) (by simp)
   go_wp2_with fail
   clear qc0 qc1 qc2
   refine (small8 Rc Cc C n3 c3 _).mono ?_
   rintro e v3 ⟨rfl, hB⟩
   have HQ := HQ.below hB
   clear hB
   rw [HS3.out]
   cases b3
   case false =>
    go_wp2_with (go_at_call 23; (with_reducible refine (works_calls _).mono ?_); rintro e wz ⟨rfl, HZ⟩)
    go_ret
    exact ⟨rfl, (HQ.below HZ).bel⟩
   case true =>
    by_cases hra : ¬ RightB Ra Ca n1 = true
    ·have HRa : Hid (RightB Ra Ca n1 = false) := Lib.hid (by simpa using hra)
     clear hra
     obtain ⟨qa0, qa1, qa2⟩ := HQ.at_ (b := w.heap.size) (R := Ra) (C := Ca) (A := A) (n := n1) (c := c1) (by simp)
     go_wp2_with fail
     clear qa0 qa1 qa2
     refine (right_calls Ra Ca A n1 c1 _).mono ?_
     rintro e v4 ⟨rfl, hB⟩
     have HQ := HQ.below hB
     clear hB
     rw [HRa.out]
     go_wp2_with (go_at_call 23; (with_reducible refine (works_calls _).mono ?_); rintro e wz ⟨rfl, HZ⟩)
     go_ret
     exact ⟨rfl, (HQ.below HZ).bel⟩
    have HRa := Lib.hid (Classical.not_not.1 hra)
    clear hra
    obtain ⟨sra, sca, sna⟩ := small_le HS1.out
    obtain ⟨r, n, rfl, rfl, k1, k2, k3⟩ := rightB_iff.1 HRa.out
    have hr8 : r ≤ 8 := by omega
    have hn8 : n ≤ 8 := by omega
    have K3 := Lib.hid k3
    have hl1 : s.length = r * n := by rw [HL1.out, k3]
    clear k1 k2 k3 sra sca sna
    obtain ⟨qa0, qa1, qa2⟩ := HQ.at_ (b := w.heap.size) (R := r) (C := n) (A := A) (n := n1) (c := c1) (by simp)
    go_wp2_with fail
    clear qa0 qa1 qa2
    refine (right_calls r n A n1 c1 _).mono ?_
    rintro e v4 ⟨rfl, hB⟩
    have HQ := HQ.below hB
    clear hB
    rw [HRa.out]
    go_wp2_with fail
    refine (HQ.new).mono ?_
    rintro e v5 ⟨rfl, HN⟩
    have HW := Lib.hid (((HN.arg HB1.out).arg HB2.out).arg HB3.out)
    clear HN HQ
    obtain ⟨srb, scb, snb⟩ := small_le HS2.out
    obtain ⟨src, scc, snc⟩ := small_le HS3.out
    obtain ⟨k, hkr, hk⟩ := RankIs.exists r (ent s n) (Nat.le_refl n)
    have hkn := hk.le_cols
    have HK := Lib.hid hk
    clear hk
    obtain ⟨qa0, qa1, qa2⟩ := HW.out.at_ (b := w.heap.size) (R := r) (C := n) (A := A) (n := n1) (c := c1) (by simp)
    go_wp2_with fail
    clear qa0 qa1 qa2
    refine (rankW_is HW.out r n n1 c1 k A s (by simp) (by omega) (by omega) K3.out.symm HL1.out HK.out).mono ?_
    rintro e v6 ⟨rfl, HN⟩
    have HW := Lib.hid HN
    clear HN
    obtain ⟨qa0, qa1, qa2⟩ := HW.out.at_ (b := w.heap.size) (R := r) (C := n) (A := A) (n := n1) (c := c1) (by simp)
    obtain ⟨mn, hmn⟩ : ∃ mn : Int, (if n < r then (n : Int) else (r : Int)) = mn := ⟨_, rfl⟩
    have hmn2 : (if (n : Int) < (r : Int) then (n : Int) else (r : Int)) = mn := by rw [← hmn]; simp only [Int.ofNat_lt]
    have hmin : decide (mn < (k : Int)) = false := by rw [← hmn]; simp; split <;> omega
    by_cases x1 : ¬ Fits r n n1 Rb Cb n2
    ·have HX := Lib.hid x1
     clear x1
     obtain ⟨qb0, qb1, qb2⟩ := HW.out.at_ (b := w.heap.size + 1) (R := Rb) (C := Cb) (A := B) (n := n2) (c := c2) (by simp)
     go_wp2_with fail
     clear hmin hmn hmn2
     clear qa0 qa1 qa2 qb0 qb1 qb2
     refine (mulW_bad HW.out r n Rb Cb n1 n2 c1 c2 A B HX.out).mono ?_
     rintro e v7 ⟨A1, d1, rfl, -, HN⟩
     obtain ⟨v7x, hvv7x, -, HN⟩ := HN.var 0 0 A1 0 d1
     have HW := Lib.hid HN
     clear HN
     obtain ⟨qa0, qa1, qa2⟩ := HW.out.at_ (b := w.heap.size) (R := r) (C := n) (A := A) (n := n1) (c := c1) (by simp)
     obtain ⟨qc0, qc1, qc2⟩ := HW.out.at_ (b := w.heap.size + 2) (R := Rc) (C := Cc) (A := C) (n := n3) (c := c3) (by simp)
     by_cases x2 : ¬ (RightB r n n1 = true ∧ RightB Rc Cc n3 = true ∧ (r : Int) = Rc)
     ·have HX2 := Lib.hid x2
      clear x2
      go_wp2_with fail
      clear hvv7x
      clear qa0 qa1 qa2 qc0 qc1 qc2
      refine (solveW_bad HW.out r n Rc Cc n1 n3 c1 c3 A C HX2.out).mono ?_
      rintro e v8 ⟨A3, d3, rfl, -, HN⟩
      obtain ⟨v8x, hvv8x, -, HN⟩ := HN.var 0 0 A3 0 d3
      have HW := Lib.hid HN
      clear HN
      obtain ⟨qa0, qa1, qa2⟩ := HW.out.at_ (b := w.heap.size) (R := r) (C := n) (A := A) (n := n1) (c := c1) (by simp)
      by_cases hrn : ¬ r = n
      ·have hne : ((r : Int) != (n : Int)) = true := by simp; omega
       have HX9 : Hid (¬ (RightB r n n1 = true ∧ (r : Int) = (n : Int))) := Lib.hid (by rintro ⟨_, h⟩; omega)
       clear hrn
       go_wp2_with fail
       clear hvv8x
       clear qa0 qa1 qa2
       refine (inverseW_bad HW.out r n A n1 c1 HX9.out).mono ?_
       rintro e v9 ⟨A5, d5, rfl, -, HN⟩
       obtain ⟨v9x, hvv9x, -, HN⟩ := HN.var 0 0 A5 0 d5
       have HW := Lib.hid HN
       clear HN
       obtain ⟨qa0, qa1, qa2⟩ := HW.out.at_ (b := w.heap.size) (R := r) (C := n) (A := A) (n := n1) (c := c1) (by simp)
       go_wp2_with (go_at_call 23; (with_reducible refine (works_calls _).mono ?_); rintro e wz ⟨rfl, HZ⟩)
       go_ret
       exact ⟨rfl, (HW.out.below HZ).bel⟩
      obtain rfl := Classical.not_not.1 hrn
      clear hrn
      have hne : ((r : Int) != (r : Int)) = false := by simp
      have hne2 : ((r : Int) == (r : Int)) = true := by simp
      by_cases hfl : ¬ k = r
      ·skip
       have HX9 : Hid (¬ ∃ X, Sol r r r (ent s r) (ent (flat r r oneF) r) X) := Lib.hid (fun h => hfl ((sol_inv_iff HK.out r).1 h))
       have hltN : k < r := by omega
       have hlt : decide ((k : Int) < (r : Int)) = true := by simp; omega
       clear hfl
       go_wp2_with fail
       clear hvv8x
       clear qa0 qa1 qa2
       refine (inverseW_no HW.out r n1 c1 A s (by simp) (by omega) K3.out.symm hc1 HL1.out HX9.out).mono ?_
       rintro e v9 ⟨A5, d5, rfl, -, HN⟩
       obtain ⟨v9x, hvv9x, -, HN⟩ := HN.var 0 0 A5 0 d5
       have HW := Lib.hid HN
       clear HN
       obtain ⟨qa0, qa1, qa2⟩ := HW.out.at_ (b := w.heap.size) (R := r) (C := r) (A := A) (n := n1) (c := c1) (by simp)
       go_wp2_with (go_at_call 23; (with_reducible refine (works_calls _).mono ?_); rintro e wz ⟨rfl, HZ⟩)
       go_ret
       exact ⟨rfl, (HW.out.below HZ).bel⟩
      have hfl := Classical.not_not.1 hfl
      obtain ⟨Y, hY⟩ := (sol_inv_iff HK.out (b := ent (flat r r oneF) r) r).2 hfl
      have hkb2 : ((k : Int) == (r : Int)) = true := by simp; omega
      obtain ⟨V, hV⟩ : ∃ z, flat r r Y = z := ⟨_, rfl⟩
      obtain ⟨I, hI⟩ : ∃ z, flat r r oneF = z := ⟨_, rfl⟩
      have HLV : Hid (V.length = n1) := Lib.hid (by rw [← hV, flat_length]; exact K3.out.symm)
      have HLI : Hid (I.length = n1) := Lib.hid (by rw [← hI, flat_length]; exact K3.out.symm)
      have HRt : Hid (flat r r (mulF r (ent s r) (ent V r)) = I) := Lib.hid (by rw [← hV, ← hI]; exact inv_right hY)
      have HLt : Hid (flat r r (mulF r (ent V r) (ent s r)) = I) := Lib.hid (by rw [← hV, ← hI]; exact inv_left hY)
      have HY := Lib.hid hY
      have HV := Lib.hid hV
      have HI := Lib.hid hI
      clear hY hV hI hfl
      go_wp2_with fail
      clear hvv8x
      clear qa0 qa1 qa2
      refine (inverseW_ok HW.out r n1 c1 A s V _ (by simp) (by omega) K3.out.symm hc1 HL1.out HY.out HV.out).mono ?_
      rintro e v9 ⟨A5, d5, rfl, hd5, HN⟩
      obtain ⟨v9x, hvv9x, -, HN⟩ := HN.var r r A5 n1 d5
      have HW := Lib.hid HN
      clear HN
      obtain ⟨qa0, qa1, qa2⟩ := HW.out.at_ (b := w.heap.size) (R := r) (C := r) (A := A) (n := n1) (c := c1) (by simp)
      obtain ⟨qv0, qv1, qv2⟩ := HW.out.at_ (b := v9.heap.size) (R := r) (C := r) (A := A5) (n := n1) (c := d5) (by simp)
      go_wp2_with fail
      clear hvv9x
      clear qa0 qa1 qa2 qv0 qv1 qv2
      refine (mulW HW.out r r r n1 n1 n1 c1 d5 A A5 s V I (by simp) (by simp) (by omega) (by omega) (by omega) K3.out.symm K3.out.symm K3.out.symm hc1 hd5 HL1.out HLV.out HRt.out).mono ?_
      rintro e v10 ⟨A6, d6, rfl, hd6, HN⟩
      obtain ⟨v10x, hvv10x, -, HN⟩ := HN.var r r A6 n1 d6
      have HW := Lib.hid HN
      clear HN
      obtain ⟨qv0, qv1, qv2⟩ := HW.out.at_ (b := v9.heap.size) (R := r) (C := r) (A := A5) (n := n1) (c := d5) (by simp)
      obtain ⟨qa0, qa1, qa2⟩ := HW.out.at_ (b := w.heap.size) (R := r) (C := r) (A := A) (n := n1) (c := c1) (by simp)
      go_wp2_with fail
      clear hvv10x
      clear qv0 qv1 qv2 qa0 qa1 qa2
      refine (mulW HW.out r r r n1 n1 n1 d5 c1 A5 A V s I (by simp) (by simp) (by omega) (by omega) (by omega) K3.out.symm K3.out.symm K3.out.symm hd5 hc1 HLV.out HL1.out HLt.out).mono ?_
      rintro e v11 ⟨A7, d7, rfl, hd7, HN⟩
      obtain ⟨v11x, hvv11x, -, HN⟩ := HN.var r r A7 n1 d7
      have HW := Lib.hid HN
      clear HN
      go_wp2_with fail
      clear hvv11x
      have hmx : Try.prog.follows .mixedOrders = true := by kernel_rfl
      obtain ⟨S, hSdef⟩ : ∃ S : World → Prop, S = fun V => Bx.In V ⟨w.heap.size, r, r, A, n1, c1⟩ ∧ Bx.In V ⟨v10.heap.size, r, r, A6, n1, d6⟩ ∧ Bx.In V ⟨v11.heap.size, r, r, A7, n1, d7⟩ := ⟨_, rfl⟩
      have hSi : ∀ V, Bx.In V ⟨w.heap.size, r, r, A, n1, c1⟩ → Bx.In V ⟨v10.heap.size, r, r, A6, n1, d6⟩ → Bx.In V ⟨v11.heap.size, r, r, A7, n1, d7⟩ → S V := fun V h0 h1 h2 => by rw [hSdef]; exact ⟨h0, h1, h2⟩
      have hSc : ∀ V, S V → (V.cell? ⟨w.heap.size, 0, none⟩ = some (.int .i64 r) ∧ V.cell? ⟨w.heap.size, 1, none⟩ = some (.int .i64 r) ∧ V.cell? ⟨w.heap.size, 2, none⟩ = some (.slice A n1 c1)) ∧ (V.cell? ⟨v10.heap.size, 0, none⟩ = some (.int .i64 r) ∧ V.cell? ⟨v10.heap.size, 1, none⟩ = some (.int .i64 r) ∧ V.cell? ⟨v10.heap.size, 2, none⟩ = some (.slice A6 n1 d6)) ∧ (V.cell? ⟨v11.heap.size, 0, none⟩ = some (.int .i64 r) ∧ V.cell? ⟨v11.heap.size, 1, none⟩ = some (.int .i64 r) ∧ V.cell? ⟨v11.heap.size, 2, none⟩ = some (.slice A7 n1 d7)) := fun V hV => by rw [hSdef] at hV; exact ⟨cells3 hV.1, cells3 hV.2.1, cells3 hV.2.2⟩
      clear hSdef
      have HW := Lib.hid HW.out.drew
      have hS1 : S v11x.drew := hSi _ (HW.out.bx ⟨w.heap.size, r, r, A, n1, c1⟩ (by simp)) (HW.out.bx ⟨v10.heap.size, r, r, A6, n1, d6⟩ (by simp)) (HW.out.bx ⟨v11.heap.size, r, r, A7, n1, d7⟩ (by simp))
      refine wp_region_held (S := S) hmx ?_
      refine wpAnyH_takeD (i := 0) (some 161) (.int .i64 k) rfl rfl (by kernel_rfl) (by kernel_rfl) (by kernel_rfl) (fun _ _ _ h => h) (Or.inl ⟨by kernel_rfl, fun W hW => by go_simp⟩) hS1 ?_
      simp only [Act.put, List.setIfInBounds_toArray, List.set_cons_zero, List.set_cons_succ]
      refine wpAnyH_takeD (i := 1) (some 162) (.pointer (some ⟨w.heap.size, 0, none⟩)) rfl rfl (by kernel_rfl) (by kernel_rfl) (by kernel_rfl) (fun _ _ _ h => h) (Or.inl ⟨by kernel_rfl, fun W hW => by go_simp⟩) hS1 ?_
      simp only [Act.put, List.setIfInBounds_toArray, List.set_cons_zero, List.set_cons_succ]
      refine wpAnyH_takeD (i := 2) (some 163) (.int .i64 r) rfl rfl (by kernel_rfl) (by kernel_rfl) (by kernel_rfl) (fun _ _ _ h => h) (Or.inl ⟨by kernel_rfl, fun W hW => by obtain ⟨⟨s00, s01, s02⟩, ⟨s10, s11, s12⟩, ⟨s20, s21, s22⟩⟩ := hSc W hW; go_simp⟩) hS1 ?_
      simp only [Act.put, List.setIfInBounds_toArray, List.set_cons_zero, List.set_cons_succ]
      refine wpAnyH_takeD (i := 3) (some 164) (.bool true) rfl rfl (by kernel_rfl) (by kernel_rfl) (by kernel_rfl) (fun _ _ _ h => h) (Or.inl ⟨by kernel_rfl, fun W hW => by go_simp⟩) hS1 ?_
      simp only [Act.put, List.setIfInBounds_toArray, List.set_cons_zero, List.set_cons_succ]
      refine wpAnyH_takeD (i := 4) (some 165) (.bool true) rfl rfl (by kernel_rfl) (by kernel_rfl) (by kernel_rfl) (fun _ _ _ h => h) (Or.inl ⟨by kernel_rfl, fun W hW => by go_simp⟩) hS1 ?_
      simp only [Act.put, List.setIfInBounds_toArray, List.set_cons_zero, List.set_cons_succ]
      refine wpAnyH_takeD (i := 5) (some 166) (.agg #[.int .i64 r, .int .i64 r, .slice A6 n1 d6]) rfl rfl (by kernel_rfl) (by kernel_rfl) (by kernel_rfl) (fun _ _ _ h => h) (Or.inl ⟨by kernel_rfl, fun W hW => by obtain ⟨⟨s00, s01, s02⟩, ⟨s10, s11, s12⟩, ⟨s20, s21, s22⟩⟩ := hSc W hW; go_simp⟩) hS1 ?_
      simp only [Act.put, List.setIfInBounds_toArray, List.set_cons_zero, List.set_cons_succ]
      refine wpAnyH_takeD (i := 6) (some 167) (.pointer (some ⟨w.heap.size, 0, none⟩)) rfl rfl (by kernel_rfl) (by kernel_rfl) (by kernel_rfl) (fun _ _ _ h => h) (Or.inl ⟨by kernel_rfl, fun W hW => by go_simp⟩) hS1 ?_
      simp only [Act.put, List.setIfInBounds_toArray, List.set_cons_zero, List.set_cons_succ]
      refine wpAnyH_takeD (i := 7) (some 168) (.int .i64 r) rfl rfl (by kernel_rfl) (by kernel_rfl) (by kernel_rfl) (fun _ _ _ h => h) (Or.inl ⟨by kernel_rfl, fun W hW => by obtain ⟨⟨s00, s01, s02⟩, ⟨s10, s11, s12⟩, ⟨s20, s21, s22⟩⟩ := hSc W hW; go_simp⟩) hS1 ?_
      simp only [Act.put, List.setIfInBounds_toArray, List.set_cons_zero, List.set_cons_succ]
      refine wpAnyH_one (i := 8) (by kernel_rfl) rfl (by kernel_rfl) ?_
      go_simp
      refine (oneW HW.out r n1 I (by omega) K3.out.symm HI.out).mono ?_
      rintro e v12 ⟨A8, d8, rfl, hd8, HN⟩
      have HW := Lib.hid HN
      clear HN
      have hS2 : S v12 := hSi _ (HW.out.bx ⟨w.heap.size, r, r, A, n1, c1⟩ (by simp)) (HW.out.bx ⟨v10.heap.size, r, r, A6, n1, d6⟩ (by simp)) (HW.out.bx ⟨v11.heap.size, r, r, A7, n1, d7⟩ (by simp))
      show S v12 ∧ _
      refine ⟨hS2, ?_⟩
      refine wpAnyH_one (i := 9) (by kernel_rfl) rfl (by kernel_rfl) ?_
      go_simp
      refine (msameW HW.out r r r r A6 A8 I I n1 n1 d6 d8 (by simp) (by simp) HLI.out HLI.out true (sameB_refl _ _ _)).mono ?_
      rintro e v13 ⟨rfl, HN, -⟩
      have HW := Lib.hid HN
      clear HN
      have hS3 : S v13 := hSi _ (HW.out.bx ⟨w.heap.size, r, r, A, n1, c1⟩ (by simp)) (HW.out.bx ⟨v10.heap.size, r, r, A6, n1, d6⟩ (by simp)) (HW.out.bx ⟨v11.heap.size, r, r, A7, n1, d7⟩ (by simp))
      show S v13 ∧ _
      refine ⟨hS3, ?_⟩
      refine wpAnyH_takeD (i := 10) (some 171) (.bool true) rfl rfl (by kernel_rfl) (by kernel_rfl) (by kernel_rfl) (fun _ _ _ h => h) (Or.inl ⟨by kernel_rfl, fun W hW => by go_simp⟩) hS3 ?_
      simp only [Act.put, List.setIfInBounds_toArray, List.set_cons_zero, List.set_cons_succ]
      refine wpAnyH_takeD (i := 11) (some 172) (.bool true) rfl rfl (by kernel_rfl) (by kernel_rfl) (by kernel_rfl) (fun _ _ _ h => h) (Or.inl ⟨by kernel_rfl, fun W hW => by go_simp⟩) hS3 ?_
      simp only [Act.put, List.setIfInBounds_toArray, List.set_cons_zero, List.set_cons_succ]
      refine wpAnyH_takeD (i := 12) (some 173) (.agg #[.int .i64 r, .int .i64 r, .slice A7 n1 d7]) rfl rfl (by kernel_rfl) (by kernel_rfl) (by kernel_rfl) (fun _ _ _ h => h) (Or.inl ⟨by kernel_rfl, fun W hW => by obtain ⟨⟨s00, s01, s02⟩, ⟨s10, s11, s12⟩, ⟨s20, s21, s22⟩⟩ := hSc W hW; go_simp⟩) hS3 ?_
      simp only [Act.put, List.setIfInBounds_toArray, List.set_cons_zero, List.set_cons_succ]
      refine wpAnyH_takeD (i := 13) (some 174) (.agg #[.int .i64 r, .int .i64 r, .slice A6 n1 d6]) rfl rfl (by kernel_rfl) (by kernel_rfl) (by kernel_rfl) (fun _ _ _ h => h) (Or.inl ⟨by kernel_rfl, fun W hW => by obtain ⟨⟨s00, s01, s02⟩, ⟨s10, s11, s12⟩, ⟨s20, s21, s22⟩⟩ := hSc W hW; go_simp⟩) hS3 ?_
      simp only [Act.put, List.setIfInBounds_toArray, List.set_cons_zero, List.set_cons_succ]
      refine wpAnyH_one (i := 14) (by kernel_rfl) rfl (by kernel_rfl) ?_
      go_simp
      refine (msameW HW.out r r r r A7 A6 I I n1 n1 d7 d6 (by simp) (by simp) HLI.out HLI.out true (sameB_refl _ _ _)).mono ?_
      rintro e v14 ⟨rfl, HN, -⟩
      have HW := Lib.hid HN
      clear HN
      have hS4 : S v14 := hSi _ (HW.out.bx ⟨w.heap.size, r, r, A, n1, c1⟩ (by simp)) (HW.out.bx ⟨v10.heap.size, r, r, A6, n1, d6⟩ (by simp)) (HW.out.bx ⟨v11.heap.size, r, r, A7, n1, d7⟩ (by simp))
      show S v14 ∧ _
      refine ⟨hS4, ?_⟩
      refine wpAnyH_takeD (i := 15) (some 176) (.bool true) rfl rfl (by kernel_rfl) (by kernel_rfl) (by kernel_rfl) (fun _ _ _ h => h) (Or.inl ⟨by kernel_rfl, fun W hW => by go_simp⟩) hS4 ?_
      simp only [Act.put, List.setIfInBounds_toArray, List.set_cons_zero, List.set_cons_succ]
      refine wpAnyH_takeD (i := 16) (some 177) (.bool true) rfl rfl (by kernel_rfl) (by kernel_rfl) (by kernel_rfl) (fun _ _ _ h => h) (Or.inl ⟨by kernel_rfl, fun W hW => by go_simp⟩) hS4 ?_
      simp only [Act.put, List.setIfInBounds_toArray, List.set_cons_zero, List.set_cons_succ]
      refine wpAnyH_one (i := 17) (by kernel_rfl) rfl (by kernel_rfl) ?_
      go_simp
      refine (works_calls _).mono ?_
      rintro e v15 ⟨rfl, HZ⟩
      have HW := Lib.hid (HW.out.below HZ)
      clear HZ
      have hS5 : S v15 := hSi _ (HW.out.bx ⟨w.heap.size, r, r, A, n1, c1⟩ (by simp)) (HW.out.bx ⟨v10.heap.size, r, r, A6, n1, d6⟩ (by simp)) (HW.out.bx ⟨v11.heap.size, r, r, A7, n1, d7⟩ (by simp))
      show S v15 ∧ _
      refine ⟨hS5, ?_⟩
      refine wpAnyH_takeD (i := 18) (some 179) (.bool true) rfl rfl (by kernel_rfl) (by kernel_rfl) (by kernel_rfl) (fun _ _ _ h => h) (Or.inl ⟨by kernel_rfl, fun W hW => by go_simp⟩) hS5 ?_
      simp only [Act.put, List.setIfInBounds_toArray, List.set_cons_zero, List.set_cons_succ]
      refine wpAnyH_takeD (i := 19) (some 6) (.bool true) rfl rfl (by kernel_rfl) (by kernel_rfl) (by kernel_rfl) (fun _ _ _ h => h) (Or.inl ⟨by kernel_rfl, fun W hW => by go_simp⟩) hS5 ?_
      simp only [Act.put, List.setIfInBounds_toArray, List.set_cons_zero, List.set_cons_succ]
      refine wpAnyH_done (by kernel_rfl) ?_ _
      go_wp2
      go_ret
      exact ⟨rfl, HW.out.bel⟩
     obtain ⟨z1, z2, z3⟩ := Classical.not_not.1 x2
     clear x2
     obtain ⟨r', q, rfl, rfl, k7, k8, k9⟩ := rightB_iff.1 z2
     obtain rfl : r = r' := by omega
     have hq8 : q ≤ 8 := by have := small_le HS3.out; omega
     have K9 := Lib.hid k9
     have hl3 : u.length = r * q := by rw [HL3.out, k9]
     clear z1 z2 z3 k7 k8 k9
     by_cases x3 : ¬ ∃ X, Sol r n q (ent s n) (ent u q) X
     ·have HX3 := Lib.hid x3
      clear x3
      go_wp2_with fail
      clear hvv7x
      clear qa0 qa1 qa2 qc0 qc1 qc2
      refine (solveW_no HW.out r n q n1 n3 c1 c3 A C s u (by simp) (by simp) (by omega) (by omega) (by omega) K3.out.symm K9.out.symm hc1 hc3 HL1.out HL3.out HX3.out).mono ?_
      rintro e v8 ⟨A3, d3, rfl, -, HN⟩
      obtain ⟨v8x, hvv8x, -, HN⟩ := HN.var 0 0 A3 0 d3
      have HW := Lib.hid HN
      clear HN
      obtain ⟨qa0, qa1, qa2⟩ := HW.out.at_ (b := w.heap.size) (R := r) (C := n) (A := A) (n := n1) (c := c1) (by simp)
      by_cases hrn : ¬ r = n
      ·have hne : ((r : Int) != (n : Int)) = true := by simp; omega
       have HX9 : Hid (¬ (RightB r n n1 = true ∧ (r : Int) = (n : Int))) := Lib.hid (by rintro ⟨_, h⟩; omega)
       clear hrn
       go_wp2_with fail
       clear hvv8x
       clear qa0 qa1 qa2
       refine (inverseW_bad HW.out r n A n1 c1 HX9.out).mono ?_
       rintro e v9 ⟨A5, d5, rfl, -, HN⟩
       obtain ⟨v9x, hvv9x, -, HN⟩ := HN.var 0 0 A5 0 d5
       have HW := Lib.hid HN
       clear HN
       obtain ⟨qa0, qa1, qa2⟩ := HW.out.at_ (b := w.heap.size) (R := r) (C := n) (A := A) (n := n1) (c := c1) (by simp)
       go_wp2_with (go_at_call 23; (with_reducible refine (works_calls _).mono ?_); rintro e wz ⟨rfl, HZ⟩)
       go_ret
       exact ⟨rfl, (HW.out.below HZ).bel⟩
      obtain rfl := Classical.not_not.1 hrn
      clear hrn
      have hne : ((r : Int) != (r : Int)) = false := by simp
      have hne2 : ((r : Int) == (r : Int)) = true := by simp
      by_cases hfl : ¬ k = r
      ·skip
       have HX9 : Hid (¬ ∃ X, Sol r r r (ent s r) (ent (flat r r oneF) r) X) := Lib.hid (fun h => hfl ((sol_inv_iff HK.out r).1 h))
       have hltN : k < r := by omega
       have hlt : decide ((k : Int) < (r : Int)) = true := by simp; omega
       clear hfl
       go_wp2_with fail
       clear hvv8x
       clear qa0 qa1 qa2
       refine (inverseW_no HW.out r n1 c1 A s (by simp) (by omega) K3.out.symm hc1 HL1.out HX9.out).mono ?_
       rintro e v9 ⟨A5, d5, rfl, -, HN⟩
       obtain ⟨v9x, hvv9x, -, HN⟩ := HN.var 0 0 A5 0 d5
       have HW := Lib.hid HN
       clear HN
       obtain ⟨qa0, qa1, qa2⟩ := HW.out.at_ (b := w.heap.size) (R := r) (C := r) (A := A) (n := n1) (c := c1) (by simp)
       go_wp2_with (go_at_call 23; (with_reducible refine (works_calls _).mono ?_); rintro e wz ⟨rfl, HZ⟩)
       go_ret
       exact ⟨rfl, (HW.out.below HZ).bel⟩
      have hfl := Classical.not_not.1 hfl
      obtain ⟨Y, hY⟩ := (sol_inv_iff HK.out (b := ent (flat r r oneF) r) r).2 hfl
      have hkb2 : ((k : Int) == (r : Int)) = true := by simp; omega
      obtain ⟨V, hV⟩ : ∃ z, flat r r Y = z := ⟨_, rfl⟩
      obtain ⟨I, hI⟩ : ∃ z, flat r r oneF = z := ⟨_, rfl⟩
      have HLV : Hid (V.length = n1) := Lib.hid (by rw [← hV, flat_length]; exact K3.out.symm)
      have HLI : Hid (I.length = n1) := Lib.hid (by rw [← hI, flat_length]; exact K3.out.symm)
      have HRt : Hid (flat r r (mulF r (ent s r) (ent V r)) = I) := Lib.hid (by rw [← hV, ← hI]; exact inv_right hY)
      have HLt : Hid (flat r r (mulF r (ent V r) (ent s r)) = I) := Lib.hid (by rw [← hV, ← hI]; exact inv_left hY)
      have HY := Lib.hid hY
      have HV := Lib.hid hV
      have HI := Lib.hid hI
      clear hY hV hI hfl
      go_wp2_with fail
      clear hvv8x
      clear qa0 qa1 qa2
      refine (inverseW_ok HW.out r n1 c1 A s V _ (by simp) (by omega) K3.out.symm hc1 HL1.out HY.out HV.out).mono ?_
      rintro e v9 ⟨A5, d5, rfl, hd5, HN⟩
      obtain ⟨v9x, hvv9x, -, HN⟩ := HN.var r r A5 n1 d5
      have HW := Lib.hid HN
      clear HN
      obtain ⟨qa0, qa1, qa2⟩ := HW.out.at_ (b := w.heap.size) (R := r) (C := r) (A := A) (n := n1) (c := c1) (by simp)
      obtain ⟨qv0, qv1, qv2⟩ := HW.out.at_ (b := v9.heap.size) (R := r) (C := r) (A := A5) (n := n1) (c := d5) (by simp)
      go_wp2_with fail
      clear hvv9x
      clear qa0 qa1 qa2 qv0 qv1 qv2
      refine (mulW HW.out r r r n1 n1 n1 c1 d5 A A5 s V I (by simp) (by simp) (by omega) (by omega) (by omega) K3.out.symm K3.out.symm K3.out.symm hc1 hd5 HL1.out HLV.out HRt.out).mono ?_
      rintro e v10 ⟨A6, d6, rfl, hd6, HN⟩
      obtain ⟨v10x, hvv10x, -, HN⟩ := HN.var r r A6 n1 d6
      have HW := Lib.hid HN
      clear HN
      obtain ⟨qv0, qv1, qv2⟩ := HW.out.at_ (b := v9.heap.size) (R := r) (C := r) (A := A5) (n := n1) (c := d5) (by simp)
      obtain ⟨qa0, qa1, qa2⟩ := HW.out.at_ (b := w.heap.size) (R := r) (C := r) (A := A) (n := n1) (c := c1) (by simp)
      go_wp2_with fail
      clear hvv10x
      clear qv0 qv1 qv2 qa0 qa1 qa2
      refine (mulW HW.out r r r n1 n1 n1 d5 c1 A5 A V s I (by simp) (by simp) (by omega) (by omega) (by omega) K3.out.symm K3.out.symm K3.out.symm hd5 hc1 HLV.out HL1.out HLt.out).mono ?_
      rintro e v11 ⟨A7, d7, rfl, hd7, HN⟩
      obtain ⟨v11x, hvv11x, -, HN⟩ := HN.var r r A7 n1 d7
      have HW := Lib.hid HN
      clear HN
      go_wp2_with fail
      clear hvv11x
      have hmx : Try.prog.follows .mixedOrders = true := by kernel_rfl
      obtain ⟨S, hSdef⟩ : ∃ S : World → Prop, S = fun V => Bx.In V ⟨w.heap.size, r, r, A, n1, c1⟩ ∧ Bx.In V ⟨v10.heap.size, r, r, A6, n1, d6⟩ ∧ Bx.In V ⟨v11.heap.size, r, r, A7, n1, d7⟩ := ⟨_, rfl⟩
      have hSi : ∀ V, Bx.In V ⟨w.heap.size, r, r, A, n1, c1⟩ → Bx.In V ⟨v10.heap.size, r, r, A6, n1, d6⟩ → Bx.In V ⟨v11.heap.size, r, r, A7, n1, d7⟩ → S V := fun V h0 h1 h2 => by rw [hSdef]; exact ⟨h0, h1, h2⟩
      have hSc : ∀ V, S V → (V.cell? ⟨w.heap.size, 0, none⟩ = some (.int .i64 r) ∧ V.cell? ⟨w.heap.size, 1, none⟩ = some (.int .i64 r) ∧ V.cell? ⟨w.heap.size, 2, none⟩ = some (.slice A n1 c1)) ∧ (V.cell? ⟨v10.heap.size, 0, none⟩ = some (.int .i64 r) ∧ V.cell? ⟨v10.heap.size, 1, none⟩ = some (.int .i64 r) ∧ V.cell? ⟨v10.heap.size, 2, none⟩ = some (.slice A6 n1 d6)) ∧ (V.cell? ⟨v11.heap.size, 0, none⟩ = some (.int .i64 r) ∧ V.cell? ⟨v11.heap.size, 1, none⟩ = some (.int .i64 r) ∧ V.cell? ⟨v11.heap.size, 2, none⟩ = some (.slice A7 n1 d7)) := fun V hV => by rw [hSdef] at hV; exact ⟨cells3 hV.1, cells3 hV.2.1, cells3 hV.2.2⟩
      clear hSdef
      have HW := Lib.hid HW.out.drew
      have hS1 : S v11x.drew := hSi _ (HW.out.bx ⟨w.heap.size, r, r, A, n1, c1⟩ (by simp)) (HW.out.bx ⟨v10.heap.size, r, r, A6, n1, d6⟩ (by simp)) (HW.out.bx ⟨v11.heap.size, r, r, A7, n1, d7⟩ (by simp))
      refine wp_region_held (S := S) hmx ?_
      refine wpAnyH_takeD (i := 0) (some 161) (.int .i64 k) rfl rfl (by kernel_rfl) (by kernel_rfl) (by kernel_rfl) (fun _ _ _ h => h) (Or.inl ⟨by kernel_rfl, fun W hW => by go_simp⟩) hS1 ?_
      simp only [Act.put, List.setIfInBounds_toArray, List.set_cons_zero, List.set_cons_succ]
      refine wpAnyH_takeD (i := 1) (some 162) (.pointer (some ⟨w.heap.size, 0, none⟩)) rfl rfl (by kernel_rfl) (by kernel_rfl) (by kernel_rfl) (fun _ _ _ h => h) (Or.inl ⟨by kernel_rfl, fun W hW => by go_simp⟩) hS1 ?_
      simp only [Act.put, List.setIfInBounds_toArray, List.set_cons_zero, List.set_cons_succ]
      refine wpAnyH_takeD (i := 2) (some 163) (.int .i64 r) rfl rfl (by kernel_rfl) (by kernel_rfl) (by kernel_rfl) (fun _ _ _ h => h) (Or.inl ⟨by kernel_rfl, fun W hW => by obtain ⟨⟨s00, s01, s02⟩, ⟨s10, s11, s12⟩, ⟨s20, s21, s22⟩⟩ := hSc W hW; go_simp⟩) hS1 ?_
      simp only [Act.put, List.setIfInBounds_toArray, List.set_cons_zero, List.set_cons_succ]
      refine wpAnyH_takeD (i := 3) (some 164) (.bool true) rfl rfl (by kernel_rfl) (by kernel_rfl) (by kernel_rfl) (fun _ _ _ h => h) (Or.inl ⟨by kernel_rfl, fun W hW => by go_simp⟩) hS1 ?_
      simp only [Act.put, List.setIfInBounds_toArray, List.set_cons_zero, List.set_cons_succ]
      refine wpAnyH_takeD (i := 4) (some 165) (.bool true) rfl rfl (by kernel_rfl) (by kernel_rfl) (by kernel_rfl) (fun _ _ _ h => h) (Or.inl ⟨by kernel_rfl, fun W hW => by go_simp⟩) hS1 ?_
      simp only [Act.put, List.setIfInBounds_toArray, List.set_cons_zero, List.set_cons_succ]
      refine wpAnyH_takeD (i := 5) (some 166) (.agg #[.int .i64 r, .int .i64 r, .slice A6 n1 d6]) rfl rfl (by kernel_rfl) (by kernel_rfl) (by kernel_rfl) (fun _ _ _ h => h) (Or.inl ⟨by kernel_rfl, fun W hW => by obtain ⟨⟨s00, s01, s02⟩, ⟨s10, s11, s12⟩, ⟨s20, s21, s22⟩⟩ := hSc W hW; go_simp⟩) hS1 ?_
      simp only [Act.put, List.setIfInBounds_toArray, List.set_cons_zero, List.set_cons_succ]
      refine wpAnyH_takeD (i := 6) (some 167) (.pointer (some ⟨w.heap.size, 0, none⟩)) rfl rfl (by kernel_rfl) (by kernel_rfl) (by kernel_rfl) (fun _ _ _ h => h) (Or.inl ⟨by kernel_rfl, fun W hW => by go_simp⟩) hS1 ?_
      simp only [Act.put, List.setIfInBounds_toArray, List.set_cons_zero, List.set_cons_succ]
      refine wpAnyH_takeD (i := 7) (some 168) (.int .i64 r) rfl rfl (by kernel_rfl) (by kernel_rfl) (by kernel_rfl) (fun _ _ _ h => h) (Or.inl ⟨by kernel_rfl, fun W hW => by obtain ⟨⟨s00, s01, s02⟩, ⟨s10, s11, s12⟩, ⟨s20, s21, s22⟩⟩ := hSc W hW; go_simp⟩) hS1 ?_
      simp only [Act.put, List.setIfInBounds_toArray, List.set_cons_zero, List.set_cons_succ]
      refine wpAnyH_one (i := 8) (by kernel_rfl) rfl (by kernel_rfl) ?_
      go_simp
      refine (oneW HW.out r n1 I (by omega) K3.out.symm HI.out).mono ?_
      rintro e v12 ⟨A8, d8, rfl, hd8, HN⟩
      have HW := Lib.hid HN
      clear HN
      have hS2 : S v12 := hSi _ (HW.out.bx ⟨w.heap.size, r, r, A, n1, c1⟩ (by simp)) (HW.out.bx ⟨v10.heap.size, r, r, A6, n1, d6⟩ (by simp)) (HW.out.bx ⟨v11.heap.size, r, r, A7, n1, d7⟩ (by simp))
      show S v12 ∧ _
      refine ⟨hS2, ?_⟩
      refine wpAnyH_one (i := 9) (by kernel_rfl) rfl (by kernel_rfl) ?_
      go_simp
      refine (msameW HW.out r r r r A6 A8 I I n1 n1 d6 d8 (by simp) (by simp) HLI.out HLI.out true (sameB_refl _ _ _)).mono ?_
      rintro e v13 ⟨rfl, HN, -⟩
      have HW := Lib.hid HN
      clear HN
      have hS3 : S v13 := hSi _ (HW.out.bx ⟨w.heap.size, r, r, A, n1, c1⟩ (by simp)) (HW.out.bx ⟨v10.heap.size, r, r, A6, n1, d6⟩ (by simp)) (HW.out.bx ⟨v11.heap.size, r, r, A7, n1, d7⟩ (by simp))
      show S v13 ∧ _
      refine ⟨hS3, ?_⟩
      refine wpAnyH_takeD (i := 10) (some 171) (.bool true) rfl rfl (by kernel_rfl) (by kernel_rfl) (by kernel_rfl) (fun _ _ _ h => h) (Or.inl ⟨by kernel_rfl, fun W hW => by go_simp⟩) hS3 ?_
      simp only [Act.put, List.setIfInBounds_toArray, List.set_cons_zero, List.set_cons_succ]
      refine wpAnyH_takeD (i := 11) (some 172) (.bool true) rfl rfl (by kernel_rfl) (by kernel_rfl) (by kernel_rfl) (fun _ _ _ h => h) (Or.inl ⟨by kernel_rfl, fun W hW => by go_simp⟩) hS3 ?_
      simp only [Act.put, List.setIfInBounds_toArray, List.set_cons_zero, List.set_cons_succ]
      refine wpAnyH_takeD (i := 12) (some 173) (.agg #[.int .i64 r, .int .i64 r, .slice A7 n1 d7]) rfl rfl (by kernel_rfl) (by kernel_rfl) (by kernel_rfl) (fun _ _ _ h => h) (Or.inl ⟨by kernel_rfl, fun W hW => by obtain ⟨⟨s00, s01, s02⟩, ⟨s10, s11, s12⟩, ⟨s20, s21, s22⟩⟩ := hSc W hW; go_simp⟩) hS3 ?_
      simp only [Act.put, List.setIfInBounds_toArray, List.set_cons_zero, List.set_cons_succ]
      refine wpAnyH_takeD (i := 13) (some 174) (.agg #[.int .i64 r, .int .i64 r, .slice A6 n1 d6]) rfl rfl (by kernel_rfl) (by kernel_rfl) (by kernel_rfl) (fun _ _ _ h => h) (Or.inl ⟨by kernel_rfl, fun W hW => by obtain ⟨⟨s00, s01, s02⟩, ⟨s10, s11, s12⟩, ⟨s20, s21, s22⟩⟩ := hSc W hW; go_simp⟩) hS3 ?_
      simp only [Act.put, List.setIfInBounds_toArray, List.set_cons_zero, List.set_cons_succ]
      refine wpAnyH_one (i := 14) (by kernel_rfl) rfl (by kernel_rfl) ?_
      go_simp
      refine (msameW HW.out r r r r A7 A6 I I n1 n1 d7 d6 (by simp) (by simp) HLI.out HLI.out true (sameB_refl _ _ _)).mono ?_
      rintro e v14 ⟨rfl, HN, -⟩
      have HW := Lib.hid HN
      clear HN
      have hS4 : S v14 := hSi _ (HW.out.bx ⟨w.heap.size, r, r, A, n1, c1⟩ (by simp)) (HW.out.bx ⟨v10.heap.size, r, r, A6, n1, d6⟩ (by simp)) (HW.out.bx ⟨v11.heap.size, r, r, A7, n1, d7⟩ (by simp))
      show S v14 ∧ _
      refine ⟨hS4, ?_⟩
      refine wpAnyH_takeD (i := 15) (some 176) (.bool true) rfl rfl (by kernel_rfl) (by kernel_rfl) (by kernel_rfl) (fun _ _ _ h => h) (Or.inl ⟨by kernel_rfl, fun W hW => by go_simp⟩) hS4 ?_
      simp only [Act.put, List.setIfInBounds_toArray, List.set_cons_zero, List.set_cons_succ]
      refine wpAnyH_takeD (i := 16) (some 177) (.bool true) rfl rfl (by kernel_rfl) (by kernel_rfl) (by kernel_rfl) (fun _ _ _ h => h) (Or.inl ⟨by kernel_rfl, fun W hW => by go_simp⟩) hS4 ?_
      simp only [Act.put, List.setIfInBounds_toArray, List.set_cons_zero, List.set_cons_succ]
      refine wpAnyH_one (i := 17) (by kernel_rfl) rfl (by kernel_rfl) ?_
      go_simp
      refine (works_calls _).mono ?_
      rintro e v15 ⟨rfl, HZ⟩
      have HW := Lib.hid (HW.out.below HZ)
      clear HZ
      have hS5 : S v15 := hSi _ (HW.out.bx ⟨w.heap.size, r, r, A, n1, c1⟩ (by simp)) (HW.out.bx ⟨v10.heap.size, r, r, A6, n1, d6⟩ (by simp)) (HW.out.bx ⟨v11.heap.size, r, r, A7, n1, d7⟩ (by simp))
      show S v15 ∧ _
      refine ⟨hS5, ?_⟩
      refine wpAnyH_takeD (i := 18) (some 179) (.bool true) rfl rfl (by kernel_rfl) (by kernel_rfl) (by kernel_rfl) (fun _ _ _ h => h) (Or.inl ⟨by kernel_rfl, fun W hW => by go_simp⟩) hS5 ?_
      simp only [Act.put, List.setIfInBounds_toArray, List.set_cons_zero, List.set_cons_succ]
      refine wpAnyH_takeD (i := 19) (some 6) (.bool true) rfl rfl (by kernel_rfl) (by kernel_rfl) (by kernel_rfl) (fun _ _ _ h => h) (Or.inl ⟨by kernel_rfl, fun W hW => by go_simp⟩) hS5 ?_
      simp only [Act.put, List.setIfInBounds_toArray, List.set_cons_zero, List.set_cons_succ]
      refine wpAnyH_done (by kernel_rfl) ?_ _
      go_wp2
      go_ret
      exact ⟨rfl, HW.out.bel⟩
     obtain ⟨X, hX⟩ := Classical.not_not.1 x3
     clear x3
     obtain ⟨z, hz⟩ : ∃ z, flat n q X = z := ⟨_, rfl⟩
     obtain ⟨Nz, hNz⟩ : ∃ N, n * q = N := ⟨_, rfl⟩
     have HLz : Hid (z.length = Nz) := Lib.hid (by rw [← hz, flat_length, hNz])
     have HQm : Hid (flat r q (mulF n (ent s n) (ent z q)) = u) := Lib.hid (by rw [← hz]; exact sol_mul hl3 hX)
     have HX := Lib.hid hX
     have HZ := Lib.hid hz
     have HNz := Lib.hid hNz
     clear hX hz hNz hl3
     go_wp2_with fail
     clear hvv7x
     clear qa0 qa1 qa2 qc0 qc1 qc2
     refine (solveW_ok HW.out r n q n1 n3 Nz c1 c3 A C s u z _ (by simp) (by simp) (by omega) (by omega) (by omega) K3.out.symm K9.out.symm HNz.out hc1 hc3 HL1.out HL3.out HX.out HZ.out).mono ?_
     rintro e v8 ⟨A3, d3, rfl, hd3, HN⟩
     obtain ⟨v8x, hvv8x, -, HN⟩ := HN.var n q A3 Nz d3
     have HW := Lib.hid HN
     clear HN
     obtain ⟨qa0, qa1, qa2⟩ := HW.out.at_ (b := w.heap.size) (R := r) (C := n) (A := A) (n := n1) (c := c1) (by simp)
     obtain ⟨qs0, qs1, qs2⟩ := HW.out.at_ (b := v8.heap.size) (R := n) (C := q) (A := A3) (n := Nz) (c := d3) (by simp)
     go_wp2_with fail
     clear hvv8x
     clear qa0 qa1 qa2 qs0 qs1 qs2
     refine (mulW HW.out r n q n1 Nz n3 c1 d3 A A3 s z u (by simp) (by simp) (by omega) (by omega) (by omega) K3.out.symm HNz.out K9.out.symm hc1 hd3 HL1.out HLz.out HQm.out).mono ?_
     rintro e v9 ⟨A4, d4, rfl, hd4, HN⟩
     obtain ⟨v9x, hvv9x, -, HN⟩ := HN.var r q A4 n3 d4
     have HW := Lib.hid HN
     clear HN
     obtain ⟨qq0, qq1, qq2⟩ := HW.out.at_ (b := v9.heap.size) (R := r) (C := q) (A := A4) (n := n3) (c := d4) (by simp)
     obtain ⟨qc0, qc1, qc2⟩ := HW.out.at_ (b := w.heap.size + 2) (R := r) (C := q) (A := C) (n := n3) (c := c3) (by simp)
     go_wp2_with fail
     clear hvv9x
     clear qq0 qq1 qq2 qc0 qc1 qc2
     refine (msameW HW.out r q r q A4 C u u n3 n3 d4 c3 (by simp) (by simp) HL3.out HL3.out true (sameB_refl _ _ _)).mono ?_
     rintro e v10 ⟨rfl, HN, -⟩
     have HW := Lib.hid HN
     clear HN
     obtain ⟨qa0, qa1, qa2⟩ := HW.out.at_ (b := w.heap.size) (R := r) (C := n) (A := A) (n := n1) (c := c1) (by simp)
     by_cases hrn : ¬ r = n
     ·have hne : ((r : Int) != (n : Int)) = true := by simp; omega
      have HX9 : Hid (¬ (RightB r n n1 = true ∧ (r : Int) = (n : Int))) := Lib.hid (by rintro ⟨_, h⟩; omega)
      clear hrn
      go_wp2_with fail
      clear qa0 qa1 qa2
      refine (inverseW_bad HW.out r n A n1 c1 HX9.out).mono ?_
      rintro e v11 ⟨A5, d5, rfl, -, HN⟩
      obtain ⟨v11x, hvv11x, -, HN⟩ := HN.var 0 0 A5 0 d5
      have HW := Lib.hid HN
      clear HN
      obtain ⟨qa0, qa1, qa2⟩ := HW.out.at_ (b := w.heap.size) (R := r) (C := n) (A := A) (n := n1) (c := c1) (by simp)
      go_wp2_with (go_at_call 23; (with_reducible refine (works_calls _).mono ?_); rintro e wz ⟨rfl, HZ⟩)
      go_ret
      exact ⟨rfl, (HW.out.below HZ).bel⟩
     obtain rfl := Classical.not_not.1 hrn
     clear hrn
     have hne : ((r : Int) != (r : Int)) = false := by simp
     have hne2 : ((r : Int) == (r : Int)) = true := by simp
     by_cases hfl : ¬ k = r
     ·skip
      have HX9 : Hid (¬ ∃ X, Sol r r r (ent s r) (ent (flat r r oneF) r) X) := Lib.hid (fun h => hfl ((sol_inv_iff HK.out r).1 h))
      have hltN : k < r := by omega
      have hlt : decide ((k : Int) < (r : Int)) = true := by simp; omega
      clear hfl
      go_wp2_with fail
      clear qa0 qa1 qa2
      refine (inverseW_no HW.out r n1 c1 A s (by simp) (by omega) K3.out.symm hc1 HL1.out HX9.out).mono ?_
      rintro e v11 ⟨A5, d5, rfl, -, HN⟩
      obtain ⟨v11x, hvv11x, -, HN⟩ := HN.var 0 0 A5 0 d5
      have HW := Lib.hid HN
      clear HN
      obtain ⟨qa0, qa1, qa2⟩ := HW.out.at_ (b := w.heap.size) (R := r) (C := r) (A := A) (n := n1) (c := c1) (by simp)
      go_wp2_with (go_at_call 23; (with_reducible refine (works_calls _).mono ?_); rintro e wz ⟨rfl, HZ⟩)
      go_ret
      exact ⟨rfl, (HW.out.below HZ).bel⟩
     have hfl := Classical.not_not.1 hfl
     obtain ⟨Y, hY⟩ := (sol_inv_iff HK.out (b := ent (flat r r oneF) r) r).2 hfl
     have hkb2 : ((k : Int) == (r : Int)) = true := by simp; omega
     obtain ⟨V, hV⟩ : ∃ z, flat r r Y = z := ⟨_, rfl⟩
     obtain ⟨I, hI⟩ : ∃ z, flat r r oneF = z := ⟨_, rfl⟩
     have HLV : Hid (V.length = n1) := Lib.hid (by rw [← hV, flat_length]; exact K3.out.symm)
     have HLI : Hid (I.length = n1) := Lib.hid (by rw [← hI, flat_length]; exact K3.out.symm)
     have HRt : Hid (flat r r (mulF r (ent s r) (ent V r)) = I) := Lib.hid (by rw [← hV, ← hI]; exact inv_right hY)
     have HLt : Hid (flat r r (mulF r (ent V r) (ent s r)) = I) := Lib.hid (by rw [← hV, ← hI]; exact inv_left hY)
     have HY := Lib.hid hY
     have HV := Lib.hid hV
     have HI := Lib.hid hI
     clear hY hV hI hfl
     go_wp2_with fail
     clear qa0 qa1 qa2
     refine (inverseW_ok HW.out r n1 c1 A s V _ (by simp) (by omega) K3.out.symm hc1 HL1.out HY.out HV.out).mono ?_
     rintro e v11 ⟨A5, d5, rfl, hd5, HN⟩
     obtain ⟨v11x, hvv11x, -, HN⟩ := HN.var r r A5 n1 d5
     have HW := Lib.hid HN
     clear HN
     obtain ⟨qa0, qa1, qa2⟩ := HW.out.at_ (b := w.heap.size) (R := r) (C := r) (A := A) (n := n1) (c := c1) (by simp)
     obtain ⟨qv0, qv1, qv2⟩ := HW.out.at_ (b := v11.heap.size) (R := r) (C := r) (A := A5) (n := n1) (c := d5) (by simp)
     go_wp2_with fail
     clear hvv11x
     clear qa0 qa1 qa2 qv0 qv1 qv2
     refine (mulW HW.out r r r n1 n1 n1 c1 d5 A A5 s V I (by simp) (by simp) (by omega) (by omega) (by omega) K3.out.symm K3.out.symm K3.out.symm hc1 hd5 HL1.out HLV.out HRt.out).mono ?_
     rintro e v12 ⟨A6, d6, rfl, hd6, HN⟩
     obtain ⟨v12x, hvv12x, -, HN⟩ := HN.var r r A6 n1 d6
     have HW := Lib.hid HN
     clear HN
     obtain ⟨qv0, qv1, qv2⟩ := HW.out.at_ (b := v11.heap.size) (R := r) (C := r) (A := A5) (n := n1) (c := d5) (by simp)
     obtain ⟨qa0, qa1, qa2⟩ := HW.out.at_ (b := w.heap.size) (R := r) (C := r) (A := A) (n := n1) (c := c1) (by simp)
     go_wp2_with fail
     clear hvv12x
     clear qv0 qv1 qv2 qa0 qa1 qa2
     refine (mulW HW.out r r r n1 n1 n1 d5 c1 A5 A V s I (by simp) (by simp) (by omega) (by omega) (by omega) K3.out.symm K3.out.symm K3.out.symm hd5 hc1 HLV.out HL1.out HLt.out).mono ?_
     rintro e v13 ⟨A7, d7, rfl, hd7, HN⟩
     obtain ⟨v13x, hvv13x, -, HN⟩ := HN.var r r A7 n1 d7
     have HW := Lib.hid HN
     clear HN
     go_wp2_with fail
     clear hvv13x
     have hmx : Try.prog.follows .mixedOrders = true := by kernel_rfl
     obtain ⟨S, hSdef⟩ : ∃ S : World → Prop, S = fun V => Bx.In V ⟨w.heap.size, r, r, A, n1, c1⟩ ∧ Bx.In V ⟨v12.heap.size, r, r, A6, n1, d6⟩ ∧ Bx.In V ⟨v13.heap.size, r, r, A7, n1, d7⟩ := ⟨_, rfl⟩
     have hSi : ∀ V, Bx.In V ⟨w.heap.size, r, r, A, n1, c1⟩ → Bx.In V ⟨v12.heap.size, r, r, A6, n1, d6⟩ → Bx.In V ⟨v13.heap.size, r, r, A7, n1, d7⟩ → S V := fun V h0 h1 h2 => by rw [hSdef]; exact ⟨h0, h1, h2⟩
     have hSc : ∀ V, S V → (V.cell? ⟨w.heap.size, 0, none⟩ = some (.int .i64 r) ∧ V.cell? ⟨w.heap.size, 1, none⟩ = some (.int .i64 r) ∧ V.cell? ⟨w.heap.size, 2, none⟩ = some (.slice A n1 c1)) ∧ (V.cell? ⟨v12.heap.size, 0, none⟩ = some (.int .i64 r) ∧ V.cell? ⟨v12.heap.size, 1, none⟩ = some (.int .i64 r) ∧ V.cell? ⟨v12.heap.size, 2, none⟩ = some (.slice A6 n1 d6)) ∧ (V.cell? ⟨v13.heap.size, 0, none⟩ = some (.int .i64 r) ∧ V.cell? ⟨v13.heap.size, 1, none⟩ = some (.int .i64 r) ∧ V.cell? ⟨v13.heap.size, 2, none⟩ = some (.slice A7 n1 d7)) := fun V hV => by rw [hSdef] at hV; exact ⟨cells3 hV.1, cells3 hV.2.1, cells3 hV.2.2⟩
     clear hSdef
     have HW := Lib.hid HW.out.drew
     have hS1 : S v13x.drew := hSi _ (HW.out.bx ⟨w.heap.size, r, r, A, n1, c1⟩ (by simp)) (HW.out.bx ⟨v12.heap.size, r, r, A6, n1, d6⟩ (by simp)) (HW.out.bx ⟨v13.heap.size, r, r, A7, n1, d7⟩ (by simp))
     refine wp_region_held (S := S) hmx ?_
     refine wpAnyH_takeD (i := 0) (some 161) (.int .i64 k) rfl rfl (by kernel_rfl) (by kernel_rfl) (by kernel_rfl) (fun _ _ _ h => h) (Or.inl ⟨by kernel_rfl, fun W hW => by go_simp⟩) hS1 ?_
     simp only [Act.put, List.setIfInBounds_toArray, List.set_cons_zero, List.set_cons_succ]
     refine wpAnyH_takeD (i := 1) (some 162) (.pointer (some ⟨w.heap.size, 0, none⟩)) rfl rfl (by kernel_rfl) (by kernel_rfl) (by kernel_rfl) (fun _ _ _ h => h) (Or.inl ⟨by kernel_rfl, fun W hW => by go_simp⟩) hS1 ?_
     simp only [Act.put, List.setIfInBounds_toArray, List.set_cons_zero, List.set_cons_succ]
     refine wpAnyH_takeD (i := 2) (some 163) (.int .i64 r) rfl rfl (by kernel_rfl) (by kernel_rfl) (by kernel_rfl) (fun _ _ _ h => h) (Or.inl ⟨by kernel_rfl, fun W hW => by obtain ⟨⟨s00, s01, s02⟩, ⟨s10, s11, s12⟩, ⟨s20, s21, s22⟩⟩ := hSc W hW; go_simp⟩) hS1 ?_
     simp only [Act.put, List.setIfInBounds_toArray, List.set_cons_zero, List.set_cons_succ]
     refine wpAnyH_takeD (i := 3) (some 164) (.bool true) rfl rfl (by kernel_rfl) (by kernel_rfl) (by kernel_rfl) (fun _ _ _ h => h) (Or.inl ⟨by kernel_rfl, fun W hW => by go_simp⟩) hS1 ?_
     simp only [Act.put, List.setIfInBounds_toArray, List.set_cons_zero, List.set_cons_succ]
     refine wpAnyH_takeD (i := 4) (some 165) (.bool true) rfl rfl (by kernel_rfl) (by kernel_rfl) (by kernel_rfl) (fun _ _ _ h => h) (Or.inl ⟨by kernel_rfl, fun W hW => by go_simp⟩) hS1 ?_
     simp only [Act.put, List.setIfInBounds_toArray, List.set_cons_zero, List.set_cons_succ]
     refine wpAnyH_takeD (i := 5) (some 166) (.agg #[.int .i64 r, .int .i64 r, .slice A6 n1 d6]) rfl rfl (by kernel_rfl) (by kernel_rfl) (by kernel_rfl) (fun _ _ _ h => h) (Or.inl ⟨by kernel_rfl, fun W hW => by obtain ⟨⟨s00, s01, s02⟩, ⟨s10, s11, s12⟩, ⟨s20, s21, s22⟩⟩ := hSc W hW; go_simp⟩) hS1 ?_
     simp only [Act.put, List.setIfInBounds_toArray, List.set_cons_zero, List.set_cons_succ]
     refine wpAnyH_takeD (i := 6) (some 167) (.pointer (some ⟨w.heap.size, 0, none⟩)) rfl rfl (by kernel_rfl) (by kernel_rfl) (by kernel_rfl) (fun _ _ _ h => h) (Or.inl ⟨by kernel_rfl, fun W hW => by go_simp⟩) hS1 ?_
     simp only [Act.put, List.setIfInBounds_toArray, List.set_cons_zero, List.set_cons_succ]
     refine wpAnyH_takeD (i := 7) (some 168) (.int .i64 r) rfl rfl (by kernel_rfl) (by kernel_rfl) (by kernel_rfl) (fun _ _ _ h => h) (Or.inl ⟨by kernel_rfl, fun W hW => by obtain ⟨⟨s00, s01, s02⟩, ⟨s10, s11, s12⟩, ⟨s20, s21, s22⟩⟩ := hSc W hW; go_simp⟩) hS1 ?_
     simp only [Act.put, List.setIfInBounds_toArray, List.set_cons_zero, List.set_cons_succ]
     refine wpAnyH_one (i := 8) (by kernel_rfl) rfl (by kernel_rfl) ?_
     go_simp
     refine (oneW HW.out r n1 I (by omega) K3.out.symm HI.out).mono ?_
     rintro e v14 ⟨A8, d8, rfl, hd8, HN⟩
     have HW := Lib.hid HN
     clear HN
     have hS2 : S v14 := hSi _ (HW.out.bx ⟨w.heap.size, r, r, A, n1, c1⟩ (by simp)) (HW.out.bx ⟨v12.heap.size, r, r, A6, n1, d6⟩ (by simp)) (HW.out.bx ⟨v13.heap.size, r, r, A7, n1, d7⟩ (by simp))
     show S v14 ∧ _
     refine ⟨hS2, ?_⟩
     refine wpAnyH_one (i := 9) (by kernel_rfl) rfl (by kernel_rfl) ?_
     go_simp
     refine (msameW HW.out r r r r A6 A8 I I n1 n1 d6 d8 (by simp) (by simp) HLI.out HLI.out true (sameB_refl _ _ _)).mono ?_
     rintro e v15 ⟨rfl, HN, -⟩
     have HW := Lib.hid HN
     clear HN
     have hS3 : S v15 := hSi _ (HW.out.bx ⟨w.heap.size, r, r, A, n1, c1⟩ (by simp)) (HW.out.bx ⟨v12.heap.size, r, r, A6, n1, d6⟩ (by simp)) (HW.out.bx ⟨v13.heap.size, r, r, A7, n1, d7⟩ (by simp))
     show S v15 ∧ _
     refine ⟨hS3, ?_⟩
     refine wpAnyH_takeD (i := 10) (some 171) (.bool true) rfl rfl (by kernel_rfl) (by kernel_rfl) (by kernel_rfl) (fun _ _ _ h => h) (Or.inl ⟨by kernel_rfl, fun W hW => by go_simp⟩) hS3 ?_
     simp only [Act.put, List.setIfInBounds_toArray, List.set_cons_zero, List.set_cons_succ]
     refine wpAnyH_takeD (i := 11) (some 172) (.bool true) rfl rfl (by kernel_rfl) (by kernel_rfl) (by kernel_rfl) (fun _ _ _ h => h) (Or.inl ⟨by kernel_rfl, fun W hW => by go_simp⟩) hS3 ?_
     simp only [Act.put, List.setIfInBounds_toArray, List.set_cons_zero, List.set_cons_succ]
     refine wpAnyH_takeD (i := 12) (some 173) (.agg #[.int .i64 r, .int .i64 r, .slice A7 n1 d7]) rfl rfl (by kernel_rfl) (by kernel_rfl) (by kernel_rfl) (fun _ _ _ h => h) (Or.inl ⟨by kernel_rfl, fun W hW => by obtain ⟨⟨s00, s01, s02⟩, ⟨s10, s11, s12⟩, ⟨s20, s21, s22⟩⟩ := hSc W hW; go_simp⟩) hS3 ?_
     simp only [Act.put, List.setIfInBounds_toArray, List.set_cons_zero, List.set_cons_succ]
     refine wpAnyH_takeD (i := 13) (some 174) (.agg #[.int .i64 r, .int .i64 r, .slice A6 n1 d6]) rfl rfl (by kernel_rfl) (by kernel_rfl) (by kernel_rfl) (fun _ _ _ h => h) (Or.inl ⟨by kernel_rfl, fun W hW => by obtain ⟨⟨s00, s01, s02⟩, ⟨s10, s11, s12⟩, ⟨s20, s21, s22⟩⟩ := hSc W hW; go_simp⟩) hS3 ?_
     simp only [Act.put, List.setIfInBounds_toArray, List.set_cons_zero, List.set_cons_succ]
     refine wpAnyH_one (i := 14) (by kernel_rfl) rfl (by kernel_rfl) ?_
     go_simp
     refine (msameW HW.out r r r r A7 A6 I I n1 n1 d7 d6 (by simp) (by simp) HLI.out HLI.out true (sameB_refl _ _ _)).mono ?_
     rintro e v16 ⟨rfl, HN, -⟩
     have HW := Lib.hid HN
     clear HN
     have hS4 : S v16 := hSi _ (HW.out.bx ⟨w.heap.size, r, r, A, n1, c1⟩ (by simp)) (HW.out.bx ⟨v12.heap.size, r, r, A6, n1, d6⟩ (by simp)) (HW.out.bx ⟨v13.heap.size, r, r, A7, n1, d7⟩ (by simp))
     show S v16 ∧ _
     refine ⟨hS4, ?_⟩
     refine wpAnyH_takeD (i := 15) (some 176) (.bool true) rfl rfl (by kernel_rfl) (by kernel_rfl) (by kernel_rfl) (fun _ _ _ h => h) (Or.inl ⟨by kernel_rfl, fun W hW => by go_simp⟩) hS4 ?_
     simp only [Act.put, List.setIfInBounds_toArray, List.set_cons_zero, List.set_cons_succ]
     refine wpAnyH_takeD (i := 16) (some 177) (.bool true) rfl rfl (by kernel_rfl) (by kernel_rfl) (by kernel_rfl) (fun _ _ _ h => h) (Or.inl ⟨by kernel_rfl, fun W hW => by go_simp⟩) hS4 ?_
     simp only [Act.put, List.setIfInBounds_toArray, List.set_cons_zero, List.set_cons_succ]
     refine wpAnyH_one (i := 17) (by kernel_rfl) rfl (by kernel_rfl) ?_
     go_simp
     refine (works_calls _).mono ?_
     rintro e v17 ⟨rfl, HZ⟩
     have HW := Lib.hid (HW.out.below HZ)
     clear HZ
     have hS5 : S v17 := hSi _ (HW.out.bx ⟨w.heap.size, r, r, A, n1, c1⟩ (by simp)) (HW.out.bx ⟨v12.heap.size, r, r, A6, n1, d6⟩ (by simp)) (HW.out.bx ⟨v13.heap.size, r, r, A7, n1, d7⟩ (by simp))
     show S v17 ∧ _
     refine ⟨hS5, ?_⟩
     refine wpAnyH_takeD (i := 18) (some 179) (.bool true) rfl rfl (by kernel_rfl) (by kernel_rfl) (by kernel_rfl) (fun _ _ _ h => h) (Or.inl ⟨by kernel_rfl, fun W hW => by go_simp⟩) hS5 ?_
     simp only [Act.put, List.setIfInBounds_toArray, List.set_cons_zero, List.set_cons_succ]
     refine wpAnyH_takeD (i := 19) (some 6) (.bool true) rfl rfl (by kernel_rfl) (by kernel_rfl) (by kernel_rfl) (fun _ _ _ h => h) (Or.inl ⟨by kernel_rfl, fun W hW => by go_simp⟩) hS5 ?_
     simp only [Act.put, List.setIfInBounds_toArray, List.set_cons_zero, List.set_cons_succ]
     refine wpAnyH_done (by kernel_rfl) ?_ _
     go_wp2
     go_ret
     exact ⟨rfl, HW.out.bel⟩
    obtain ⟨y1, y2, y3⟩ := Classical.not_not.1 x1
    clear x1
    obtain ⟨n', m, rfl, rfl, k4, k5, k6⟩ := rightB_iff.1 y2
    obtain rfl : n = n' := by omega
    have hm8 : m ≤ 8 := by omega
    have K6 := Lib.hid k6
    have hl2 : t.length = n * m := by rw [HL2.out, k6]
    obtain ⟨p, hp⟩ : ∃ z, flat r m (mulF n (ent s n) (ent t m)) = z := ⟨_, rfl⟩
    obtain ⟨Np, hNp⟩ : ∃ N, r * m = N := ⟨_, rfl⟩
    have hlp : p.length = Np := by rw [← hp, flat_length, hNp]
    have HBack : Hid (flat n m (ent t m) = t) := Lib.hid (flat_self hl2)
    have HEq : Hid (∀ i j, i < r → j < m → ent p m i j = mulF n (ent s n) (ent t m) i j) := Lib.hid (fun i j hi hj => by rw [← hp, ent_flat hi hj])
    have Hp := Lib.hid hp
    have HNp := Lib.hid hNp
    have Hlp := Lib.hid hlp
    clear y1 y2 y3 k4 k5 k6 srb scb snb hl2 hp hNp hlp
    obtain ⟨qb0, qb1, qb2⟩ := HW.out.at_ (b := w.heap.size + 1) (R := n) (C := m) (A := B) (n := n2) (c := c2) (by simp)
    go_wp2_with fail
    clear hmin hmn hmn2
    clear qa0 qa1 qa2 qb0 qb1 qb2
    refine (mulW HW.out r n m n1 n2 Np c1 c2 A B s t p (by simp) (by simp) (by omega) (by omega) (by omega) K3.out.symm K6.out.symm HNp.out hc1 hc2 HL1.out HL2.out Hp.out).mono ?_
    rintro e v7 ⟨A1, d1, rfl, hd1, HN⟩
    obtain ⟨v7x, hvv7x, -, HN⟩ := HN.var r m A1 Np d1
    have HW := Lib.hid HN
    clear HN
    obtain ⟨qa0, qa1, qa2⟩ := HW.out.at_ (b := w.heap.size) (R := r) (C := n) (A := A) (n := n1) (c := c1) (by simp)
    obtain ⟨qp0, qp1, qp2⟩ := HW.out.at_ (b := v7.heap.size) (R := r) (C := m) (A := A1) (n := Np) (c := d1) (by simp)
    by_cases hfull : ¬ k = n
    ·have hkb : ((k : Int) == (n : Int)) = false := by simp; omega
     have HNo : Hid (¬ ∃ X, Sol r n m (ent s n) (ent p m) X) := Lib.hid (fun h => hfull ((sol_exists_iff HEq.out HK.out).1 h))
     go_wp2_with fail
     clear hvv7x
     clear qa0 qa1 qa2 qp0 qp1 qp2
     refine (solveW_no HW.out r n m n1 Np c1 d1 A A1 s p (by simp) (by simp) (by omega) (by omega) (by omega) K3.out.symm HNp.out hc1 hd1 HL1.out Hlp.out HNo.out).mono ?_
     rintro e v8 ⟨A2, d2, rfl, -, HN⟩
     obtain ⟨v8x, hvv8x, -, HN⟩ := HN.var 0 0 A2 0 d2
     have HW := Lib.hid HN
     clear HN
     obtain ⟨qa0, qa1, qa2⟩ := HW.out.at_ (b := w.heap.size) (R := r) (C := n) (A := A) (n := n1) (c := c1) (by simp)
     obtain ⟨qc0, qc1, qc2⟩ := HW.out.at_ (b := w.heap.size + 2) (R := Rc) (C := Cc) (A := C) (n := n3) (c := c3) (by simp)
     by_cases x2 : ¬ (RightB r n n1 = true ∧ RightB Rc Cc n3 = true ∧ (r : Int) = Rc)
     ·have HX2 := Lib.hid x2
      clear x2
      go_wp2_with fail
      clear hvv8x
      clear qa0 qa1 qa2 qc0 qc1 qc2
      refine (solveW_bad HW.out r n Rc Cc n1 n3 c1 c3 A C HX2.out).mono ?_
      rintro e v9 ⟨A3, d3, rfl, -, HN⟩
      obtain ⟨v9x, hvv9x, -, HN⟩ := HN.var 0 0 A3 0 d3
      have HW := Lib.hid HN
      clear HN
      obtain ⟨qa0, qa1, qa2⟩ := HW.out.at_ (b := w.heap.size) (R := r) (C := n) (A := A) (n := n1) (c := c1) (by simp)
      by_cases hrn : ¬ r = n
      ·have hne : ((r : Int) != (n : Int)) = true := by simp; omega
       have HX9 : Hid (¬ (RightB r n n1 = true ∧ (r : Int) = (n : Int))) := Lib.hid (by rintro ⟨_, h⟩; omega)
       clear hrn
       go_wp2_with fail
       clear hvv9x
       clear qa0 qa1 qa2
       refine (inverseW_bad HW.out r n A n1 c1 HX9.out).mono ?_
       rintro e v10 ⟨A5, d5, rfl, -, HN⟩
       obtain ⟨v10x, hvv10x, -, HN⟩ := HN.var 0 0 A5 0 d5
       have HW := Lib.hid HN
       clear HN
       obtain ⟨qa0, qa1, qa2⟩ := HW.out.at_ (b := w.heap.size) (R := r) (C := n) (A := A) (n := n1) (c := c1) (by simp)
       go_wp2_with (go_at_call 23; (with_reducible refine (works_calls _).mono ?_); rintro e wz ⟨rfl, HZ⟩)
       go_ret
       exact ⟨rfl, (HW.out.below HZ).bel⟩
      obtain rfl := Classical.not_not.1 hrn
      clear hrn
      have hne : ((r : Int) != (r : Int)) = false := by simp
      have hne2 : ((r : Int) == (r : Int)) = true := by simp
      have hfl := hfull
      have HX9 : Hid (¬ ∃ X, Sol r r r (ent s r) (ent (flat r r oneF) r) X) := Lib.hid (fun h => hfl ((sol_inv_iff HK.out r).1 h))
      have hltN : k < r := by omega
      have hlt : decide ((k : Int) < (r : Int)) = true := by simp; omega
      clear hfl
      go_wp2_with fail
      clear hvv9x
      clear qa0 qa1 qa2
      refine (inverseW_no HW.out r n1 c1 A s (by simp) (by omega) K3.out.symm hc1 HL1.out HX9.out).mono ?_
      rintro e v10 ⟨A5, d5, rfl, -, HN⟩
      obtain ⟨v10x, hvv10x, -, HN⟩ := HN.var 0 0 A5 0 d5
      have HW := Lib.hid HN
      clear HN
      obtain ⟨qa0, qa1, qa2⟩ := HW.out.at_ (b := w.heap.size) (R := r) (C := r) (A := A) (n := n1) (c := c1) (by simp)
      go_wp2_with (go_at_call 23; (with_reducible refine (works_calls _).mono ?_); rintro e wz ⟨rfl, HZ⟩)
      go_ret
      exact ⟨rfl, (HW.out.below HZ).bel⟩
     obtain ⟨z1, z2, z3⟩ := Classical.not_not.1 x2
     clear x2
     obtain ⟨r', q, rfl, rfl, k7, k8, k9⟩ := rightB_iff.1 z2
     obtain rfl : r = r' := by omega
     have hq8 : q ≤ 8 := by have := small_le HS3.out; omega
     have K9 := Lib.hid k9
     have hl3 : u.length = r * q := by rw [HL3.out, k9]
     clear z1 z2 z3 k7 k8 k9
     by_cases x3 : ¬ ∃ X, Sol r n q (ent s n) (ent u q) X
     ·have HX3 := Lib.hid x3
      clear x3
      go_wp2_with fail
      clear hvv8x
      clear qa0 qa1 qa2 qc0 qc1 qc2
      refine (solveW_no HW.out r n q n1 n3 c1 c3 A C s u (by simp) (by simp) (by omega) (by omega) (by omega) K3.out.symm K9.out.symm hc1 hc3 HL1.out HL3.out HX3.out).mono ?_
      rintro e v9 ⟨A3, d3, rfl, -, HN⟩
      obtain ⟨v9x, hvv9x, -, HN⟩ := HN.var 0 0 A3 0 d3
      have HW := Lib.hid HN
      clear HN
      obtain ⟨qa0, qa1, qa2⟩ := HW.out.at_ (b := w.heap.size) (R := r) (C := n) (A := A) (n := n1) (c := c1) (by simp)
      by_cases hrn : ¬ r = n
      ·have hne : ((r : Int) != (n : Int)) = true := by simp; omega
       have HX9 : Hid (¬ (RightB r n n1 = true ∧ (r : Int) = (n : Int))) := Lib.hid (by rintro ⟨_, h⟩; omega)
       clear hrn
       go_wp2_with fail
       clear hvv9x
       clear qa0 qa1 qa2
       refine (inverseW_bad HW.out r n A n1 c1 HX9.out).mono ?_
       rintro e v10 ⟨A5, d5, rfl, -, HN⟩
       obtain ⟨v10x, hvv10x, -, HN⟩ := HN.var 0 0 A5 0 d5
       have HW := Lib.hid HN
       clear HN
       obtain ⟨qa0, qa1, qa2⟩ := HW.out.at_ (b := w.heap.size) (R := r) (C := n) (A := A) (n := n1) (c := c1) (by simp)
       go_wp2_with (go_at_call 23; (with_reducible refine (works_calls _).mono ?_); rintro e wz ⟨rfl, HZ⟩)
       go_ret
       exact ⟨rfl, (HW.out.below HZ).bel⟩
      obtain rfl := Classical.not_not.1 hrn
      clear hrn
      have hne : ((r : Int) != (r : Int)) = false := by simp
      have hne2 : ((r : Int) == (r : Int)) = true := by simp
      have hfl := hfull
      have HX9 : Hid (¬ ∃ X, Sol r r r (ent s r) (ent (flat r r oneF) r) X) := Lib.hid (fun h => hfl ((sol_inv_iff HK.out r).1 h))
      have hltN : k < r := by omega
      have hlt : decide ((k : Int) < (r : Int)) = true := by simp; omega
      clear hfl
      go_wp2_with fail
      clear hvv9x
      clear qa0 qa1 qa2
      refine (inverseW_no HW.out r n1 c1 A s (by simp) (by omega) K3.out.symm hc1 HL1.out HX9.out).mono ?_
      rintro e v10 ⟨A5, d5, rfl, -, HN⟩
      obtain ⟨v10x, hvv10x, -, HN⟩ := HN.var 0 0 A5 0 d5
      have HW := Lib.hid HN
      clear HN
      obtain ⟨qa0, qa1, qa2⟩ := HW.out.at_ (b := w.heap.size) (R := r) (C := r) (A := A) (n := n1) (c := c1) (by simp)
      go_wp2_with (go_at_call 23; (with_reducible refine (works_calls _).mono ?_); rintro e wz ⟨rfl, HZ⟩)
      go_ret
      exact ⟨rfl, (HW.out.below HZ).bel⟩
     obtain ⟨X, hX⟩ := Classical.not_not.1 x3
     clear x3
     obtain ⟨z, hz⟩ : ∃ z, flat n q X = z := ⟨_, rfl⟩
     obtain ⟨Nz, hNz⟩ : ∃ N, n * q = N := ⟨_, rfl⟩
     have HLz : Hid (z.length = Nz) := Lib.hid (by rw [← hz, flat_length, hNz])
     have HQm : Hid (flat r q (mulF n (ent s n) (ent z q)) = u) := Lib.hid (by rw [← hz]; exact sol_mul hl3 hX)
     have HX := Lib.hid hX
     have HZ := Lib.hid hz
     have HNz := Lib.hid hNz
     clear hX hz hNz hl3
     go_wp2_with fail
     clear hvv8x
     clear qa0 qa1 qa2 qc0 qc1 qc2
     refine (solveW_ok HW.out r n q n1 n3 Nz c1 c3 A C s u z _ (by simp) (by simp) (by omega) (by omega) (by omega) K3.out.symm K9.out.symm HNz.out hc1 hc3 HL1.out HL3.out HX.out HZ.out).mono ?_
     rintro e v9 ⟨A3, d3, rfl, hd3, HN⟩
     obtain ⟨v9x, hvv9x, -, HN⟩ := HN.var n q A3 Nz d3
     have HW := Lib.hid HN
     clear HN
     obtain ⟨qa0, qa1, qa2⟩ := HW.out.at_ (b := w.heap.size) (R := r) (C := n) (A := A) (n := n1) (c := c1) (by simp)
     obtain ⟨qs0, qs1, qs2⟩ := HW.out.at_ (b := v9.heap.size) (R := n) (C := q) (A := A3) (n := Nz) (c := d3) (by simp)
     go_wp2_with fail
     clear hvv9x
     clear qa0 qa1 qa2 qs0 qs1 qs2
     refine (mulW HW.out r n q n1 Nz n3 c1 d3 A A3 s z u (by simp) (by simp) (by omega) (by omega) (by omega) K3.out.symm HNz.out K9.out.symm hc1 hd3 HL1.out HLz.out HQm.out).mono ?_
     rintro e v10 ⟨A4, d4, rfl, hd4, HN⟩
     obtain ⟨v10x, hvv10x, -, HN⟩ := HN.var r q A4 n3 d4
     have HW := Lib.hid HN
     clear HN
     obtain ⟨qq0, qq1, qq2⟩ := HW.out.at_ (b := v10.heap.size) (R := r) (C := q) (A := A4) (n := n3) (c := d4) (by simp)
     obtain ⟨qc0, qc1, qc2⟩ := HW.out.at_ (b := w.heap.size + 2) (R := r) (C := q) (A := C) (n := n3) (c := c3) (by simp)
     go_wp2_with fail
     clear hvv10x
     clear qq0 qq1 qq2 qc0 qc1 qc2
     refine (msameW HW.out r q r q A4 C u u n3 n3 d4 c3 (by simp) (by simp) HL3.out HL3.out true (sameB_refl _ _ _)).mono ?_
     rintro e v11 ⟨rfl, HN, -⟩
     have HW := Lib.hid HN
     clear HN
     obtain ⟨qa0, qa1, qa2⟩ := HW.out.at_ (b := w.heap.size) (R := r) (C := n) (A := A) (n := n1) (c := c1) (by simp)
     by_cases hrn : ¬ r = n
     ·have hne : ((r : Int) != (n : Int)) = true := by simp; omega
      have HX9 : Hid (¬ (RightB r n n1 = true ∧ (r : Int) = (n : Int))) := Lib.hid (by rintro ⟨_, h⟩; omega)
      clear hrn
      go_wp2_with fail
      clear qa0 qa1 qa2
      refine (inverseW_bad HW.out r n A n1 c1 HX9.out).mono ?_
      rintro e v12 ⟨A5, d5, rfl, -, HN⟩
      obtain ⟨v12x, hvv12x, -, HN⟩ := HN.var 0 0 A5 0 d5
      have HW := Lib.hid HN
      clear HN
      obtain ⟨qa0, qa1, qa2⟩ := HW.out.at_ (b := w.heap.size) (R := r) (C := n) (A := A) (n := n1) (c := c1) (by simp)
      go_wp2_with (go_at_call 23; (with_reducible refine (works_calls _).mono ?_); rintro e wz ⟨rfl, HZ⟩)
      go_ret
      exact ⟨rfl, (HW.out.below HZ).bel⟩
     obtain rfl := Classical.not_not.1 hrn
     clear hrn
     have hne : ((r : Int) != (r : Int)) = false := by simp
     have hne2 : ((r : Int) == (r : Int)) = true := by simp
     have hfl := hfull
     have HX9 : Hid (¬ ∃ X, Sol r r r (ent s r) (ent (flat r r oneF) r) X) := Lib.hid (fun h => hfl ((sol_inv_iff HK.out r).1 h))
     have hltN : k < r := by omega
     have hlt : decide ((k : Int) < (r : Int)) = true := by simp; omega
     clear hfl
     go_wp2_with fail
     clear qa0 qa1 qa2
     refine (inverseW_no HW.out r n1 c1 A s (by simp) (by omega) K3.out.symm hc1 HL1.out HX9.out).mono ?_
     rintro e v12 ⟨A5, d5, rfl, -, HN⟩
     obtain ⟨v12x, hvv12x, -, HN⟩ := HN.var 0 0 A5 0 d5
     have HW := Lib.hid HN
     clear HN
     obtain ⟨qa0, qa1, qa2⟩ := HW.out.at_ (b := w.heap.size) (R := r) (C := r) (A := A) (n := n1) (c := c1) (by simp)
     go_wp2_with (go_at_call 23; (with_reducible refine (works_calls _).mono ?_); rintro e wz ⟨rfl, HZ⟩)
     go_ret
     exact ⟨rfl, (HW.out.below HZ).bel⟩
    have hfull := Classical.not_not.1 hfull
    have hkb : ((k : Int) == (n : Int)) = true := by simp; omega
    have HSol : Hid (Sol r n m (ent s n) (ent p m) (ent t m)) := Lib.hid ⟨HK.out.full.1 hfull, fun i j hi hj => (HEq.out i j hi hj).symm⟩
    go_wp2_with fail
    clear hvv7x
    clear qa0 qa1 qa2 qp0 qp1 qp2
    refine (solveW_ok HW.out r n m n1 Np n2 c1 d1 A A1 s p t _ (by simp) (by simp) (by omega) (by omega) (by omega) K3.out.symm HNp.out K6.out.symm hc1 hd1 HL1.out Hlp.out HSol.out HBack.out).mono ?_
    rintro e v8 ⟨A2, d2, rfl, hd2, HN⟩
    obtain ⟨v8x, hvv8x, -, HN⟩ := HN.var n m A2 n2 d2
    have HW := Lib.hid HN
    clear HN
    obtain ⟨qa0, qa1, qa2⟩ := HW.out.at_ (b := w.heap.size) (R := r) (C := n) (A := A) (n := n1) (c := c1) (by simp)
    obtain ⟨qy0, qy1, qy2⟩ := HW.out.at_ (b := v8.heap.size) (R := n) (C := m) (A := A2) (n := n2) (c := d2) (by simp)
    obtain ⟨qb0, qb1, qb2⟩ := HW.out.at_ (b := w.heap.size + 1) (R := n) (C := m) (A := B) (n := n2) (c := c2) (by simp)
    go_wp2_with fail
    clear hvv8x
    clear qa0 qa1 qa2 qy0 qy1 qy2 qb0 qb1 qb2
    refine (msameW HW.out n m n m A2 B t t n2 n2 d2 c2 (by simp) (by simp) HL2.out HL2.out true (sameB_refl _ _ _)).mono ?_
    rintro e v9 ⟨rfl, HN, -⟩
    have HW := Lib.hid HN
    clear HN
    obtain ⟨qa0, qa1, qa2⟩ := HW.out.at_ (b := w.heap.size) (R := r) (C := n) (A := A) (n := n1) (c := c1) (by simp)
    obtain ⟨qc0, qc1, qc2⟩ := HW.out.at_ (b := w.heap.size + 2) (R := Rc) (C := Cc) (A := C) (n := n3) (c := c3) (by simp)
    by_cases x2 : ¬ (RightB r n n1 = true ∧ RightB Rc Cc n3 = true ∧ (r : Int) = Rc)
    ·have HX2 := Lib.hid x2
     clear x2
     go_wp2_with fail
     clear qa0 qa1 qa2 qc0 qc1 qc2
     refine (solveW_bad HW.out r n Rc Cc n1 n3 c1 c3 A C HX2.out).mono ?_
     rintro e v10 ⟨A3, d3, rfl, -, HN⟩
     obtain ⟨v10x, hvv10x, -, HN⟩ := HN.var 0 0 A3 0 d3
     have HW := Lib.hid HN
     clear HN
     obtain ⟨qa0, qa1, qa2⟩ := HW.out.at_ (b := w.heap.size) (R := r) (C := n) (A := A) (n := n1) (c := c1) (by simp)
     by_cases hrn : ¬ r = n
     ·have hne : ((r : Int) != (n : Int)) = true := by simp; omega
      have HX9 : Hid (¬ (RightB r n n1 = true ∧ (r : Int) = (n : Int))) := Lib.hid (by rintro ⟨_, h⟩; omega)
      clear hrn
      go_wp2_with fail
      clear hvv10x
      clear qa0 qa1 qa2
      refine (inverseW_bad HW.out r n A n1 c1 HX9.out).mono ?_
      rintro e v11 ⟨A5, d5, rfl, -, HN⟩
      obtain ⟨v11x, hvv11x, -, HN⟩ := HN.var 0 0 A5 0 d5
      have HW := Lib.hid HN
      clear HN
      obtain ⟨qa0, qa1, qa2⟩ := HW.out.at_ (b := w.heap.size) (R := r) (C := n) (A := A) (n := n1) (c := c1) (by simp)
      go_wp2_with (go_at_call 23; (with_reducible refine (works_calls _).mono ?_); rintro e wz ⟨rfl, HZ⟩)
      go_ret
      exact ⟨rfl, (HW.out.below HZ).bel⟩
     obtain rfl := Classical.not_not.1 hrn
     clear hrn
     have hne : ((r : Int) != (r : Int)) = false := by simp
     have hne2 : ((r : Int) == (r : Int)) = true := by simp
     have hfl := hfull
     obtain ⟨Y, hY⟩ := (sol_inv_iff HK.out (b := ent (flat r r oneF) r) r).2 hfl
     have hkb2 : ((k : Int) == (r : Int)) = true := by simp; omega
     obtain ⟨V, hV⟩ : ∃ z, flat r r Y = z := ⟨_, rfl⟩
     obtain ⟨I, hI⟩ : ∃ z, flat r r oneF = z := ⟨_, rfl⟩
     have HLV : Hid (V.length = n1) := Lib.hid (by rw [← hV, flat_length]; exact K3.out.symm)
     have HLI : Hid (I.length = n1) := Lib.hid (by rw [← hI, flat_length]; exact K3.out.symm)
     have HRt : Hid (flat r r (mulF r (ent s r) (ent V r)) = I) := Lib.hid (by rw [← hV, ← hI]; exact inv_right hY)
     have HLt : Hid (flat r r (mulF r (ent V r) (ent s r)) = I) := Lib.hid (by rw [← hV, ← hI]; exact inv_left hY)
     have HY := Lib.hid hY
     have HV := Lib.hid hV
     have HI := Lib.hid hI
     clear hY hV hI hfl
     go_wp2_with fail
     clear hvv10x
     clear qa0 qa1 qa2
     refine (inverseW_ok HW.out r n1 c1 A s V _ (by simp) (by omega) K3.out.symm hc1 HL1.out HY.out HV.out).mono ?_
     rintro e v11 ⟨A5, d5, rfl, hd5, HN⟩
     obtain ⟨v11x, hvv11x, -, HN⟩ := HN.var r r A5 n1 d5
     have HW := Lib.hid HN
     clear HN
     obtain ⟨qa0, qa1, qa2⟩ := HW.out.at_ (b := w.heap.size) (R := r) (C := r) (A := A) (n := n1) (c := c1) (by simp)
     obtain ⟨qv0, qv1, qv2⟩ := HW.out.at_ (b := v11.heap.size) (R := r) (C := r) (A := A5) (n := n1) (c := d5) (by simp)
     go_wp2_with fail
     clear hvv11x
     clear qa0 qa1 qa2 qv0 qv1 qv2
     refine (mulW HW.out r r r n1 n1 n1 c1 d5 A A5 s V I (by simp) (by simp) (by omega) (by omega) (by omega) K3.out.symm K3.out.symm K3.out.symm hc1 hd5 HL1.out HLV.out HRt.out).mono ?_
     rintro e v12 ⟨A6, d6, rfl, hd6, HN⟩
     obtain ⟨v12x, hvv12x, -, HN⟩ := HN.var r r A6 n1 d6
     have HW := Lib.hid HN
     clear HN
     obtain ⟨qv0, qv1, qv2⟩ := HW.out.at_ (b := v11.heap.size) (R := r) (C := r) (A := A5) (n := n1) (c := d5) (by simp)
     obtain ⟨qa0, qa1, qa2⟩ := HW.out.at_ (b := w.heap.size) (R := r) (C := r) (A := A) (n := n1) (c := c1) (by simp)
     go_wp2_with fail
     clear hvv12x
     clear qv0 qv1 qv2 qa0 qa1 qa2
     refine (mulW HW.out r r r n1 n1 n1 d5 c1 A5 A V s I (by simp) (by simp) (by omega) (by omega) (by omega) K3.out.symm K3.out.symm K3.out.symm hd5 hc1 HLV.out HL1.out HLt.out).mono ?_
     rintro e v13 ⟨A7, d7, rfl, hd7, HN⟩
     obtain ⟨v13x, hvv13x, -, HN⟩ := HN.var r r A7 n1 d7
     have HW := Lib.hid HN
     clear HN
     go_wp2_with fail
     clear hvv13x
     have hmx : Try.prog.follows .mixedOrders = true := by kernel_rfl
     obtain ⟨S, hSdef⟩ : ∃ S : World → Prop, S = fun V => Bx.In V ⟨w.heap.size, r, r, A, n1, c1⟩ ∧ Bx.In V ⟨v12.heap.size, r, r, A6, n1, d6⟩ ∧ Bx.In V ⟨v13.heap.size, r, r, A7, n1, d7⟩ := ⟨_, rfl⟩
     have hSi : ∀ V, Bx.In V ⟨w.heap.size, r, r, A, n1, c1⟩ → Bx.In V ⟨v12.heap.size, r, r, A6, n1, d6⟩ → Bx.In V ⟨v13.heap.size, r, r, A7, n1, d7⟩ → S V := fun V h0 h1 h2 => by rw [hSdef]; exact ⟨h0, h1, h2⟩
     have hSc : ∀ V, S V → (V.cell? ⟨w.heap.size, 0, none⟩ = some (.int .i64 r) ∧ V.cell? ⟨w.heap.size, 1, none⟩ = some (.int .i64 r) ∧ V.cell? ⟨w.heap.size, 2, none⟩ = some (.slice A n1 c1)) ∧ (V.cell? ⟨v12.heap.size, 0, none⟩ = some (.int .i64 r) ∧ V.cell? ⟨v12.heap.size, 1, none⟩ = some (.int .i64 r) ∧ V.cell? ⟨v12.heap.size, 2, none⟩ = some (.slice A6 n1 d6)) ∧ (V.cell? ⟨v13.heap.size, 0, none⟩ = some (.int .i64 r) ∧ V.cell? ⟨v13.heap.size, 1, none⟩ = some (.int .i64 r) ∧ V.cell? ⟨v13.heap.size, 2, none⟩ = some (.slice A7 n1 d7)) := fun V hV => by rw [hSdef] at hV; exact ⟨cells3 hV.1, cells3 hV.2.1, cells3 hV.2.2⟩
     clear hSdef
     have HW := Lib.hid HW.out.drew
     have hS1 : S v13x.drew := hSi _ (HW.out.bx ⟨w.heap.size, r, r, A, n1, c1⟩ (by simp)) (HW.out.bx ⟨v12.heap.size, r, r, A6, n1, d6⟩ (by simp)) (HW.out.bx ⟨v13.heap.size, r, r, A7, n1, d7⟩ (by simp))
     refine wp_region_held (S := S) hmx ?_
     refine wpAnyH_takeD (i := 0) (some 161) (.int .i64 k) rfl rfl (by kernel_rfl) (by kernel_rfl) (by kernel_rfl) (fun _ _ _ h => h) (Or.inl ⟨by kernel_rfl, fun W hW => by go_simp⟩) hS1 ?_
     simp only [Act.put, List.setIfInBounds_toArray, List.set_cons_zero, List.set_cons_succ]
     refine wpAnyH_takeD (i := 1) (some 162) (.pointer (some ⟨w.heap.size, 0, none⟩)) rfl rfl (by kernel_rfl) (by kernel_rfl) (by kernel_rfl) (fun _ _ _ h => h) (Or.inl ⟨by kernel_rfl, fun W hW => by go_simp⟩) hS1 ?_
     simp only [Act.put, List.setIfInBounds_toArray, List.set_cons_zero, List.set_cons_succ]
     refine wpAnyH_takeD (i := 2) (some 163) (.int .i64 r) rfl rfl (by kernel_rfl) (by kernel_rfl) (by kernel_rfl) (fun _ _ _ h => h) (Or.inl ⟨by kernel_rfl, fun W hW => by obtain ⟨⟨s00, s01, s02⟩, ⟨s10, s11, s12⟩, ⟨s20, s21, s22⟩⟩ := hSc W hW; go_simp⟩) hS1 ?_
     simp only [Act.put, List.setIfInBounds_toArray, List.set_cons_zero, List.set_cons_succ]
     refine wpAnyH_takeD (i := 3) (some 164) (.bool true) rfl rfl (by kernel_rfl) (by kernel_rfl) (by kernel_rfl) (fun _ _ _ h => h) (Or.inl ⟨by kernel_rfl, fun W hW => by go_simp⟩) hS1 ?_
     simp only [Act.put, List.setIfInBounds_toArray, List.set_cons_zero, List.set_cons_succ]
     refine wpAnyH_takeD (i := 4) (some 165) (.bool true) rfl rfl (by kernel_rfl) (by kernel_rfl) (by kernel_rfl) (fun _ _ _ h => h) (Or.inl ⟨by kernel_rfl, fun W hW => by go_simp⟩) hS1 ?_
     simp only [Act.put, List.setIfInBounds_toArray, List.set_cons_zero, List.set_cons_succ]
     refine wpAnyH_takeD (i := 5) (some 166) (.agg #[.int .i64 r, .int .i64 r, .slice A6 n1 d6]) rfl rfl (by kernel_rfl) (by kernel_rfl) (by kernel_rfl) (fun _ _ _ h => h) (Or.inl ⟨by kernel_rfl, fun W hW => by obtain ⟨⟨s00, s01, s02⟩, ⟨s10, s11, s12⟩, ⟨s20, s21, s22⟩⟩ := hSc W hW; go_simp⟩) hS1 ?_
     simp only [Act.put, List.setIfInBounds_toArray, List.set_cons_zero, List.set_cons_succ]
     refine wpAnyH_takeD (i := 6) (some 167) (.pointer (some ⟨w.heap.size, 0, none⟩)) rfl rfl (by kernel_rfl) (by kernel_rfl) (by kernel_rfl) (fun _ _ _ h => h) (Or.inl ⟨by kernel_rfl, fun W hW => by go_simp⟩) hS1 ?_
     simp only [Act.put, List.setIfInBounds_toArray, List.set_cons_zero, List.set_cons_succ]
     refine wpAnyH_takeD (i := 7) (some 168) (.int .i64 r) rfl rfl (by kernel_rfl) (by kernel_rfl) (by kernel_rfl) (fun _ _ _ h => h) (Or.inl ⟨by kernel_rfl, fun W hW => by obtain ⟨⟨s00, s01, s02⟩, ⟨s10, s11, s12⟩, ⟨s20, s21, s22⟩⟩ := hSc W hW; go_simp⟩) hS1 ?_
     simp only [Act.put, List.setIfInBounds_toArray, List.set_cons_zero, List.set_cons_succ]
     refine wpAnyH_one (i := 8) (by kernel_rfl) rfl (by kernel_rfl) ?_
     go_simp
     refine (oneW HW.out r n1 I (by omega) K3.out.symm HI.out).mono ?_
     rintro e v14 ⟨A8, d8, rfl, hd8, HN⟩
     have HW := Lib.hid HN
     clear HN
     have hS2 : S v14 := hSi _ (HW.out.bx ⟨w.heap.size, r, r, A, n1, c1⟩ (by simp)) (HW.out.bx ⟨v12.heap.size, r, r, A6, n1, d6⟩ (by simp)) (HW.out.bx ⟨v13.heap.size, r, r, A7, n1, d7⟩ (by simp))
     show S v14 ∧ _
     refine ⟨hS2, ?_⟩
     refine wpAnyH_one (i := 9) (by kernel_rfl) rfl (by kernel_rfl) ?_
     go_simp
     refine (msameW HW.out r r r r A6 A8 I I n1 n1 d6 d8 (by simp) (by simp) HLI.out HLI.out true (sameB_refl _ _ _)).mono ?_
     rintro e v15 ⟨rfl, HN, -⟩
     have HW := Lib.hid HN
     clear HN
     have hS3 : S v15 := hSi _ (HW.out.bx ⟨w.heap.size, r, r, A, n1, c1⟩ (by simp)) (HW.out.bx ⟨v12.heap.size, r, r, A6, n1, d6⟩ (by simp)) (HW.out.bx ⟨v13.heap.size, r, r, A7, n1, d7⟩ (by simp))
     show S v15 ∧ _
     refine ⟨hS3, ?_⟩
     refine wpAnyH_takeD (i := 10) (some 171) (.bool true) rfl rfl (by kernel_rfl) (by kernel_rfl) (by kernel_rfl) (fun _ _ _ h => h) (Or.inl ⟨by kernel_rfl, fun W hW => by go_simp⟩) hS3 ?_
     simp only [Act.put, List.setIfInBounds_toArray, List.set_cons_zero, List.set_cons_succ]
     refine wpAnyH_takeD (i := 11) (some 172) (.bool true) rfl rfl (by kernel_rfl) (by kernel_rfl) (by kernel_rfl) (fun _ _ _ h => h) (Or.inl ⟨by kernel_rfl, fun W hW => by go_simp⟩) hS3 ?_
     simp only [Act.put, List.setIfInBounds_toArray, List.set_cons_zero, List.set_cons_succ]
     refine wpAnyH_takeD (i := 12) (some 173) (.agg #[.int .i64 r, .int .i64 r, .slice A7 n1 d7]) rfl rfl (by kernel_rfl) (by kernel_rfl) (by kernel_rfl) (fun _ _ _ h => h) (Or.inl ⟨by kernel_rfl, fun W hW => by obtain ⟨⟨s00, s01, s02⟩, ⟨s10, s11, s12⟩, ⟨s20, s21, s22⟩⟩ := hSc W hW; go_simp⟩) hS3 ?_
     simp only [Act.put, List.setIfInBounds_toArray, List.set_cons_zero, List.set_cons_succ]
     refine wpAnyH_takeD (i := 13) (some 174) (.agg #[.int .i64 r, .int .i64 r, .slice A6 n1 d6]) rfl rfl (by kernel_rfl) (by kernel_rfl) (by kernel_rfl) (fun _ _ _ h => h) (Or.inl ⟨by kernel_rfl, fun W hW => by obtain ⟨⟨s00, s01, s02⟩, ⟨s10, s11, s12⟩, ⟨s20, s21, s22⟩⟩ := hSc W hW; go_simp⟩) hS3 ?_
     simp only [Act.put, List.setIfInBounds_toArray, List.set_cons_zero, List.set_cons_succ]
     refine wpAnyH_one (i := 14) (by kernel_rfl) rfl (by kernel_rfl) ?_
     go_simp
     refine (msameW HW.out r r r r A7 A6 I I n1 n1 d7 d6 (by simp) (by simp) HLI.out HLI.out true (sameB_refl _ _ _)).mono ?_
     rintro e v16 ⟨rfl, HN, -⟩
     have HW := Lib.hid HN
     clear HN
     have hS4 : S v16 := hSi _ (HW.out.bx ⟨w.heap.size, r, r, A, n1, c1⟩ (by simp)) (HW.out.bx ⟨v12.heap.size, r, r, A6, n1, d6⟩ (by simp)) (HW.out.bx ⟨v13.heap.size, r, r, A7, n1, d7⟩ (by simp))
     show S v16 ∧ _
     refine ⟨hS4, ?_⟩
     refine wpAnyH_takeD (i := 15) (some 176) (.bool true) rfl rfl (by kernel_rfl) (by kernel_rfl) (by kernel_rfl) (fun _ _ _ h => h) (Or.inl ⟨by kernel_rfl, fun W hW => by go_simp⟩) hS4 ?_
     simp only [Act.put, List.setIfInBounds_toArray, List.set_cons_zero, List.set_cons_succ]
     refine wpAnyH_takeD (i := 16) (some 177) (.bool true) rfl rfl (by kernel_rfl) (by kernel_rfl) (by kernel_rfl) (fun _ _ _ h => h) (Or.inl ⟨by kernel_rfl, fun W hW => by go_simp⟩) hS4 ?_
     simp only [Act.put, List.setIfInBounds_toArray, List.set_cons_zero, List.set_cons_succ]
     refine wpAnyH_one (i := 17) (by kernel_rfl) rfl (by kernel_rfl) ?_
     go_simp
     refine (works_calls _).mono ?_
     rintro e v17 ⟨rfl, HZ⟩
     have HW := Lib.hid (HW.out.below HZ)
     clear HZ
     have hS5 : S v17 := hSi _ (HW.out.bx ⟨w.heap.size, r, r, A, n1, c1⟩ (by simp)) (HW.out.bx ⟨v12.heap.size, r, r, A6, n1, d6⟩ (by simp)) (HW.out.bx ⟨v13.heap.size, r, r, A7, n1, d7⟩ (by simp))
     show S v17 ∧ _
     refine ⟨hS5, ?_⟩
     refine wpAnyH_takeD (i := 18) (some 179) (.bool true) rfl rfl (by kernel_rfl) (by kernel_rfl) (by kernel_rfl) (fun _ _ _ h => h) (Or.inl ⟨by kernel_rfl, fun W hW => by go_simp⟩) hS5 ?_
     simp only [Act.put, List.setIfInBounds_toArray, List.set_cons_zero, List.set_cons_succ]
     refine wpAnyH_takeD (i := 19) (some 6) (.bool true) rfl rfl (by kernel_rfl) (by kernel_rfl) (by kernel_rfl) (fun _ _ _ h => h) (Or.inl ⟨by kernel_rfl, fun W hW => by go_simp⟩) hS5 ?_
     simp only [Act.put, List.setIfInBounds_toArray, List.set_cons_zero, List.set_cons_succ]
     refine wpAnyH_done (by kernel_rfl) ?_ _
     go_wp2
     go_ret
     exact ⟨rfl, HW.out.bel⟩
    obtain ⟨z1, z2, z3⟩ := Classical.not_not.1 x2
    clear x2
    obtain ⟨r', q, rfl, rfl, k7, k8, k9⟩ := rightB_iff.1 z2
    obtain rfl : r = r' := by omega
    have hq8 : q ≤ 8 := by have := small_le HS3.out; omega
    have K9 := Lib.hid k9
    have hl3 : u.length = r * q := by rw [HL3.out, k9]
    clear z1 z2 z3 k7 k8 k9
    by_cases x3 : ¬ ∃ X, Sol r n q (ent s n) (ent u q) X
    ·have HX3 := Lib.hid x3
     clear x3
     go_wp2_with fail
     clear qa0 qa1 qa2 qc0 qc1 qc2
     refine (solveW_no HW.out r n q n1 n3 c1 c3 A C s u (by simp) (by simp) (by omega) (by omega) (by omega) K3.out.symm K9.out.symm hc1 hc3 HL1.out HL3.out HX3.out).mono ?_
     rintro e v10 ⟨A3, d3, rfl, -, HN⟩
     obtain ⟨v10x, hvv10x, -, HN⟩ := HN.var 0 0 A3 0 d3
     have HW := Lib.hid HN
     clear HN
     obtain ⟨qa0, qa1, qa2⟩ := HW.out.at_ (b := w.heap.size) (R := r) (C := n) (A := A) (n := n1) (c := c1) (by simp)
     by_cases hrn : ¬ r = n
     ·have hne : ((r : Int) != (n : Int)) = true := by simp; omega
      have HX9 : Hid (¬ (RightB r n n1 = true ∧ (r : Int) = (n : Int))) := Lib.hid (by rintro ⟨_, h⟩; omega)
      clear hrn
      go_wp2_with fail
      clear hvv10x
      clear qa0 qa1 qa2
      refine (inverseW_bad HW.out r n A n1 c1 HX9.out).mono ?_
      rintro e v11 ⟨A5, d5, rfl, -, HN⟩
      obtain ⟨v11x, hvv11x, -, HN⟩ := HN.var 0 0 A5 0 d5
      have HW := Lib.hid HN
      clear HN
      obtain ⟨qa0, qa1, qa2⟩ := HW.out.at_ (b := w.heap.size) (R := r) (C := n) (A := A) (n := n1) (c := c1) (by simp)
      go_wp2_with (go_at_call 23; (with_reducible refine (works_calls _).mono ?_); rintro e wz ⟨rfl, HZ⟩)
      go_ret
      exact ⟨rfl, (HW.out.below HZ).bel⟩
     obtain rfl := Classical.not_not.1 hrn
     clear hrn
     have hne : ((r : Int) != (r : Int)) = false := by simp
     have hne2 : ((r : Int) == (r : Int)) = true := by simp
     have hfl := hfull
     obtain ⟨Y, hY⟩ := (sol_inv_iff HK.out (b := ent (flat r r oneF) r) r).2 hfl
     have hkb2 : ((k : Int) == (r : Int)) = true := by simp; omega
     obtain ⟨V, hV⟩ : ∃ z, flat r r Y = z := ⟨_, rfl⟩
     obtain ⟨I, hI⟩ : ∃ z, flat r r oneF = z := ⟨_, rfl⟩
     have HLV : Hid (V.length = n1) := Lib.hid (by rw [← hV, flat_length]; exact K3.out.symm)
     have HLI : Hid (I.length = n1) := Lib.hid (by rw [← hI, flat_length]; exact K3.out.symm)
     have HRt : Hid (flat r r (mulF r (ent s r) (ent V r)) = I) := Lib.hid (by rw [← hV, ← hI]; exact inv_right hY)
     have HLt : Hid (flat r r (mulF r (ent V r) (ent s r)) = I) := Lib.hid (by rw [← hV, ← hI]; exact inv_left hY)
     have HY := Lib.hid hY
     have HV := Lib.hid hV
     have HI := Lib.hid hI
     clear hY hV hI hfl
     go_wp2_with fail
     clear hvv10x
     clear qa0 qa1 qa2
     refine (inverseW_ok HW.out r n1 c1 A s V _ (by simp) (by omega) K3.out.symm hc1 HL1.out HY.out HV.out).mono ?_
     rintro e v11 ⟨A5, d5, rfl, hd5, HN⟩
     obtain ⟨v11x, hvv11x, -, HN⟩ := HN.var r r A5 n1 d5
     have HW := Lib.hid HN
     clear HN
     obtain ⟨qa0, qa1, qa2⟩ := HW.out.at_ (b := w.heap.size) (R := r) (C := r) (A := A) (n := n1) (c := c1) (by simp)
     obtain ⟨qv0, qv1, qv2⟩ := HW.out.at_ (b := v11.heap.size) (R := r) (C := r) (A := A5) (n := n1) (c := d5) (by simp)
     go_wp2_with fail
     clear hvv11x
     clear qa0 qa1 qa2 qv0 qv1 qv2
     refine (mulW HW.out r r r n1 n1 n1 c1 d5 A A5 s V I (by simp) (by simp) (by omega) (by omega) (by omega) K3.out.symm K3.out.symm K3.out.symm hc1 hd5 HL1.out HLV.out HRt.out).mono ?_
     rintro e v12 ⟨A6, d6, rfl, hd6, HN⟩
     obtain ⟨v12x, hvv12x, -, HN⟩ := HN.var r r A6 n1 d6
     have HW := Lib.hid HN
     clear HN
     obtain ⟨qv0, qv1, qv2⟩ := HW.out.at_ (b := v11.heap.size) (R := r) (C := r) (A := A5) (n := n1) (c := d5) (by simp)
     obtain ⟨qa0, qa1, qa2⟩ := HW.out.at_ (b := w.heap.size) (R := r) (C := r) (A := A) (n := n1) (c := c1) (by simp)
     go_wp2_with fail
     clear hvv12x
     clear qv0 qv1 qv2 qa0 qa1 qa2
     refine (mulW HW.out r r r n1 n1 n1 d5 c1 A5 A V s I (by simp) (by simp) (by omega) (by omega) (by omega) K3.out.symm K3.out.symm K3.out.symm hd5 hc1 HLV.out HL1.out HLt.out).mono ?_
     rintro e v13 ⟨A7, d7, rfl, hd7, HN⟩
     obtain ⟨v13x, hvv13x, -, HN⟩ := HN.var r r A7 n1 d7
     have HW := Lib.hid HN
     clear HN
     go_wp2_with fail
     clear hvv13x
     have hmx : Try.prog.follows .mixedOrders = true := by kernel_rfl
     obtain ⟨S, hSdef⟩ : ∃ S : World → Prop, S = fun V => Bx.In V ⟨w.heap.size, r, r, A, n1, c1⟩ ∧ Bx.In V ⟨v12.heap.size, r, r, A6, n1, d6⟩ ∧ Bx.In V ⟨v13.heap.size, r, r, A7, n1, d7⟩ := ⟨_, rfl⟩
     have hSi : ∀ V, Bx.In V ⟨w.heap.size, r, r, A, n1, c1⟩ → Bx.In V ⟨v12.heap.size, r, r, A6, n1, d6⟩ → Bx.In V ⟨v13.heap.size, r, r, A7, n1, d7⟩ → S V := fun V h0 h1 h2 => by rw [hSdef]; exact ⟨h0, h1, h2⟩
     have hSc : ∀ V, S V → (V.cell? ⟨w.heap.size, 0, none⟩ = some (.int .i64 r) ∧ V.cell? ⟨w.heap.size, 1, none⟩ = some (.int .i64 r) ∧ V.cell? ⟨w.heap.size, 2, none⟩ = some (.slice A n1 c1)) ∧ (V.cell? ⟨v12.heap.size, 0, none⟩ = some (.int .i64 r) ∧ V.cell? ⟨v12.heap.size, 1, none⟩ = some (.int .i64 r) ∧ V.cell? ⟨v12.heap.size, 2, none⟩ = some (.slice A6 n1 d6)) ∧ (V.cell? ⟨v13.heap.size, 0, none⟩ = some (.int .i64 r) ∧ V.cell? ⟨v13.heap.size, 1, none⟩ = some (.int .i64 r) ∧ V.cell? ⟨v13.heap.size, 2, none⟩ = some (.slice A7 n1 d7)) := fun V hV => by rw [hSdef] at hV; exact ⟨cells3 hV.1, cells3 hV.2.1, cells3 hV.2.2⟩
     clear hSdef
     have HW := Lib.hid HW.out.drew
     have hS1 : S v13x.drew := hSi _ (HW.out.bx ⟨w.heap.size, r, r, A, n1, c1⟩ (by simp)) (HW.out.bx ⟨v12.heap.size, r, r, A6, n1, d6⟩ (by simp)) (HW.out.bx ⟨v13.heap.size, r, r, A7, n1, d7⟩ (by simp))
     refine wp_region_held (S := S) hmx ?_
     refine wpAnyH_takeD (i := 0) (some 161) (.int .i64 k) rfl rfl (by kernel_rfl) (by kernel_rfl) (by kernel_rfl) (fun _ _ _ h => h) (Or.inl ⟨by kernel_rfl, fun W hW => by go_simp⟩) hS1 ?_
     simp only [Act.put, List.setIfInBounds_toArray, List.set_cons_zero, List.set_cons_succ]
     refine wpAnyH_takeD (i := 1) (some 162) (.pointer (some ⟨w.heap.size, 0, none⟩)) rfl rfl (by kernel_rfl) (by kernel_rfl) (by kernel_rfl) (fun _ _ _ h => h) (Or.inl ⟨by kernel_rfl, fun W hW => by go_simp⟩) hS1 ?_
     simp only [Act.put, List.setIfInBounds_toArray, List.set_cons_zero, List.set_cons_succ]
     refine wpAnyH_takeD (i := 2) (some 163) (.int .i64 r) rfl rfl (by kernel_rfl) (by kernel_rfl) (by kernel_rfl) (fun _ _ _ h => h) (Or.inl ⟨by kernel_rfl, fun W hW => by obtain ⟨⟨s00, s01, s02⟩, ⟨s10, s11, s12⟩, ⟨s20, s21, s22⟩⟩ := hSc W hW; go_simp⟩) hS1 ?_
     simp only [Act.put, List.setIfInBounds_toArray, List.set_cons_zero, List.set_cons_succ]
     refine wpAnyH_takeD (i := 3) (some 164) (.bool true) rfl rfl (by kernel_rfl) (by kernel_rfl) (by kernel_rfl) (fun _ _ _ h => h) (Or.inl ⟨by kernel_rfl, fun W hW => by go_simp⟩) hS1 ?_
     simp only [Act.put, List.setIfInBounds_toArray, List.set_cons_zero, List.set_cons_succ]
     refine wpAnyH_takeD (i := 4) (some 165) (.bool true) rfl rfl (by kernel_rfl) (by kernel_rfl) (by kernel_rfl) (fun _ _ _ h => h) (Or.inl ⟨by kernel_rfl, fun W hW => by go_simp⟩) hS1 ?_
     simp only [Act.put, List.setIfInBounds_toArray, List.set_cons_zero, List.set_cons_succ]
     refine wpAnyH_takeD (i := 5) (some 166) (.agg #[.int .i64 r, .int .i64 r, .slice A6 n1 d6]) rfl rfl (by kernel_rfl) (by kernel_rfl) (by kernel_rfl) (fun _ _ _ h => h) (Or.inl ⟨by kernel_rfl, fun W hW => by obtain ⟨⟨s00, s01, s02⟩, ⟨s10, s11, s12⟩, ⟨s20, s21, s22⟩⟩ := hSc W hW; go_simp⟩) hS1 ?_
     simp only [Act.put, List.setIfInBounds_toArray, List.set_cons_zero, List.set_cons_succ]
     refine wpAnyH_takeD (i := 6) (some 167) (.pointer (some ⟨w.heap.size, 0, none⟩)) rfl rfl (by kernel_rfl) (by kernel_rfl) (by kernel_rfl) (fun _ _ _ h => h) (Or.inl ⟨by kernel_rfl, fun W hW => by go_simp⟩) hS1 ?_
     simp only [Act.put, List.setIfInBounds_toArray, List.set_cons_zero, List.set_cons_succ]
     refine wpAnyH_takeD (i := 7) (some 168) (.int .i64 r) rfl rfl (by kernel_rfl) (by kernel_rfl) (by kernel_rfl) (fun _ _ _ h => h) (Or.inl ⟨by kernel_rfl, fun W hW => by obtain ⟨⟨s00, s01, s02⟩, ⟨s10, s11, s12⟩, ⟨s20, s21, s22⟩⟩ := hSc W hW; go_simp⟩) hS1 ?_
     simp only [Act.put, List.setIfInBounds_toArray, List.set_cons_zero, List.set_cons_succ]
     refine wpAnyH_one (i := 8) (by kernel_rfl) rfl (by kernel_rfl) ?_
     go_simp
     refine (oneW HW.out r n1 I (by omega) K3.out.symm HI.out).mono ?_
     rintro e v14 ⟨A8, d8, rfl, hd8, HN⟩
     have HW := Lib.hid HN
     clear HN
     have hS2 : S v14 := hSi _ (HW.out.bx ⟨w.heap.size, r, r, A, n1, c1⟩ (by simp)) (HW.out.bx ⟨v12.heap.size, r, r, A6, n1, d6⟩ (by simp)) (HW.out.bx ⟨v13.heap.size, r, r, A7, n1, d7⟩ (by simp))
     show S v14 ∧ _
     refine ⟨hS2, ?_⟩
     refine wpAnyH_one (i := 9) (by kernel_rfl) rfl (by kernel_rfl) ?_
     go_simp
     refine (msameW HW.out r r r r A6 A8 I I n1 n1 d6 d8 (by simp) (by simp) HLI.out HLI.out true (sameB_refl _ _ _)).mono ?_
     rintro e v15 ⟨rfl, HN, -⟩
     have HW := Lib.hid HN
     clear HN
     have hS3 : S v15 := hSi _ (HW.out.bx ⟨w.heap.size, r, r, A, n1, c1⟩ (by simp)) (HW.out.bx ⟨v12.heap.size, r, r, A6, n1, d6⟩ (by simp)) (HW.out.bx ⟨v13.heap.size, r, r, A7, n1, d7⟩ (by simp))
     show S v15 ∧ _
     refine ⟨hS3, ?_⟩
     refine wpAnyH_takeD (i := 10) (some 171) (.bool true) rfl rfl (by kernel_rfl) (by kernel_rfl) (by kernel_rfl) (fun _ _ _ h => h) (Or.inl ⟨by kernel_rfl, fun W hW => by go_simp⟩) hS3 ?_
     simp only [Act.put, List.setIfInBounds_toArray, List.set_cons_zero, List.set_cons_succ]
     refine wpAnyH_takeD (i := 11) (some 172) (.bool true) rfl rfl (by kernel_rfl) (by kernel_rfl) (by kernel_rfl) (fun _ _ _ h => h) (Or.inl ⟨by kernel_rfl, fun W hW => by go_simp⟩) hS3 ?_
     simp only [Act.put, List.setIfInBounds_toArray, List.set_cons_zero, List.set_cons_succ]
     refine wpAnyH_takeD (i := 12) (some 173) (.agg #[.int .i64 r, .int .i64 r, .slice A7 n1 d7]) rfl rfl (by kernel_rfl) (by kernel_rfl) (by kernel_rfl) (fun _ _ _ h => h) (Or.inl ⟨by kernel_rfl, fun W hW => by obtain ⟨⟨s00, s01, s02⟩, ⟨s10, s11, s12⟩, ⟨s20, s21, s22⟩⟩ := hSc W hW; go_simp⟩) hS3 ?_
     simp only [Act.put, List.setIfInBounds_toArray, List.set_cons_zero, List.set_cons_succ]
     refine wpAnyH_takeD (i := 13) (some 174) (.agg #[.int .i64 r, .int .i64 r, .slice A6 n1 d6]) rfl rfl (by kernel_rfl) (by kernel_rfl) (by kernel_rfl) (fun _ _ _ h => h) (Or.inl ⟨by kernel_rfl, fun W hW => by obtain ⟨⟨s00, s01, s02⟩, ⟨s10, s11, s12⟩, ⟨s20, s21, s22⟩⟩ := hSc W hW; go_simp⟩) hS3 ?_
     simp only [Act.put, List.setIfInBounds_toArray, List.set_cons_zero, List.set_cons_succ]
     refine wpAnyH_one (i := 14) (by kernel_rfl) rfl (by kernel_rfl) ?_
     go_simp
     refine (msameW HW.out r r r r A7 A6 I I n1 n1 d7 d6 (by simp) (by simp) HLI.out HLI.out true (sameB_refl _ _ _)).mono ?_
     rintro e v16 ⟨rfl, HN, -⟩
     have HW := Lib.hid HN
     clear HN
     have hS4 : S v16 := hSi _ (HW.out.bx ⟨w.heap.size, r, r, A, n1, c1⟩ (by simp)) (HW.out.bx ⟨v12.heap.size, r, r, A6, n1, d6⟩ (by simp)) (HW.out.bx ⟨v13.heap.size, r, r, A7, n1, d7⟩ (by simp))
     show S v16 ∧ _
     refine ⟨hS4, ?_⟩
     refine wpAnyH_takeD (i := 15) (some 176) (.bool true) rfl rfl (by kernel_rfl) (by kernel_rfl) (by kernel_rfl) (fun _ _ _ h => h) (Or.inl ⟨by kernel_rfl, fun W hW => by go_simp⟩) hS4 ?_
     simp only [Act.put, List.setIfInBounds_toArray, List.set_cons_zero, List.set_cons_succ]
     refine wpAnyH_takeD (i := 16) (some 177) (.bool true) rfl rfl (by kernel_rfl) (by kernel_rfl) (by kernel_rfl) (fun _ _ _ h => h) (Or.inl ⟨by kernel_rfl, fun W hW => by go_simp⟩) hS4 ?_
     simp only [Act.put, List.setIfInBounds_toArray, List.set_cons_zero, List.set_cons_succ]
     refine wpAnyH_one (i := 17) (by kernel_rfl) rfl (by kernel_rfl) ?_
     go_simp
     refine (works_calls _).mono ?_
     rintro e v17 ⟨rfl, HZ⟩
     have HW := Lib.hid (HW.out.below HZ)
     clear HZ
     have hS5 : S v17 := hSi _ (HW.out.bx ⟨w.heap.size, r, r, A, n1, c1⟩ (by simp)) (HW.out.bx ⟨v12.heap.size, r, r, A6, n1, d6⟩ (by simp)) (HW.out.bx ⟨v13.heap.size, r, r, A7, n1, d7⟩ (by simp))
     show S v17 ∧ _
     refine ⟨hS5, ?_⟩
     refine wpAnyH_takeD (i := 18) (some 179) (.bool true) rfl rfl (by kernel_rfl) (by kernel_rfl) (by kernel_rfl) (fun _ _ _ h => h) (Or.inl ⟨by kernel_rfl, fun W hW => by go_simp⟩) hS5 ?_
     simp only [Act.put, List.setIfInBounds_toArray, List.set_cons_zero, List.set_cons_succ]
     refine wpAnyH_takeD (i := 19) (some 6) (.bool true) rfl rfl (by kernel_rfl) (by kernel_rfl) (by kernel_rfl) (fun _ _ _ h => h) (Or.inl ⟨by kernel_rfl, fun W hW => by go_simp⟩) hS5 ?_
     simp only [Act.put, List.setIfInBounds_toArray, List.set_cons_zero, List.set_cons_succ]
     refine wpAnyH_done (by kernel_rfl) ?_ _
     go_wp2
     go_ret
     exact ⟨rfl, HW.out.bel⟩
    obtain ⟨X, hX⟩ := Classical.not_not.1 x3
    clear x3
    obtain ⟨z, hz⟩ : ∃ z, flat n q X = z := ⟨_, rfl⟩
    obtain ⟨Nz, hNz⟩ : ∃ N, n * q = N := ⟨_, rfl⟩
    have HLz : Hid (z.length = Nz) := Lib.hid (by rw [← hz, flat_length, hNz])
    have HQm : Hid (flat r q (mulF n (ent s n) (ent z q)) = u) := Lib.hid (by rw [← hz]; exact sol_mul hl3 hX)
    have HX := Lib.hid hX
    have HZ := Lib.hid hz
    have HNz := Lib.hid hNz
    clear hX hz hNz hl3
    go_wp2_with fail
    clear qa0 qa1 qa2 qc0 qc1 qc2
    refine (solveW_ok HW.out r n q n1 n3 Nz c1 c3 A C s u z _ (by simp) (by simp) (by omega) (by omega) (by omega) K3.out.symm K9.out.symm HNz.out hc1 hc3 HL1.out HL3.out HX.out HZ.out).mono ?_
    rintro e v10 ⟨A3, d3, rfl, hd3, HN⟩
    obtain ⟨v10x, hvv10x, -, HN⟩ := HN.var n q A3 Nz d3
    have HW := Lib.hid HN
    clear HN
    obtain ⟨qa0, qa1, qa2⟩ := HW.out.at_ (b := w.heap.size) (R := r) (C := n) (A := A) (n := n1) (c := c1) (by simp)
    obtain ⟨qs0, qs1, qs2⟩ := HW.out.at_ (b := v10.heap.size) (R := n) (C := q) (A := A3) (n := Nz) (c := d3) (by simp)
    go_wp2_with fail
    clear hvv10x
    clear qa0 qa1 qa2 qs0 qs1 qs2
    refine (mulW HW.out r n q n1 Nz n3 c1 d3 A A3 s z u (by simp) (by simp) (by omega) (by omega) (by omega) K3.out.symm HNz.out K9.out.symm hc1 hd3 HL1.out HLz.out HQm.out).mono ?_
    rintro e v11 ⟨A4, d4, rfl, hd4, HN⟩
    obtain ⟨v11x, hvv11x, -, HN⟩ := HN.var r q A4 n3 d4
    have HW := Lib.hid HN
    clear HN
    obtain ⟨qq0, qq1, qq2⟩ := HW.out.at_ (b := v11.heap.size) (R := r) (C := q) (A := A4) (n := n3) (c := d4) (by simp)
    obtain ⟨qc0, qc1, qc2⟩ := HW.out.at_ (b := w.heap.size + 2) (R := r) (C := q) (A := C) (n := n3) (c := c3) (by simp)
    go_wp2_with fail
    clear hvv11x
    clear qq0 qq1 qq2 qc0 qc1 qc2
    refine (msameW HW.out r q r q A4 C u u n3 n3 d4 c3 (by simp) (by simp) HL3.out HL3.out true (sameB_refl _ _ _)).mono ?_
    rintro e v12 ⟨rfl, HN, -⟩
    have HW := Lib.hid HN
    clear HN
    obtain ⟨qa0, qa1, qa2⟩ := HW.out.at_ (b := w.heap.size) (R := r) (C := n) (A := A) (n := n1) (c := c1) (by simp)
    by_cases hrn : ¬ r = n
    ·have hne : ((r : Int) != (n : Int)) = true := by simp; omega
     have HX9 : Hid (¬ (RightB r n n1 = true ∧ (r : Int) = (n : Int))) := Lib.hid (by rintro ⟨_, h⟩; omega)
     clear hrn
     go_wp2_with fail
     clear qa0 qa1 qa2
     refine (inverseW_bad HW.out r n A n1 c1 HX9.out).mono ?_
     rintro e v13 ⟨A5, d5, rfl, -, HN⟩
     obtain ⟨v13x, hvv13x, -, HN⟩ := HN.var 0 0 A5 0 d5
     have HW := Lib.hid HN
     clear HN
     obtain ⟨qa0, qa1, qa2⟩ := HW.out.at_ (b := w.heap.size) (R := r) (C := n) (A := A) (n := n1) (c := c1) (by simp)
     go_wp2_with (go_at_call 23; (with_reducible refine (works_calls _).mono ?_); rintro e wz ⟨rfl, HZ⟩)
     go_ret
     exact ⟨rfl, (HW.out.below HZ).bel⟩
    obtain rfl := Classical.not_not.1 hrn
    clear hrn
    have hne : ((r : Int) != (r : Int)) = false := by simp
    have hne2 : ((r : Int) == (r : Int)) = true := by simp
    have hfl := hfull
    obtain ⟨Y, hY⟩ := (sol_inv_iff HK.out (b := ent (flat r r oneF) r) r).2 hfl
    have hkb2 : ((k : Int) == (r : Int)) = true := by simp; omega
    obtain ⟨V, hV⟩ : ∃ z, flat r r Y = z := ⟨_, rfl⟩
    obtain ⟨I, hI⟩ : ∃ z, flat r r oneF = z := ⟨_, rfl⟩
    have HLV : Hid (V.length = n1) := Lib.hid (by rw [← hV, flat_length]; exact K3.out.symm)
    have HLI : Hid (I.length = n1) := Lib.hid (by rw [← hI, flat_length]; exact K3.out.symm)
    have HRt : Hid (flat r r (mulF r (ent s r) (ent V r)) = I) := Lib.hid (by rw [← hV, ← hI]; exact inv_right hY)
    have HLt : Hid (flat r r (mulF r (ent V r) (ent s r)) = I) := Lib.hid (by rw [← hV, ← hI]; exact inv_left hY)
    have HY := Lib.hid hY
    have HV := Lib.hid hV
    have HI := Lib.hid hI
    clear hY hV hI hfl
    go_wp2_with fail
    clear qa0 qa1 qa2
    refine (inverseW_ok HW.out r n1 c1 A s V _ (by simp) (by omega) K3.out.symm hc1 HL1.out HY.out HV.out).mono ?_
    rintro e v13 ⟨A5, d5, rfl, hd5, HN⟩
    obtain ⟨v13x, hvv13x, -, HN⟩ := HN.var r r A5 n1 d5
    have HW := Lib.hid HN
    clear HN
    obtain ⟨qa0, qa1, qa2⟩ := HW.out.at_ (b := w.heap.size) (R := r) (C := r) (A := A) (n := n1) (c := c1) (by simp)
    obtain ⟨qv0, qv1, qv2⟩ := HW.out.at_ (b := v13.heap.size) (R := r) (C := r) (A := A5) (n := n1) (c := d5) (by simp)
    go_wp2_with fail
    clear hvv13x
    clear qa0 qa1 qa2 qv0 qv1 qv2
    refine (mulW HW.out r r r n1 n1 n1 c1 d5 A A5 s V I (by simp) (by simp) (by omega) (by omega) (by omega) K3.out.symm K3.out.symm K3.out.symm hc1 hd5 HL1.out HLV.out HRt.out).mono ?_
    rintro e v14 ⟨A6, d6, rfl, hd6, HN⟩
    obtain ⟨v14x, hvv14x, -, HN⟩ := HN.var r r A6 n1 d6
    have HW := Lib.hid HN
    clear HN
    obtain ⟨qv0, qv1, qv2⟩ := HW.out.at_ (b := v13.heap.size) (R := r) (C := r) (A := A5) (n := n1) (c := d5) (by simp)
    obtain ⟨qa0, qa1, qa2⟩ := HW.out.at_ (b := w.heap.size) (R := r) (C := r) (A := A) (n := n1) (c := c1) (by simp)
    go_wp2_with fail
    clear hvv14x
    clear qv0 qv1 qv2 qa0 qa1 qa2
    refine (mulW HW.out r r r n1 n1 n1 d5 c1 A5 A V s I (by simp) (by simp) (by omega) (by omega) (by omega) K3.out.symm K3.out.symm K3.out.symm hd5 hc1 HLV.out HL1.out HLt.out).mono ?_
    rintro e v15 ⟨A7, d7, rfl, hd7, HN⟩
    obtain ⟨v15x, hvv15x, -, HN⟩ := HN.var r r A7 n1 d7
    have HW := Lib.hid HN
    clear HN
    go_wp2_with fail
    clear hvv15x
    have hmx : Try.prog.follows .mixedOrders = true := by kernel_rfl
    obtain ⟨S, hSdef⟩ : ∃ S : World → Prop, S = fun V => Bx.In V ⟨w.heap.size, r, r, A, n1, c1⟩ ∧ Bx.In V ⟨v14.heap.size, r, r, A6, n1, d6⟩ ∧ Bx.In V ⟨v15.heap.size, r, r, A7, n1, d7⟩ := ⟨_, rfl⟩
    have hSi : ∀ V, Bx.In V ⟨w.heap.size, r, r, A, n1, c1⟩ → Bx.In V ⟨v14.heap.size, r, r, A6, n1, d6⟩ → Bx.In V ⟨v15.heap.size, r, r, A7, n1, d7⟩ → S V := fun V h0 h1 h2 => by rw [hSdef]; exact ⟨h0, h1, h2⟩
    have hSc : ∀ V, S V → (V.cell? ⟨w.heap.size, 0, none⟩ = some (.int .i64 r) ∧ V.cell? ⟨w.heap.size, 1, none⟩ = some (.int .i64 r) ∧ V.cell? ⟨w.heap.size, 2, none⟩ = some (.slice A n1 c1)) ∧ (V.cell? ⟨v14.heap.size, 0, none⟩ = some (.int .i64 r) ∧ V.cell? ⟨v14.heap.size, 1, none⟩ = some (.int .i64 r) ∧ V.cell? ⟨v14.heap.size, 2, none⟩ = some (.slice A6 n1 d6)) ∧ (V.cell? ⟨v15.heap.size, 0, none⟩ = some (.int .i64 r) ∧ V.cell? ⟨v15.heap.size, 1, none⟩ = some (.int .i64 r) ∧ V.cell? ⟨v15.heap.size, 2, none⟩ = some (.slice A7 n1 d7)) := fun V hV => by rw [hSdef] at hV; exact ⟨cells3 hV.1, cells3 hV.2.1, cells3 hV.2.2⟩
    clear hSdef
    have HW := Lib.hid HW.out.drew
    have hS1 : S v15x.drew := hSi _ (HW.out.bx ⟨w.heap.size, r, r, A, n1, c1⟩ (by simp)) (HW.out.bx ⟨v14.heap.size, r, r, A6, n1, d6⟩ (by simp)) (HW.out.bx ⟨v15.heap.size, r, r, A7, n1, d7⟩ (by simp))
    refine wp_region_held (S := S) hmx ?_
    refine wpAnyH_takeD (i := 0) (some 161) (.int .i64 k) rfl rfl (by kernel_rfl) (by kernel_rfl) (by kernel_rfl) (fun _ _ _ h => h) (Or.inl ⟨by kernel_rfl, fun W hW => by go_simp⟩) hS1 ?_
    simp only [Act.put, List.setIfInBounds_toArray, List.set_cons_zero, List.set_cons_succ]
    refine wpAnyH_takeD (i := 1) (some 162) (.pointer (some ⟨w.heap.size, 0, none⟩)) rfl rfl (by kernel_rfl) (by kernel_rfl) (by kernel_rfl) (fun _ _ _ h => h) (Or.inl ⟨by kernel_rfl, fun W hW => by go_simp⟩) hS1 ?_
    simp only [Act.put, List.setIfInBounds_toArray, List.set_cons_zero, List.set_cons_succ]
    refine wpAnyH_takeD (i := 2) (some 163) (.int .i64 r) rfl rfl (by kernel_rfl) (by kernel_rfl) (by kernel_rfl) (fun _ _ _ h => h) (Or.inl ⟨by kernel_rfl, fun W hW => by obtain ⟨⟨s00, s01, s02⟩, ⟨s10, s11, s12⟩, ⟨s20, s21, s22⟩⟩ := hSc W hW; go_simp⟩) hS1 ?_
    simp only [Act.put, List.setIfInBounds_toArray, List.set_cons_zero, List.set_cons_succ]
    refine wpAnyH_takeD (i := 3) (some 164) (.bool true) rfl rfl (by kernel_rfl) (by kernel_rfl) (by kernel_rfl) (fun _ _ _ h => h) (Or.inl ⟨by kernel_rfl, fun W hW => by go_simp⟩) hS1 ?_
    simp only [Act.put, List.setIfInBounds_toArray, List.set_cons_zero, List.set_cons_succ]
    refine wpAnyH_takeD (i := 4) (some 165) (.bool true) rfl rfl (by kernel_rfl) (by kernel_rfl) (by kernel_rfl) (fun _ _ _ h => h) (Or.inl ⟨by kernel_rfl, fun W hW => by go_simp⟩) hS1 ?_
    simp only [Act.put, List.setIfInBounds_toArray, List.set_cons_zero, List.set_cons_succ]
    refine wpAnyH_takeD (i := 5) (some 166) (.agg #[.int .i64 r, .int .i64 r, .slice A6 n1 d6]) rfl rfl (by kernel_rfl) (by kernel_rfl) (by kernel_rfl) (fun _ _ _ h => h) (Or.inl ⟨by kernel_rfl, fun W hW => by obtain ⟨⟨s00, s01, s02⟩, ⟨s10, s11, s12⟩, ⟨s20, s21, s22⟩⟩ := hSc W hW; go_simp⟩) hS1 ?_
    simp only [Act.put, List.setIfInBounds_toArray, List.set_cons_zero, List.set_cons_succ]
    refine wpAnyH_takeD (i := 6) (some 167) (.pointer (some ⟨w.heap.size, 0, none⟩)) rfl rfl (by kernel_rfl) (by kernel_rfl) (by kernel_rfl) (fun _ _ _ h => h) (Or.inl ⟨by kernel_rfl, fun W hW => by go_simp⟩) hS1 ?_
    simp only [Act.put, List.setIfInBounds_toArray, List.set_cons_zero, List.set_cons_succ]
    refine wpAnyH_takeD (i := 7) (some 168) (.int .i64 r) rfl rfl (by kernel_rfl) (by kernel_rfl) (by kernel_rfl) (fun _ _ _ h => h) (Or.inl ⟨by kernel_rfl, fun W hW => by obtain ⟨⟨s00, s01, s02⟩, ⟨s10, s11, s12⟩, ⟨s20, s21, s22⟩⟩ := hSc W hW; go_simp⟩) hS1 ?_
    simp only [Act.put, List.setIfInBounds_toArray, List.set_cons_zero, List.set_cons_succ]
    refine wpAnyH_one (i := 8) (by kernel_rfl) rfl (by kernel_rfl) ?_
    go_simp
    refine (oneW HW.out r n1 I (by omega) K3.out.symm HI.out).mono ?_
    rintro e v16 ⟨A8, d8, rfl, hd8, HN⟩
    have HW := Lib.hid HN
    clear HN
    have hS2 : S v16 := hSi _ (HW.out.bx ⟨w.heap.size, r, r, A, n1, c1⟩ (by simp)) (HW.out.bx ⟨v14.heap.size, r, r, A6, n1, d6⟩ (by simp)) (HW.out.bx ⟨v15.heap.size, r, r, A7, n1, d7⟩ (by simp))
    show S v16 ∧ _
    refine ⟨hS2, ?_⟩
    refine wpAnyH_one (i := 9) (by kernel_rfl) rfl (by kernel_rfl) ?_
    go_simp
    refine (msameW HW.out r r r r A6 A8 I I n1 n1 d6 d8 (by simp) (by simp) HLI.out HLI.out true (sameB_refl _ _ _)).mono ?_
    rintro e v17 ⟨rfl, HN, -⟩
    have HW := Lib.hid HN
    clear HN
    have hS3 : S v17 := hSi _ (HW.out.bx ⟨w.heap.size, r, r, A, n1, c1⟩ (by simp)) (HW.out.bx ⟨v14.heap.size, r, r, A6, n1, d6⟩ (by simp)) (HW.out.bx ⟨v15.heap.size, r, r, A7, n1, d7⟩ (by simp))
    show S v17 ∧ _
    refine ⟨hS3, ?_⟩
    refine wpAnyH_takeD (i := 10) (some 171) (.bool true) rfl rfl (by kernel_rfl) (by kernel_rfl) (by kernel_rfl) (fun _ _ _ h => h) (Or.inl ⟨by kernel_rfl, fun W hW => by go_simp⟩) hS3 ?_
    simp only [Act.put, List.setIfInBounds_toArray, List.set_cons_zero, List.set_cons_succ]
    refine wpAnyH_takeD (i := 11) (some 172) (.bool true) rfl rfl (by kernel_rfl) (by kernel_rfl) (by kernel_rfl) (fun _ _ _ h => h) (Or.inl ⟨by kernel_rfl, fun W hW => by go_simp⟩) hS3 ?_
    simp only [Act.put, List.setIfInBounds_toArray, List.set_cons_zero, List.set_cons_succ]
    refine wpAnyH_takeD (i := 12) (some 173) (.agg #[.int .i64 r, .int .i64 r, .slice A7 n1 d7]) rfl rfl (by kernel_rfl) (by kernel_rfl) (by kernel_rfl) (fun _ _ _ h => h) (Or.inl ⟨by kernel_rfl, fun W hW => by obtain ⟨⟨s00, s01, s02⟩, ⟨s10, s11, s12⟩, ⟨s20, s21, s22⟩⟩ := hSc W hW; go_simp⟩) hS3 ?_
    simp only [Act.put, List.setIfInBounds_toArray, List.set_cons_zero, List.set_cons_succ]
    refine wpAnyH_takeD (i := 13) (some 174) (.agg #[.int .i64 r, .int .i64 r, .slice A6 n1 d6]) rfl rfl (by kernel_rfl) (by kernel_rfl) (by kernel_rfl) (fun _ _ _ h => h) (Or.inl ⟨by kernel_rfl, fun W hW => by obtain ⟨⟨s00, s01, s02⟩, ⟨s10, s11, s12⟩, ⟨s20, s21, s22⟩⟩ := hSc W hW; go_simp⟩) hS3 ?_
    simp only [Act.put, List.setIfInBounds_toArray, List.set_cons_zero, List.set_cons_succ]
    refine wpAnyH_one (i := 14) (by kernel_rfl) rfl (by kernel_rfl) ?_
    go_simp
    refine (msameW HW.out r r r r A7 A6 I I n1 n1 d7 d6 (by simp) (by simp) HLI.out HLI.out true (sameB_refl _ _ _)).mono ?_
    rintro e v18 ⟨rfl, HN, -⟩
    have HW := Lib.hid HN
    clear HN
    have hS4 : S v18 := hSi _ (HW.out.bx ⟨w.heap.size, r, r, A, n1, c1⟩ (by simp)) (HW.out.bx ⟨v14.heap.size, r, r, A6, n1, d6⟩ (by simp)) (HW.out.bx ⟨v15.heap.size, r, r, A7, n1, d7⟩ (by simp))
    show S v18 ∧ _
    refine ⟨hS4, ?_⟩
    refine wpAnyH_takeD (i := 15) (some 176) (.bool true) rfl rfl (by kernel_rfl) (by kernel_rfl) (by kernel_rfl) (fun _ _ _ h => h) (Or.inl ⟨by kernel_rfl, fun W hW => by go_simp⟩) hS4 ?_
    simp only [Act.put, List.setIfInBounds_toArray, List.set_cons_zero, List.set_cons_succ]
    refine wpAnyH_takeD (i := 16) (some 177) (.bool true) rfl rfl (by kernel_rfl) (by kernel_rfl) (by kernel_rfl) (fun _ _ _ h => h) (Or.inl ⟨by kernel_rfl, fun W hW => by go_simp⟩) hS4 ?_
    simp only [Act.put, List.setIfInBounds_toArray, List.set_cons_zero, List.set_cons_succ]
    refine wpAnyH_one (i := 17) (by kernel_rfl) rfl (by kernel_rfl) ?_
    go_simp
    refine (works_calls _).mono ?_
    rintro e v19 ⟨rfl, HZ⟩
    have HW := Lib.hid (HW.out.below HZ)
    clear HZ
    have hS5 : S v19 := hSi _ (HW.out.bx ⟨w.heap.size, r, r, A, n1, c1⟩ (by simp)) (HW.out.bx ⟨v14.heap.size, r, r, A6, n1, d6⟩ (by simp)) (HW.out.bx ⟨v15.heap.size, r, r, A7, n1, d7⟩ (by simp))
    show S v19 ∧ _
    refine ⟨hS5, ?_⟩
    refine wpAnyH_takeD (i := 18) (some 179) (.bool true) rfl rfl (by kernel_rfl) (by kernel_rfl) (by kernel_rfl) (fun _ _ _ h => h) (Or.inl ⟨by kernel_rfl, fun W hW => by go_simp⟩) hS5 ?_
    simp only [Act.put, List.setIfInBounds_toArray, List.set_cons_zero, List.set_cons_succ]
    refine wpAnyH_takeD (i := 19) (some 6) (.bool true) rfl rfl (by kernel_rfl) (by kernel_rfl) (by kernel_rfl) (fun _ _ _ h => h) (Or.inl ⟨by kernel_rfl, fun W hW => by go_simp⟩) hS5 ?_
    simp only [Act.put, List.setIfInBounds_toArray, List.set_cons_zero, List.set_cons_succ]
    refine wpAnyH_done (by kernel_rfl) ?_ _
    go_wp2
    go_ret
    exact ⟨rfl, HW.out.bel⟩
theorem walk (w : World) (R0 C0 : Int) (A0 : Option Addr) (l0 : List Nat) (c0 : Nat) (_hR0 : -9223372036854775808 ≤ R0 ∧ R0 < 9223372036854775808) (_hC0 : -9223372036854775808 ≤ C0 ∧ C0 < 9223372036854775808) (hb0 : Bytes w A0 l0) (hc0 : l0.length ≤ c0) (_hm0 : c0 ≤ 9223372036854775807) (R1 C1 : Int) (A1 : Option Addr) (l1 : List Nat) (c1 : Nat) (_hR1 : -9223372036854775808 ≤ R1 ∧ R1 < 9223372036854775808) (_hC1 : -9223372036854775808 ≤ C1 ∧ C1 < 9223372036854775808) (hb1 : Bytes w A1 l1) (hc1 : l1.length ≤ c1) (_hm1 : c1 ≤ 9223372036854775807) (R2 C2 : Int) (A2 : Option Addr) (l2 : List Nat) (c2 : Nat) (_hR2 : -9223372036854775808 ≤ R2 ∧ R2 < 9223372036854775808) (_hC2 : -9223372036854775808 ≤ C2 ∧ C2 < 9223372036854775808) (hb2 : Bytes w A2 l2) (hc2 : l2.length ≤ c2) (_hm2 : c2 ≤ 9223372036854775807) :
  Calls Try.prog 15 #[.agg #[.int .i64 R0, .int .i64 C0, .slice A0 l0.length c0], .agg #[.int .i64 R1, .int .i64 C1, .slice A1 l1.length c1], .agg #[.int .i64 R2, .int .i64 C2, .slice A2 l2.length c2]] w fun e w' => e = .returned (.bool true) ∧ Below w.heap.size w w' := by
 obtain ⟨p0, rfl⟩ := of_bytes l0 hb0.lt
 obtain ⟨p1, rfl⟩ := of_bytes l1 hb1.lt
 obtain ⟨p2, rfl⟩ := of_bytes l2 hb2.lt
 exact core w R0 C0 A0 p0 _ c0 (bs_length p0).symm hb0 hc0 R1 C1 A1 p1 _ c1 (bs_length p1).symm hb1 hc1 R2 C2 A2 p2 _ c2 (bs_length p2).symm hb2 hc2
end Go.Proofs.Ytjpbdbgihakpmaa.matrixSolves
