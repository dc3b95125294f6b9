/- The walk of MatrixTwo. -/
import Derived.Test.YtjpbdbgihakpmaaMatTwo
import Derived.Deep.RegionWith
import Derived.BigQuiet
namespace Go.Proofs.Ytjpbdbgihakpmaa.matrixTwo
open Go.RowKit F8 GF Poly Mat

set_option maxRecDepth 100000 in
set_option maxHeartbeats 8000000 in
theorem core (w : World) (Ra Ca : Int) (A : Option Addr) (s : List F8) (n1 c1 : Nat) (hl1 : s.length = n1) (hb1 : Bytes w A (bs s)) (hc1 : n1 ≤ c1)
  (Rb Cb : Int) (B : Option Addr) (t : List F8) (n2 c2 : Nat) (hl2 : t.length = n2) (hb2 : Bytes w B (bs t)) (hc2 : n2 ≤ c2) :
  Calls Try.prog 13 #[.agg #[.int .i64 Ra, .int .i64 Ca, .slice A n1 c1], .agg #[.int .i64 Rb, .int .i64 Cb, .slice B n2 c2]] w fun e w' => e = .returned (.bool true) ∧ Below w.heap.size w w' := by
 obtain ⟨wa, hwa, HQ⟩ := st2 w Ra Ca A n1 c1 Rb Cb B n2 c2
 have HL1 := Lib.hid hl1
 have HB1 := Lib.hid hb1
 obtain ⟨b1, HS1⟩ : ∃ b, Hid (smallB Ra Ca n1 12 = b) := ⟨_, Lib.hid rfl⟩
 have HL2 := Lib.hid hl2
 have HB2 := Lib.hid hb2
 obtain ⟨b2, HS2⟩ : ∃ b, Hid (smallB Rb Cb n2 12 = b) := ⟨_, Lib.hid rfl⟩
 clear hl1 hb1 hl2 hb2
 obtain ⟨qa0, qa1, qa2⟩ := HQ.at_ (b := w.heap.size) (R := Ra) (C := Ca) (A := A) (n := n1) (c := c1) (by simp)
 go_enter Try.func13, Try.ntmps13
 go_wp2_with fail
 clear hwa
 clear qa0 qa1 qa2
 refine (small12 Ra Ca A n1 c1 _).mono ?_
 rintro e v1 ⟨rfl, hB⟩
 have HQ := HQ.below hB
 clear hB
 rw [HS1.out]
 cases b1
 case false =>
  go_wp2_with (go_at_call 23; (with_reducible refine (works_calls _).mono ?_); rintro e wz ⟨rfl, HZ⟩)
  go_ret
  exact ⟨rfl, (HQ.below HZ).bel⟩
 case true =>
  obtain ⟨qb0, qb1, qb2⟩ := HQ.at_ (b := w.heap.size + 1) (R := Rb) (C := Cb) (A := B) (n := n2) (c := c2) (by simp)
  go_wp2_with fail
  clear qb0 qb1 qb2
  refine (small12 Rb Cb B n2 c2 _).mono ?_
  rintro e v2 ⟨rfl, hB⟩
  have HQ := HQ.below hB
  clear hB
  rw [HS2.out]
  cases b2
  case false =>
   go_wp2_with (go_at_call 23; (with_reducible refine (works_calls _).mono ?_); rintro e wz ⟨rfl, HZ⟩)
   go_ret
   exact ⟨rfl, (HQ.below HZ).bel⟩
  case true =>
   go_wp2_with fail
   refine (HQ.new).mono ?_
   rintro e v3 ⟨rfl, HN⟩
   have HW := Lib.hid ((HN.arg HB1.out).arg HB2.out)
   clear HN HQ
   obtain ⟨sra, sca, sna⟩ := small_le HS1.out
   obtain ⟨srb, scb, snb⟩ := small_le HS2.out
   obtain ⟨g, hg⟩ : ∃ g, v2.heap.size = g := ⟨_, rfl⟩
   rw [hg] at HW ⊢
   clear hg
   obtain ⟨rr, cc, u, k, hmi⟩ := mulIs_exists (Ra := Ra) (Ca := Ca) (Rb := Rb) (Cb := Cb) (n1 := n1) (n2 := n2) s t (by omega) (by omega) (by omega)
   obtain ⟨N, hN⟩ : ∃ N, u.length = N := ⟨_, rfl⟩
   obtain ⟨rr2, cc2, u2, k2, hsi⟩ := solIs_exists (Ra := Ra) (Ca := Ca) (Rb := Rb) (Cb := Cb) (n1 := n1) (n2 := n2) s t (by omega) (by omega) (by omega)
   obtain ⟨N2, hN2⟩ : ∃ N, u2.length = N := ⟨_, rfl⟩
   have HMI := Lib.hid hmi
   have HSI := Lib.hid hsi
   have HNu := Lib.hid hN
   have HNu2 := Lib.hid hN2
   clear hmi hsi hN hN2 sra sca sna srb scb snb
   go_wp2_with fail
   apply wp_to_upd (α := Nat × Nat × Option Addr × Nat × Option Addr × Nat) (upd := fun zz a => { a with tmps := ((((((a.tmps).setIfInBounds 26 (.agg #[.int .i64 Ra, .int .i64 Ca, .slice A n1 c1])).setIfInBounds 27 (.agg #[.int .i64 Ra, .int .i64 Ca, .slice zz.2.2.1 n1 zz.2.2.2.1])).setIfInBounds 28 (.agg #[.int .i64 Rb, .int .i64 Cb, .slice B n2 c2])).setIfInBounds 29 (.agg #[.int .i64 Rb, .int .i64 Cb, .slice zz.2.2.2.2.1 n2 zz.2.2.2.2.2])).setIfInBounds 6 (.pointer (some ⟨zz.1, 0, none⟩))).setIfInBounds 7 (.pointer (some ⟨zz.2.1, 0, none⟩)) }) (R := fun zz V => n1 ≤ zz.2.2.2.1 ∧ n2 ≤ zz.2.2.2.2.2 ∧ W w g [(zz.2.2.2.2.1, t), (zz.2.2.1, s), (B, t), (A, s)] [⟨zz.2.1, Rb, Cb, zz.2.2.2.2.1, n2, zz.2.2.2.2.2⟩, ⟨zz.1, Ra, Ca, zz.2.2.1, n1, zz.2.2.2.1⟩, ⟨w.heap.size, Ra, Ca, A, n1, c1⟩, ⟨w.heap.size + 1, Rb, Cb, B, n2, c2⟩] V)
   case h =>
    have hmx : Try.prog.follows .mixedOrders = true := by kernel_rfl
    obtain ⟨S, hSdef⟩ : ∃ S : World → Prop, S = fun V => Bx.In V ⟨w.heap.size, Ra, Ca, A, n1, c1⟩ ∧ Bx.In V ⟨w.heap.size + 1, Rb, Cb, B, n2, c2⟩ := ⟨_, rfl⟩
    have hSi : ∀ V, Bx.In V ⟨w.heap.size, Ra, Ca, A, n1, c1⟩ → Bx.In V ⟨w.heap.size + 1, Rb, Cb, B, n2, c2⟩ → S V := fun V h0 h1 => by rw [hSdef]; exact ⟨h0, h1⟩
    have hSc : ∀ V, S V → (V.cell? ⟨w.heap.size, 0, none⟩ = some (.int .i64 Ra) ∧ V.cell? ⟨w.heap.size, 1, none⟩ = some (.int .i64 Ca) ∧ V.cell? ⟨w.heap.size, 2, none⟩ = some (.slice A n1 c1)) ∧ (V.cell? ⟨w.heap.size + 1, 0, none⟩ = some (.int .i64 Rb) ∧ V.cell? ⟨w.heap.size + 1, 1, none⟩ = some (.int .i64 Cb) ∧ V.cell? ⟨w.heap.size + 1, 2, none⟩ = some (.slice B n2 c2)) := fun V hV => by rw [hSdef] at hV; exact ⟨cells3 hV.1, cells3 hV.2⟩
    clear hSdef
    have HW := Lib.hid HW.out.drew
    have hS1 : S v3.drew := hSi _ (HW.out.bx ⟨w.heap.size, Ra, Ca, A, n1, c1⟩ (by simp)) (HW.out.bx ⟨w.heap.size + 1, Rb, Cb, B, n2, c2⟩ (by simp))
    refine wp_region_held (S := S) hmx ?_
    refine wpAnyH_takeD (i := 0) (some 26) (.agg #[.int .i64 Ra, .int .i64 Ca, .slice A n1 c1]) rfl rfl (by kernel_rfl) (by kernel_rfl) (by kernel_rfl) (fun _ _ _ h => by cases h.1) (Or.inl ⟨by kernel_rfl, fun W hW => by obtain ⟨⟨s00, s01, s02⟩, ⟨s10, s11, s12⟩⟩ := hSc W hW; go_simp⟩) hS1 ?_
    simp only [Act.put, List.setIfInBounds_toArray, List.set_cons_zero, List.set_cons_succ]
    refine wpAnyH_takeD (i := 2) (some 28) (.agg #[.int .i64 Rb, .int .i64 Cb, .slice B n2 c2]) rfl rfl (by kernel_rfl) (by kernel_rfl) (by kernel_rfl) (fun _ _ _ h => by cases h.1) (Or.inl ⟨by kernel_rfl, fun W hW => by obtain ⟨⟨s00, s01, s02⟩, ⟨s10, s11, s12⟩⟩ := hSc W hW; go_simp⟩) hS1 ?_
    simp only [Act.put, List.setIfInBounds_toArray, List.set_cons_zero, List.set_cons_succ]
    refine wpAnyH_three (i := 1) (j := 4) (l := 5) (by kernel_rfl) rfl rfl rfl (by kernel_rfl) (by kernel_rfl) (by kernel_rfl) ?_ ?_ ?_
    ·skip
     go_simp
     refine (copiedW HW.out Ra Ca A s n1 c1 (by simp) HL1.out).mono ?_
     rintro e v4 ⟨A5, d5, rfl, hd5, HN⟩
     have HW := Lib.hid HN
     clear HN
     have hS2 : S v4 := hSi _ (HW.out.bx ⟨w.heap.size, Ra, Ca, A, n1, c1⟩ (by simp)) (HW.out.bx ⟨w.heap.size + 1, Rb, Cb, B, n2, c2⟩ (by simp))
     show S v4 ∧ _
     refine ⟨hS2, ?_⟩
     refine wpAnyH_three (i := 3) (j := 4) (l := 5) (by kernel_rfl) rfl rfl rfl (by kernel_rfl) (by kernel_rfl) (by kernel_rfl) ?_ ?_ ?_
     ·skip
      go_simp
      refine (copiedW HW.out Rb Cb B t n2 c2 (by simp) HL2.out).mono ?_
      rintro e v5 ⟨A6, d6, rfl, hd6, HN⟩
      have HW := Lib.hid HN
      clear HN
      have hS3 : S v5 := hSi _ (HW.out.bx ⟨w.heap.size, Ra, Ca, A, n1, c1⟩ (by simp)) (HW.out.bx ⟨w.heap.size + 1, Rb, Cb, B, n2, c2⟩ (by simp))
      show S v5 ∧ _
      refine ⟨hS3, ?_⟩
      refine wpAnyH_two (i := 4) (j := 5) (by kernel_rfl) rfl rfl (by kernel_rfl) (by kernel_rfl) ?_ ?_
      ·skip
       obtain ⟨bo_x, hbo⟩ : ∃ b, v5.heap.size = b := ⟨_, rfl⟩
       have hfr := HW.out.fresh
       rw [hbo] at hfr
       have hne_x_a : w.heap.size ≠ bo_x := hfr ⟨w.heap.size, Ra, Ca, A, n1, c1⟩ (by simp)
       have hne_x_b : w.heap.size + 1 ≠ bo_x := hfr ⟨w.heap.size + 1, Rb, Cb, B, n2, c2⟩ (by simp)
       clear hfr
       have hle_x : w.heap.size ≤ bo_x := by rw [← hbo]; exact HW.out.bel.size
       obtain ⟨v5y, hvv5y, -, HN⟩ := HW.out.var 0 0 none 0 0
       rw [hbo] at HN
       have hbx0 := HN.bx _ (List.mem_cons_self ..)
       have HW := Lib.hid HN
       clear HN
       go_simp
       clear hbx0 hbo hvv5y
       have hS4 : S v5y := hSi _ (HW.out.bx ⟨w.heap.size, Ra, Ca, A, n1, c1⟩ (by simp)) (HW.out.bx ⟨w.heap.size + 1, Rb, Cb, B, n2, c2⟩ (by simp))
       refine ⟨hS4, ?_⟩
       refine wpAnyH_one (i := 5) (by kernel_rfl) rfl (by kernel_rfl) ?_
       obtain ⟨bo_y, hbo⟩ : ∃ b, v5y.heap.size = b := ⟨_, rfl⟩
       have hfr := HW.out.fresh
       rw [hbo] at hfr
       have hne_y_a : w.heap.size ≠ bo_y := hfr ⟨w.heap.size, Ra, Ca, A, n1, c1⟩ (by simp)
       have hne_y_b : w.heap.size + 1 ≠ bo_y := hfr ⟨w.heap.size + 1, Rb, Cb, B, n2, c2⟩ (by simp)
       have hne_y_x : bo_x ≠ bo_y := hfr ⟨bo_x, 0, 0, none, 0, 0⟩ (by simp)
       clear hfr
       have hle_y : w.heap.size ≤ bo_y := by rw [← hbo]; exact HW.out.bel.size
       obtain ⟨v5yy, hvv5yy, -, HN⟩ := HW.out.var 0 0 none 0 0
       rw [hbo] at HN
       have hbx0 := HN.bx _ (List.mem_cons_self ..)
       have HW := Lib.hid HN
       clear HN
       go_simp
       clear hbx0 hbo hvv5yy
       have hS5 : S v5yy := hSi _ (HW.out.bx ⟨w.heap.size, Ra, Ca, A, n1, c1⟩ (by simp)) (HW.out.bx ⟨w.heap.size + 1, Rb, Cb, B, n2, c2⟩ (by simp))
       refine ⟨hS5, ?_⟩
       refine wpAnyH_one (i := 6) (by kernel_rfl) rfl (by kernel_rfl) ?_
       have f0 := (HW.out.bx ⟨bo_x, 0, 0, none, 0, 0⟩ (by simp)).frozen 0
       have f1 := (HW.out.bx ⟨bo_x, 0, 0, none, 0, 0⟩ (by simp)).frozen 1
       have f2 := (HW.out.bx ⟨bo_x, 0, 0, none, 0, 0⟩ (by simp)).frozen 2
       obtain ⟨y0, y1, y2⟩ := HW.out.at_ (b := bo_x) (R := 0) (C := 0) (A := none) (n := 0) (c := 0) (by simp)
       have hoth : ∀ y ∈ ([⟨w.heap.size, Ra, Ca, A, n1, c1⟩, ⟨w.heap.size + 1, Rb, Cb, B, n2, c2⟩, ⟨bo_y, 0, 0, none, 0, 0⟩] : List Bx), y ∈ ([⟨w.heap.size, Ra, Ca, A, n1, c1⟩, ⟨w.heap.size + 1, Rb, Cb, B, n2, c2⟩, ⟨bo_x, 0, 0, none, 0, 0⟩, ⟨bo_y, 0, 0, none, 0, 0⟩] : List Bx) ∧ y.b ≠ bo_x := by
        intro y hy
        simp only [List.mem_cons, List.not_mem_nil, or_false] at hy
        rcases hy with rfl | rfl | rfl
        ·exact ⟨by simp, by (first | exact hne_x_a | exact Ne.symm hne_a_x)⟩
        ·exact ⟨by simp, by (first | exact hne_x_b | exact Ne.symm hne_b_x)⟩
        ·exact ⟨by simp, by (first | exact hne_x_y | exact Ne.symm hne_y_x)⟩
       obtain ⟨v5yyp, hvv5yyp, HN⟩ := (HW.out.subx (bx' := [⟨w.heap.size, Ra, Ca, A, n1, c1⟩, ⟨w.heap.size + 1, Rb, Cb, B, n2, c2⟩, ⟨bo_x, 0, 0, none, 0, 0⟩, ⟨bo_y, 0, 0, none, 0, 0⟩]) (by simp)).put (b := bo_x) (R0 := 0) (C0 := 0) (A0 := none) (n0 := 0) (c0 := 0) (by simp) hle_x [⟨w.heap.size, Ra, Ca, A, n1, c1⟩, ⟨w.heap.size + 1, Rb, Cb, B, n2, c2⟩, ⟨bo_y, 0, 0, none, 0, 0⟩] hoth Ra Ca A5 n1 d5
       clear hoth
       have HW := Lib.hid HN
       clear HN
       go_simp
       clear f0 f1 f2 y0 y1 y2 hvv5yyp
       have hS6 : S v5yyp := hSi _ (HW.out.bx ⟨w.heap.size, Ra, Ca, A, n1, c1⟩ (by simp)) (HW.out.bx ⟨w.heap.size + 1, Rb, Cb, B, n2, c2⟩ (by simp))
       refine ⟨hS6, ?_⟩
       refine wpAnyH_one (i := 7) (by kernel_rfl) rfl (by kernel_rfl) ?_
       have f0 := (HW.out.bx ⟨bo_y, 0, 0, none, 0, 0⟩ (by simp)).frozen 0
       have f1 := (HW.out.bx ⟨bo_y, 0, 0, none, 0, 0⟩ (by simp)).frozen 1
       have f2 := (HW.out.bx ⟨bo_y, 0, 0, none, 0, 0⟩ (by simp)).frozen 2
       obtain ⟨y0, y1, y2⟩ := HW.out.at_ (b := bo_y) (R := 0) (C := 0) (A := none) (n := 0) (c := 0) (by simp)
       have hoth : ∀ y ∈ ([⟨bo_x, Ra, Ca, A5, n1, d5⟩, ⟨w.heap.size, Ra, Ca, A, n1, c1⟩, ⟨w.heap.size + 1, Rb, Cb, B, n2, c2⟩] : List Bx), y ∈ ([⟨bo_x, Ra, Ca, A5, n1, d5⟩, ⟨w.heap.size, Ra, Ca, A, n1, c1⟩, ⟨w.heap.size + 1, Rb, Cb, B, n2, c2⟩, ⟨bo_y, 0, 0, none, 0, 0⟩] : List Bx) ∧ y.b ≠ bo_y := by
        intro y hy
        simp only [List.mem_cons, List.not_mem_nil, or_false] at hy
        rcases hy with rfl | rfl | rfl
        ·exact ⟨by simp, by (first | exact hne_y_x | exact Ne.symm hne_x_y)⟩
        ·exact ⟨by simp, by (first | exact hne_y_a | exact Ne.symm hne_a_y)⟩
        ·exact ⟨by simp, by (first | exact hne_y_b | exact Ne.symm hne_b_y)⟩
       obtain ⟨v5yypp, hvv5yypp, HN⟩ := (HW.out.subx (bx' := [⟨bo_x, Ra, Ca, A5, n1, d5⟩, ⟨w.heap.size, Ra, Ca, A, n1, c1⟩, ⟨w.heap.size + 1, Rb, Cb, B, n2, c2⟩, ⟨bo_y, 0, 0, none, 0, 0⟩]) (by simp)).put (b := bo_y) (R0 := 0) (C0 := 0) (A0 := none) (n0 := 0) (c0 := 0) (by simp) hle_y [⟨bo_x, Ra, Ca, A5, n1, d5⟩, ⟨w.heap.size, Ra, Ca, A, n1, c1⟩, ⟨w.heap.size + 1, Rb, Cb, B, n2, c2⟩] hoth Rb Cb A6 n2 d6
       clear hoth
       have HW := Lib.hid HN
       clear HN
       go_simp
       clear f0 f1 f2 y0 y1 y2 hvv5yypp
       have hS7 : S v5yypp := hSi _ (HW.out.bx ⟨w.heap.size, Ra, Ca, A, n1, c1⟩ (by simp)) (HW.out.bx ⟨w.heap.size + 1, Rb, Cb, B, n2, c2⟩ (by simp))
       refine ⟨hS7, ?_⟩
       refine wpAnyH_done (by kernel_rfl) ?_ _
       exact ⟨rfl, bo_x, bo_y, A5, d5, A6, d6, rfl, hd5, hd6, HW.out.subx (by simp)⟩
      ·skip
       obtain ⟨bo_y, hbo⟩ : ∃ b, v5.heap.size = b := ⟨_, rfl⟩
       have hfr := HW.out.fresh
       rw [hbo] at hfr
       have hne_y_a : w.heap.size ≠ bo_y := hfr ⟨w.heap.size, Ra, Ca, A, n1, c1⟩ (by simp)
       have hne_y_b : w.heap.size + 1 ≠ bo_y := hfr ⟨w.heap.size + 1, Rb, Cb, B, n2, c2⟩ (by simp)
       clear hfr
       have hle_y : w.heap.size ≤ bo_y := by rw [← hbo]; exact HW.out.bel.size
       obtain ⟨v5y, hvv5y, -, HN⟩ := HW.out.var 0 0 none 0 0
       rw [hbo] at HN
       have hbx0 := HN.bx _ (List.mem_cons_self ..)
       have HW := Lib.hid HN
       clear HN
       go_simp
       clear hbx0 hbo hvv5y
       have hS4 : S v5y := hSi _ (HW.out.bx ⟨w.heap.size, Ra, Ca, A, n1, c1⟩ (by simp)) (HW.out.bx ⟨w.heap.size + 1, Rb, Cb, B, n2, c2⟩ (by simp))
       refine ⟨hS4, ?_⟩
       refine wpAnyH_one (i := 4) (by kernel_rfl) rfl (by kernel_rfl) ?_
       obtain ⟨bo_x, hbo⟩ : ∃ b, v5y.heap.size = b := ⟨_, rfl⟩
       have hfr := HW.out.fresh
       rw [hbo] at hfr
       have hne_x_a : w.heap.size ≠ bo_x := hfr ⟨w.heap.size, Ra, Ca, A, n1, c1⟩ (by simp)
       have hne_x_b : w.heap.size + 1 ≠ bo_x := hfr ⟨w.heap.size + 1, Rb, Cb, B, n2, c2⟩ (by simp)
       have hne_x_y : bo_y ≠ bo_x := hfr ⟨bo_y, 0, 0, none, 0, 0⟩ (by simp)
       clear hfr
       have hle_x : w.heap.size ≤ bo_x := by rw [← hbo]; exact HW.out.bel.size
       obtain ⟨v5yy, hvv5yy, -, HN⟩ := HW.out.var 0 0 none 0 0
       rw [hbo] at HN
       have hbx0 := HN.bx _ (List.mem_cons_self ..)
       have HW := Lib.hid HN
       clear HN
       go_simp
       clear hbx0 hbo hvv5yy
       have hS5 : S v5yy := hSi _ (HW.out.bx ⟨w.heap.size, Ra, Ca, A, n1, c1⟩ (by simp)) (HW.out.bx ⟨w.heap.size + 1, Rb, Cb, B, n2, c2⟩ (by simp))
       refine ⟨hS5, ?_⟩
       refine wpAnyH_one (i := 6) (by kernel_rfl) rfl (by kernel_rfl) ?_
       have f0 := (HW.out.bx ⟨bo_x, 0, 0, none, 0, 0⟩ (by simp)).frozen 0
       have f1 := (HW.out.bx ⟨bo_x, 0, 0, none, 0, 0⟩ (by simp)).frozen 1
       have f2 := (HW.out.bx ⟨bo_x, 0, 0, none, 0, 0⟩ (by simp)).frozen 2
       obtain ⟨y0, y1, y2⟩ := HW.out.at_ (b := bo_x) (R := 0) (C := 0) (A := none) (n := 0) (c := 0) (by simp)
       have hoth : ∀ y ∈ ([⟨w.heap.size, Ra, Ca, A, n1, c1⟩, ⟨w.heap.size + 1, Rb, Cb, B, n2, c2⟩, ⟨bo_y, 0, 0, none, 0, 0⟩] : List Bx), y ∈ ([⟨w.heap.size, Ra, Ca, A, n1, c1⟩, ⟨w.heap.size + 1, Rb, Cb, B, n2, c2⟩, ⟨bo_y, 0, 0, none, 0, 0⟩, ⟨bo_x, 0, 0, none, 0, 0⟩] : List Bx) ∧ y.b ≠ bo_x := by
        intro y hy
        simp only [List.mem_cons, List.not_mem_nil, or_false] at hy
        rcases hy with rfl | rfl | rfl
        ·exact ⟨by simp, by (first | exact hne_x_a | exact Ne.symm hne_a_x)⟩
        ·exact ⟨by simp, by (first | exact hne_x_b | exact Ne.symm hne_b_x)⟩
        ·exact ⟨by simp, by (first | exact hne_x_y | exact Ne.symm hne_y_x)⟩
       obtain ⟨v5yyp, hvv5yyp, HN⟩ := (HW.out.subx (bx' := [⟨w.heap.size, Ra, Ca, A, n1, c1⟩, ⟨w.heap.size + 1, Rb, Cb, B, n2, c2⟩, ⟨bo_y, 0, 0, none, 0, 0⟩, ⟨bo_x, 0, 0, none, 0, 0⟩]) (by simp)).put (b := bo_x) (R0 := 0) (C0 := 0) (A0 := none) (n0 := 0) (c0 := 0) (by simp) hle_x [⟨w.heap.size, Ra, Ca, A, n1, c1⟩, ⟨w.heap.size + 1, Rb, Cb, B, n2, c2⟩, ⟨bo_y, 0, 0, none, 0, 0⟩] hoth Ra Ca A5 n1 d5
       clear hoth
       have HW := Lib.hid HN
       clear HN
       go_simp
       clear f0 f1 f2 y0 y1 y2 hvv5yyp
       have hS6 : S v5yyp := hSi _ (HW.out.bx ⟨w.heap.size, Ra, Ca, A, n1, c1⟩ (by simp)) (HW.out.bx ⟨w.heap.size + 1, Rb, Cb, B, n2, c2⟩ (by simp))
       refine ⟨hS6, ?_⟩
       refine wpAnyH_one (i := 7) (by kernel_rfl) rfl (by kernel_rfl) ?_
       have f0 := (HW.out.bx ⟨bo_y, 0, 0, none, 0, 0⟩ (by simp)).frozen 0
       have f1 := (HW.out.bx ⟨bo_y, 0, 0, none, 0, 0⟩ (by simp)).frozen 1
       have f2 := (HW.out.bx ⟨bo_y, 0, 0, none, 0, 0⟩ (by simp)).frozen 2
       obtain ⟨y0, y1, y2⟩ := HW.out.at_ (b := bo_y) (R := 0) (C := 0) (A := none) (n := 0) (c := 0) (by simp)
       have hoth : ∀ y ∈ ([⟨bo_x, Ra, Ca, A5, n1, d5⟩, ⟨w.heap.size, Ra, Ca, A, n1, c1⟩, ⟨w.heap.size + 1, Rb, Cb, B, n2, c2⟩] : List Bx), y ∈ ([⟨bo_x, Ra, Ca, A5, n1, d5⟩, ⟨w.heap.size, Ra, Ca, A, n1, c1⟩, ⟨w.heap.size + 1, Rb, Cb, B, n2, c2⟩, ⟨bo_y, 0, 0, none, 0, 0⟩] : List Bx) ∧ y.b ≠ bo_y := by
        intro y hy
        simp only [List.mem_cons, List.not_mem_nil, or_false] at hy
        rcases hy with rfl | rfl | rfl
        ·exact ⟨by simp, by (first | exact hne_y_x | exact Ne.symm hne_x_y)⟩
        ·exact ⟨by simp, by (first | exact hne_y_a | exact Ne.symm hne_a_y)⟩
        ·exact ⟨by simp, by (first | exact hne_y_b | exact Ne.symm hne_b_y)⟩
       obtain ⟨v5yypp, hvv5yypp, HN⟩ := (HW.out.subx (bx' := [⟨bo_x, Ra, Ca, A5, n1, d5⟩, ⟨w.heap.size, Ra, Ca, A, n1, c1⟩, ⟨w.heap.size + 1, Rb, Cb, B, n2, c2⟩, ⟨bo_y, 0, 0, none, 0, 0⟩]) (by simp)).put (b := bo_y) (R0 := 0) (C0 := 0) (A0 := none) (n0 := 0) (c0 := 0) (by simp) hle_y [⟨bo_x, Ra, Ca, A5, n1, d5⟩, ⟨w.heap.size, Ra, Ca, A, n1, c1⟩, ⟨w.heap.size + 1, Rb, Cb, B, n2, c2⟩] hoth Rb Cb A6 n2 d6
       clear hoth
       have HW := Lib.hid HN
       clear HN
       go_simp
       clear f0 f1 f2 y0 y1 y2 hvv5yypp
       have hS7 : S v5yypp := hSi _ (HW.out.bx ⟨w.heap.size, Ra, Ca, A, n1, c1⟩ (by simp)) (HW.out.bx ⟨w.heap.size + 1, Rb, Cb, B, n2, c2⟩ (by simp))
       refine ⟨hS7, ?_⟩
       refine wpAnyH_done (by kernel_rfl) ?_ _
       exact ⟨rfl, bo_x, bo_y, A5, d5, A6, d6, rfl, hd5, hd6, HW.out.subx (by simp)⟩
     ·skip
      obtain ⟨bo_x, hbo⟩ : ∃ b, v4.heap.size = b := ⟨_, rfl⟩
      have hfr := HW.out.fresh
      rw [hbo] at hfr
      have hne_x_a : w.heap.size ≠ bo_x := hfr ⟨w.heap.size, Ra, Ca, A, n1, c1⟩ (by simp)
      have hne_x_b : w.heap.size + 1 ≠ bo_x := hfr ⟨w.heap.size + 1, Rb, Cb, B, n2, c2⟩ (by simp)
      clear hfr
      have hle_x : w.heap.size ≤ bo_x := by rw [← hbo]; exact HW.out.bel.size
      obtain ⟨v4y, hvv4y, -, HN⟩ := HW.out.var 0 0 none 0 0
      rw [hbo] at HN
      have hbx0 := HN.bx _ (List.mem_cons_self ..)
      have HW := Lib.hid HN
      clear HN
      go_simp
      clear hbx0 hbo hvv4y
      have hS3 : S v4y := hSi _ (HW.out.bx ⟨w.heap.size, Ra, Ca, A, n1, c1⟩ (by simp)) (HW.out.bx ⟨w.heap.size + 1, Rb, Cb, B, n2, c2⟩ (by simp))
      refine ⟨hS3, ?_⟩
      refine wpAnyH_two (i := 3) (j := 5) (by kernel_rfl) rfl rfl (by kernel_rfl) (by kernel_rfl) ?_ ?_
      ·skip
       go_simp
       refine (copiedW HW.out Rb Cb B t n2 c2 (by simp) HL2.out).mono ?_
       rintro e v5 ⟨A6, d6, rfl, hd6, HN⟩
       have HW := Lib.hid HN
       clear HN
       have hS4 : S v5 := hSi _ (HW.out.bx ⟨w.heap.size, Ra, Ca, A, n1, c1⟩ (by simp)) (HW.out.bx ⟨w.heap.size + 1, Rb, Cb, B, n2, c2⟩ (by simp))
       show S v5 ∧ _
       refine ⟨hS4, ?_⟩
       refine wpAnyH_one (i := 5) (by kernel_rfl) rfl (by kernel_rfl) ?_
       obtain ⟨bo_y, hbo⟩ : ∃ b, v5.heap.size = b := ⟨_, rfl⟩
       have hfr := HW.out.fresh
       rw [hbo] at hfr
       have hne_y_a : w.heap.size ≠ bo_y := hfr ⟨w.heap.size, Ra, Ca, A, n1, c1⟩ (by simp)
       have hne_y_b : w.heap.size + 1 ≠ bo_y := hfr ⟨w.heap.size + 1, Rb, Cb, B, n2, c2⟩ (by simp)
       have hne_y_x : bo_x ≠ bo_y := hfr ⟨bo_x, 0, 0, none, 0, 0⟩ (by simp)
       clear hfr
       have hle_y : w.heap.size ≤ bo_y := by rw [← hbo]; exact HW.out.bel.size
       obtain ⟨v5y, hvv5y, -, HN⟩ := HW.out.var 0 0 none 0 0
       rw [hbo] at HN
       have hbx0 := HN.bx _ (List.mem_cons_self ..)
       have HW := Lib.hid HN
       clear HN
       go_simp
       clear hbx0 hbo hvv5y
       have hS5 : S v5y := hSi _ (HW.out.bx ⟨w.heap.size, Ra, Ca, A, n1, c1⟩ (by simp)) (HW.out.bx ⟨w.heap.size + 1, Rb, Cb, B, n2, c2⟩ (by simp))
       refine ⟨hS5, ?_⟩
       refine wpAnyH_one (i := 6) (by kernel_rfl) rfl (by kernel_rfl) ?_
       have f0 := (HW.out.bx ⟨bo_x, 0, 0, none, 0, 0⟩ (by simp)).frozen 0
       have f1 := (HW.out.bx ⟨bo_x, 0, 0, none, 0, 0⟩ (by simp)).frozen 1
       have f2 := (HW.out.bx ⟨bo_x, 0, 0, none, 0, 0⟩ (by simp)).frozen 2
       obtain ⟨y0, y1, y2⟩ := HW.out.at_ (b := bo_x) (R := 0) (C := 0) (A := none) (n := 0) (c := 0) (by simp)
       have hoth : ∀ y ∈ ([⟨w.heap.size, Ra, Ca, A, n1, c1⟩, ⟨w.heap.size + 1, Rb, Cb, B, n2, c2⟩, ⟨bo_y, 0, 0, none, 0, 0⟩] : List Bx), y ∈ ([⟨w.heap.size, Ra, Ca, A, n1, c1⟩, ⟨w.heap.size + 1, Rb, Cb, B, n2, c2⟩, ⟨bo_x, 0, 0, none, 0, 0⟩, ⟨bo_y, 0, 0, none, 0, 0⟩] : List Bx) ∧ y.b ≠ bo_x := by
        intro y hy
        simp only [List.mem_cons, List.not_mem_nil, or_false] at hy
        rcases hy with rfl | rfl | rfl
        ·exact ⟨by simp, by (first | exact hne_x_a | exact Ne.symm hne_a_x)⟩
        ·exact ⟨by simp, by (first | exact hne_x_b | exact Ne.symm hne_b_x)⟩
        ·exact ⟨by simp, by (first | exact hne_x_y | exact Ne.symm hne_y_x)⟩
       obtain ⟨v5yp, hvv5yp, HN⟩ := (HW.out.subx (bx' := [⟨w.heap.size, Ra, Ca, A, n1, c1⟩, ⟨w.heap.size + 1, Rb, Cb, B, n2, c2⟩, ⟨bo_x, 0, 0, none, 0, 0⟩, ⟨bo_y, 0, 0, none, 0, 0⟩]) (by simp)).put (b := bo_x) (R0 := 0) (C0 := 0) (A0 := none) (n0 := 0) (c0 := 0) (by simp) hle_x [⟨w.heap.size, Ra, Ca, A, n1, c1⟩, ⟨w.heap.size + 1, Rb, Cb, B, n2, c2⟩, ⟨bo_y, 0, 0, none, 0, 0⟩] hoth Ra Ca A5 n1 d5
       clear hoth
       have HW := Lib.hid HN
       clear HN
       go_simp
       clear f0 f1 f2 y0 y1 y2 hvv5yp
       have hS6 : S v5yp := hSi _ (HW.out.bx ⟨w.heap.size, Ra, Ca, A, n1, c1⟩ (by simp)) (HW.out.bx ⟨w.heap.size + 1, Rb, Cb, B, n2, c2⟩ (by simp))
       refine ⟨hS6, ?_⟩
       refine wpAnyH_one (i := 7) (by kernel_rfl) rfl (by kernel_rfl) ?_
       have f0 := (HW.out.bx ⟨bo_y, 0, 0, none, 0, 0⟩ (by simp)).frozen 0
       have f1 := (HW.out.bx ⟨bo_y, 0, 0, none, 0, 0⟩ (by simp)).frozen 1
       have f2 := (HW.out.bx ⟨bo_y, 0, 0, none, 0, 0⟩ (by simp)).frozen 2
       obtain ⟨y0, y1, y2⟩ := HW.out.at_ (b := bo_y) (R := 0) (C := 0) (A := none) (n := 0) (c := 0) (by simp)
       have hoth : ∀ y ∈ ([⟨bo_x, Ra, Ca, A5, n1, d5⟩, ⟨w.heap.size, Ra, Ca, A, n1, c1⟩, ⟨w.heap.size + 1, Rb, Cb, B, n2, c2⟩] : List Bx), y ∈ ([⟨bo_x, Ra, Ca, A5, n1, d5⟩, ⟨w.heap.size, Ra, Ca, A, n1, c1⟩, ⟨w.heap.size + 1, Rb, Cb, B, n2, c2⟩, ⟨bo_y, 0, 0, none, 0, 0⟩] : List Bx) ∧ y.b ≠ bo_y := by
        intro y hy
        simp only [List.mem_cons, List.not_mem_nil, or_false] at hy
        rcases hy with rfl | rfl | rfl
        ·exact ⟨by simp, by (first | exact hne_y_x | exact Ne.symm hne_x_y)⟩
        ·exact ⟨by simp, by (first | exact hne_y_a | exact Ne.symm hne_a_y)⟩
        ·exact ⟨by simp, by (first | exact hne_y_b | exact Ne.symm hne_b_y)⟩
       obtain ⟨v5ypp, hvv5ypp, HN⟩ := (HW.out.subx (bx' := [⟨bo_x, Ra, Ca, A5, n1, d5⟩, ⟨w.heap.size, Ra, Ca, A, n1, c1⟩, ⟨w.heap.size + 1, Rb, Cb, B, n2, c2⟩, ⟨bo_y, 0, 0, none, 0, 0⟩]) (by simp)).put (b := bo_y) (R0 := 0) (C0 := 0) (A0 := none) (n0 := 0) (c0 := 0) (by simp) hle_y [⟨bo_x, Ra, Ca, A5, n1, d5⟩, ⟨w.heap.size, Ra, Ca, A, n1, c1⟩, ⟨w.heap.size + 1, Rb, Cb, B, n2, c2⟩] hoth Rb Cb A6 n2 d6
       clear hoth
       have HW := Lib.hid HN
       clear HN
       go_simp
       clear f0 f1 f2 y0 y1 y2 hvv5ypp
       have hS7 : S v5ypp := hSi _ (HW.out.bx ⟨w.heap.size, Ra, Ca, A, n1, c1⟩ (by simp)) (HW.out.bx ⟨w.heap.size + 1, Rb, Cb, B, n2, c2⟩ (by simp))
       refine ⟨hS7, ?_⟩
       refine wpAnyH_done (by kernel_rfl) ?_ _
       exact ⟨rfl, bo_x, bo_y, A5, d5, A6, d6, rfl, hd5, hd6, HW.out.subx (by simp)⟩
      ·skip
       obtain ⟨bo_y, hbo⟩ : ∃ b, v4y.heap.size = b := ⟨_, rfl⟩
       have hfr := HW.out.fresh
       rw [hbo] at hfr
       have hne_y_a : w.heap.size ≠ bo_y := hfr ⟨w.heap.size, Ra, Ca, A, n1, c1⟩ (by simp)
       have hne_y_b : w.heap.size + 1 ≠ bo_y := hfr ⟨w.heap.size + 1, Rb, Cb, B, n2, c2⟩ (by simp)
       have hne_y_x : bo_x ≠ bo_y := hfr ⟨bo_x, 0, 0, none, 0, 0⟩ (by simp)
       clear hfr
       have hle_y : w.heap.size ≤ bo_y := by rw [← hbo]; exact HW.out.bel.size
       obtain ⟨v4yy, hvv4yy, -, HN⟩ := HW.out.var 0 0 none 0 0
       rw [hbo] at HN
       have hbx0 := HN.bx _ (List.mem_cons_self ..)
       have HW := Lib.hid HN
       clear HN
       go_simp
       clear hbx0 hbo hvv4yy
       have hS4 : S v4yy := hSi _ (HW.out.bx ⟨w.heap.size, Ra, Ca, A, n1, c1⟩ (by simp)) (HW.out.bx ⟨w.heap.size + 1, Rb, Cb, B, n2, c2⟩ (by simp))
       refine ⟨hS4, ?_⟩
       refine wpAnyH_one (i := 3) (by kernel_rfl) rfl (by kernel_rfl) ?_
       go_simp
       refine (copiedW HW.out Rb Cb B t n2 c2 (by simp) HL2.out).mono ?_
       rintro e v5 ⟨A6, d6, rfl, hd6, HN⟩
       have HW := Lib.hid HN
       clear HN
       have hS5 : S v5 := hSi _ (HW.out.bx ⟨w.heap.size, Ra, Ca, A, n1, c1⟩ (by simp)) (HW.out.bx ⟨w.heap.size + 1, Rb, Cb, B, n2, c2⟩ (by simp))
       show S v5 ∧ _
       refine ⟨hS5, ?_⟩
       refine wpAnyH_one (i := 6) (by kernel_rfl) rfl (by kernel_rfl) ?_
       have f0 := (HW.out.bx ⟨bo_x, 0, 0, none, 0, 0⟩ (by simp)).frozen 0
       have f1 := (HW.out.bx ⟨bo_x, 0, 0, none, 0, 0⟩ (by simp)).frozen 1
       have f2 := (HW.out.bx ⟨bo_x, 0, 0, none, 0, 0⟩ (by simp)).frozen 2
       obtain ⟨y0, y1, y2⟩ := HW.out.at_ (b := bo_x) (R := 0) (C := 0) (A := none) (n := 0) (c := 0) (by simp)
       have hoth : ∀ y ∈ ([⟨w.heap.size, Ra, Ca, A, n1, c1⟩, ⟨w.heap.size + 1, Rb, Cb, B, n2, c2⟩, ⟨bo_y, 0, 0, none, 0, 0⟩] : List Bx), y ∈ ([⟨w.heap.size, Ra, Ca, A, n1, c1⟩, ⟨w.heap.size + 1, Rb, Cb, B, n2, c2⟩, ⟨bo_x, 0, 0, none, 0, 0⟩, ⟨bo_y, 0, 0, none, 0, 0⟩] : List Bx) ∧ y.b ≠ bo_x := by
        intro y hy
        simp only [List.mem_cons, List.not_mem_nil, or_false] at hy
        rcases hy with rfl | rfl | rfl
        ·exact ⟨by simp, by (first | exact hne_x_a | exact Ne.symm hne_a_x)⟩
        ·exact ⟨by simp, by (first | exact hne_x_b | exact Ne.symm hne_b_x)⟩
        ·exact ⟨by simp, by (first | exact hne_x_y | exact Ne.symm hne_y_x)⟩
       obtain ⟨v5p, hvv5p, HN⟩ := (HW.out.subx (bx' := [⟨w.heap.size, Ra, Ca, A, n1, c1⟩, ⟨w.heap.size + 1, Rb, Cb, B, n2, c2⟩, ⟨bo_x, 0, 0, none, 0, 0⟩, ⟨bo_y, 0, 0, none, 0, 0⟩]) (by simp)).put (b := bo_x) (R0 := 0) (C0 := 0) (A0 := none) (n0 := 0) (c0 := 0) (by simp) hle_x [⟨w.heap.size, Ra, Ca, A, n1, c1⟩, ⟨w.heap.size + 1, Rb, Cb, B, n2, c2⟩, ⟨bo_y, 0, 0, none, 0, 0⟩] hoth Ra Ca A5 n1 d5
       clear hoth
       have HW := Lib.hid HN
       clear HN
       go_simp
       clear f0 f1 f2 y0 y1 y2 hvv5p
       have hS6 : S v5p := hSi _ (HW.out.bx ⟨w.heap.size, Ra, Ca, A, n1, c1⟩ (by simp)) (HW.out.bx ⟨w.heap.size + 1, Rb, Cb, B, n2, c2⟩ (by simp))
       refine ⟨hS6, ?_⟩
       refine wpAnyH_one (i := 7) (by kernel_rfl) rfl (by kernel_rfl) ?_
       have f0 := (HW.out.bx ⟨bo_y, 0, 0, none, 0, 0⟩ (by simp)).frozen 0
       have f1 := (HW.out.bx ⟨bo_y, 0, 0, none, 0, 0⟩ (by simp)).frozen 1
       have f2 := (HW.out.bx ⟨bo_y, 0, 0, none, 0, 0⟩ (by simp)).frozen 2
       obtain ⟨y0, y1, y2⟩ := HW.out.at_ (b := bo_y) (R := 0) (C := 0) (A := none) (n := 0) (c := 0) (by simp)
       have hoth : ∀ y ∈ ([⟨bo_x, Ra, Ca, A5, n1, d5⟩, ⟨w.heap.size, Ra, Ca, A, n1, c1⟩, ⟨w.heap.size + 1, Rb, Cb, B, n2, c2⟩] : List Bx), y ∈ ([⟨bo_x, Ra, Ca, A5, n1, d5⟩, ⟨w.heap.size, Ra, Ca, A, n1, c1⟩, ⟨w.heap.size + 1, Rb, Cb, B, n2, c2⟩, ⟨bo_y, 0, 0, none, 0, 0⟩] : List Bx) ∧ y.b ≠ bo_y := by
        intro y hy
        simp only [List.mem_cons, List.not_mem_nil, or_false] at hy
        rcases hy with rfl | rfl | rfl
        ·exact ⟨by simp, by (first | exact hne_y_x | exact Ne.symm hne_x_y)⟩
        ·exact ⟨by simp, by (first | exact hne_y_a | exact Ne.symm hne_a_y)⟩
        ·exact ⟨by simp, by (first | exact hne_y_b | exact Ne.symm hne_b_y)⟩
       obtain ⟨v5pp, hvv5pp, HN⟩ := (HW.out.subx (bx' := [⟨bo_x, Ra, Ca, A5, n1, d5⟩, ⟨w.heap.size, Ra, Ca, A, n1, c1⟩, ⟨w.heap.size + 1, Rb, Cb, B, n2, c2⟩, ⟨bo_y, 0, 0, none, 0, 0⟩]) (by simp)).put (b := bo_y) (R0 := 0) (C0 := 0) (A0 := none) (n0 := 0) (c0 := 0) (by simp) hle_y [⟨bo_x, Ra, Ca, A5, n1, d5⟩, ⟨w.heap.size, Ra, Ca, A, n1, c1⟩, ⟨w.heap.size + 1, Rb, Cb, B, n2, c2⟩] hoth Rb Cb A6 n2 d6
       clear hoth
       have HW := Lib.hid HN
       clear HN
       go_simp
       clear f0 f1 f2 y0 y1 y2 hvv5pp
       have hS7 : S v5pp := hSi _ (HW.out.bx ⟨w.heap.size, Ra, Ca, A, n1, c1⟩ (by simp)) (HW.out.bx ⟨w.heap.size + 1, Rb, Cb, B, n2, c2⟩ (by simp))
       refine ⟨hS7, ?_⟩
       refine wpAnyH_done (by kernel_rfl) ?_ _
       exact ⟨rfl, bo_x, bo_y, A5, d5, A6, d6, rfl, hd5, hd6, HW.out.subx (by simp)⟩
     ·skip
      obtain ⟨bo_y, hbo⟩ : ∃ b, v4.heap.size = b := ⟨_, rfl⟩
      have hfr := HW.out.fresh
      rw [hbo] at hfr
      have hne_y_a : w.heap.size ≠ bo_y := hfr ⟨w.heap.size, Ra, Ca, A, n1, c1⟩ (by simp)
      have hne_y_b : w.heap.size + 1 ≠ bo_y := hfr ⟨w.heap.size + 1, Rb, Cb, B, n2, c2⟩ (by simp)
      clear hfr
      have hle_y : w.heap.size ≤ bo_y := by rw [← hbo]; exact HW.out.bel.size
      obtain ⟨v4y, hvv4y, -, HN⟩ := HW.out.var 0 0 none 0 0
      rw [hbo] at HN
      have hbx0 := HN.bx _ (List.mem_cons_self ..)
      have HW := Lib.hid HN
      clear HN
      go_simp
      clear hbx0 hbo hvv4y
      have hS3 : S v4y := hSi _ (HW.out.bx ⟨w.heap.size, Ra, Ca, A, n1, c1⟩ (by simp)) (HW.out.bx ⟨w.heap.size + 1, Rb, Cb, B, n2, c2⟩ (by simp))
      refine ⟨hS3, ?_⟩
      refine wpAnyH_two (i := 3) (j := 4) (by kernel_rfl) rfl rfl (by kernel_rfl) (by kernel_rfl) ?_ ?_
      ·skip
       go_simp
       refine (copiedW HW.out Rb Cb B t n2 c2 (by simp) HL2.out).mono ?_
       rintro e v5 ⟨A6, d6, rfl, hd6, HN⟩
       have HW := Lib.hid HN
       clear HN
       have hS4 : S v5 := hSi _ (HW.out.bx ⟨w.heap.size, Ra, Ca, A, n1, c1⟩ (by simp)) (HW.out.bx ⟨w.heap.size + 1, Rb, Cb, B, n2, c2⟩ (by simp))
       show S v5 ∧ _
       refine ⟨hS4, ?_⟩
       refine wpAnyH_one (i := 4) (by kernel_rfl) rfl (by kernel_rfl) ?_
       obtain ⟨bo_x, hbo⟩ : ∃ b, v5.heap.size = b := ⟨_, rfl⟩
       have hfr := HW.out.fresh
       rw [hbo] at hfr
       have hne_x_a : w.heap.size ≠ bo_x := hfr ⟨w.heap.size, Ra, Ca, A, n1, c1⟩ (by simp)
       have hne_x_b : w.heap.size + 1 ≠ bo_x := hfr ⟨w.heap.size + 1, Rb, Cb, B, n2, c2⟩ (by simp)
       have hne_x_y : bo_y ≠ bo_x := hfr ⟨bo_y, 0, 0, none, 0, 0⟩ (by simp)
       clear hfr
       have hle_x : w.heap.size ≤ bo_x := by rw [← hbo]; exact HW.out.bel.size
       obtain ⟨v5y, hvv5y, -, HN⟩ := HW.out.var 0 0 none 0 0
       rw [hbo] at HN
       have hbx0 := HN.bx _ (List.mem_cons_self ..)
       have HW := Lib.hid HN
       clear HN
       go_simp
       clear hbx0 hbo hvv5y
       have hS5 : S v5y := hSi _ (HW.out.bx ⟨w.heap.size, Ra, Ca, A, n1, c1⟩ (by simp)) (HW.out.bx ⟨w.heap.size + 1, Rb, Cb, B, n2, c2⟩ (by simp))
       refine ⟨hS5, ?_⟩
       refine wpAnyH_one (i := 6) (by kernel_rfl) rfl (by kernel_rfl) ?_
       have f0 := (HW.out.bx ⟨bo_x, 0, 0, none, 0, 0⟩ (by simp)).frozen 0
       have f1 := (HW.out.bx ⟨bo_x, 0, 0, none, 0, 0⟩ (by simp)).frozen 1
       have f2 := (HW.out.bx ⟨bo_x, 0, 0, none, 0, 0⟩ (by simp)).frozen 2
       obtain ⟨y0, y1, y2⟩ := HW.out.at_ (b := bo_x) (R := 0) (C := 0) (A := none) (n := 0) (c := 0) (by simp)
       have hoth : ∀ y ∈ ([⟨w.heap.size, Ra, Ca, A, n1, c1⟩, ⟨w.heap.size + 1, Rb, Cb, B, n2, c2⟩, ⟨bo_y, 0, 0, none, 0, 0⟩] : List Bx), y ∈ ([⟨w.heap.size, Ra, Ca, A, n1, c1⟩, ⟨w.heap.size + 1, Rb, Cb, B, n2, c2⟩, ⟨bo_y, 0, 0, none, 0, 0⟩, ⟨bo_x, 0, 0, none, 0, 0⟩] : List Bx) ∧ y.b ≠ bo_x := by
        intro y hy
        simp only [List.mem_cons, List.not_mem_nil, or_false] at hy
        rcases hy with rfl | rfl | rfl
        ·exact ⟨by simp, by (first | exact hne_x_a | exact Ne.symm hne_a_x)⟩
        ·exact ⟨by simp, by (first | exact hne_x_b | exact Ne.symm hne_b_x)⟩
        ·exact ⟨by simp, by (first | exact hne_x_y | exact Ne.symm hne_y_x)⟩
       obtain ⟨v5yp, hvv5yp, HN⟩ := (HW.out.subx (bx' := [⟨w.heap.size, Ra, Ca, A, n1, c1⟩, ⟨w.heap.size + 1, Rb, Cb, B, n2, c2⟩, ⟨bo_y, 0, 0, none, 0, 0⟩, ⟨bo_x, 0, 0, none, 0, 0⟩]) (by simp)).put (b := bo_x) (R0 := 0) (C0 := 0) (A0 := none) (n0 := 0) (c0 := 0) (by simp) hle_x [⟨w.heap.size, Ra, Ca, A, n1, c1⟩, ⟨w.heap.size + 1, Rb, Cb, B, n2, c2⟩, ⟨bo_y, 0, 0, none, 0, 0⟩] hoth Ra Ca A5 n1 d5
       clear hoth
       have HW := Lib.hid HN
       clear HN
       go_simp
       clear f0 f1 f2 y0 y1 y2 hvv5yp
       have hS6 : S v5yp := hSi _ (HW.out.bx ⟨w.heap.size, Ra, Ca, A, n1, c1⟩ (by simp)) (HW.out.bx ⟨w.heap.size + 1, Rb, Cb, B, n2, c2⟩ (by simp))
       refine ⟨hS6, ?_⟩
       refine wpAnyH_one (i := 7) (by kernel_rfl) rfl (by kernel_rfl) ?_
       have f0 := (HW.out.bx ⟨bo_y, 0, 0, none, 0, 0⟩ (by simp)).frozen 0
       have f1 := (HW.out.bx ⟨bo_y, 0, 0, none, 0, 0⟩ (by simp)).frozen 1
       have f2 := (HW.out.bx ⟨bo_y, 0, 0, none, 0, 0⟩ (by simp)).frozen 2
       obtain ⟨y0, y1, y2⟩ := HW.out.at_ (b := bo_y) (R := 0) (C := 0) (A := none) (n := 0) (c := 0) (by simp)
       have hoth : ∀ y ∈ ([⟨bo_x, Ra, Ca, A5, n1, d5⟩, ⟨w.heap.size, Ra, Ca, A, n1, c1⟩, ⟨w.heap.size + 1, Rb, Cb, B, n2, c2⟩] : List Bx), y ∈ ([⟨bo_x, Ra, Ca, A5, n1, d5⟩, ⟨w.heap.size, Ra, Ca, A, n1, c1⟩, ⟨w.heap.size + 1, Rb, Cb, B, n2, c2⟩, ⟨bo_y, 0, 0, none, 0, 0⟩] : List Bx) ∧ y.b ≠ bo_y := by
        intro y hy
        simp only [List.mem_cons, List.not_mem_nil, or_false] at hy
        rcases hy with rfl | rfl | rfl
        ·exact ⟨by simp, by (first | exact hne_y_x | exact Ne.symm hne_x_y)⟩
        ·exact ⟨by simp, by (first | exact hne_y_a | exact Ne.symm hne_a_y)⟩
        ·exact ⟨by simp, by (first | exact hne_y_b | exact Ne.symm hne_b_y)⟩
       obtain ⟨v5ypp, hvv5ypp, HN⟩ := (HW.out.subx (bx' := [⟨bo_x, Ra, Ca, A5, n1, d5⟩, ⟨w.heap.size, Ra, Ca, A, n1, c1⟩, ⟨w.heap.size + 1, Rb, Cb, B, n2, c2⟩, ⟨bo_y, 0, 0, none, 0, 0⟩]) (by simp)).put (b := bo_y) (R0 := 0) (C0 := 0) (A0 := none) (n0 := 0) (c0 := 0) (by simp) hle_y [⟨bo_x, Ra, Ca, A5, n1, d5⟩, ⟨w.heap.size, Ra, Ca, A, n1, c1⟩, ⟨w.heap.size + 1, Rb, Cb, B, n2, c2⟩] hoth Rb Cb A6 n2 d6
       clear hoth
       have HW := Lib.hid HN
       clear HN
       go_simp
       clear f0 f1 f2 y0 y1 y2 hvv5ypp
       have hS7 : S v5ypp := hSi _ (HW.out.bx ⟨w.heap.size, Ra, Ca, A, n1, c1⟩ (by simp)) (HW.out.bx ⟨w.heap.size + 1, Rb, Cb, B, n2, c2⟩ (by simp))
       refine ⟨hS7, ?_⟩
       refine wpAnyH_done (by kernel_rfl) ?_ _
       exact ⟨rfl, bo_x, bo_y, A5, d5, A6, d6, rfl, hd5, hd6, HW.out.subx (by simp)⟩
      ·skip
       obtain ⟨bo_x, hbo⟩ : ∃ b, v4y.heap.size = b := ⟨_, rfl⟩
       have hfr := HW.out.fresh
       rw [hbo] at hfr
       have hne_x_a : w.heap.size ≠ bo_x := hfr ⟨w.heap.size, Ra, Ca, A, n1, c1⟩ (by simp)
       have hne_x_b : w.heap.size + 1 ≠ bo_x := hfr ⟨w.heap.size + 1, Rb, Cb, B, n2, c2⟩ (by simp)
       have hne_x_y : bo_y ≠ bo_x := hfr ⟨bo_y, 0, 0, none, 0, 0⟩ (by simp)
       clear hfr
       have hle_x : w.heap.size ≤ bo_x := by rw [← hbo]; exact HW.out.bel.size
       obtain ⟨v4yy, hvv4yy, -, HN⟩ := HW.out.var 0 0 none 0 0
       rw [hbo] at HN
       have hbx0 := HN.bx _ (List.mem_cons_self ..)
       have HW := Lib.hid HN
       clear HN
       go_simp
       clear hbx0 hbo hvv4yy
       have hS4 : S v4yy := hSi _ (HW.out.bx ⟨w.heap.size, Ra, Ca, A, n1, c1⟩ (by simp)) (HW.out.bx ⟨w.heap.size + 1, Rb, Cb, B, n2, c2⟩ (by simp))
       refine ⟨hS4, ?_⟩
       refine wpAnyH_one (i := 3) (by kernel_rfl) rfl (by kernel_rfl) ?_
       go_simp
       refine (copiedW HW.out Rb Cb B t n2 c2 (by simp) HL2.out).mono ?_
       rintro e v5 ⟨A6, d6, rfl, hd6, HN⟩
       have HW := Lib.hid HN
       clear HN
       have hS5 : S v5 := hSi _ (HW.out.bx ⟨w.heap.size, Ra, Ca, A, n1, c1⟩ (by simp)) (HW.out.bx ⟨w.heap.size + 1, Rb, Cb, B, n2, c2⟩ (by simp))
       show S v5 ∧ _
       refine ⟨hS5, ?_⟩
       refine wpAnyH_one (i := 6) (by kernel_rfl) rfl (by kernel_rfl) ?_
       have f0 := (HW.out.bx ⟨bo_x, 0, 0, none, 0, 0⟩ (by simp)).frozen 0
       have f1 := (HW.out.bx ⟨bo_x, 0, 0, none, 0, 0⟩ (by simp)).frozen 1
       have f2 := (HW.out.bx ⟨bo_x, 0, 0, none, 0, 0⟩ (by simp)).frozen 2
       obtain ⟨y0, y1, y2⟩ := HW.out.at_ (b := bo_x) (R := 0) (C := 0) (A := none) (n := 0) (c := 0) (by simp)
       have hoth : ∀ y ∈ ([⟨w.heap.size, Ra, Ca, A, n1, c1⟩, ⟨w.heap.size + 1, Rb, Cb, B, n2, c2⟩, ⟨bo_y, 0, 0, none, 0, 0⟩] : List Bx), y ∈ ([⟨w.heap.size, Ra, Ca, A, n1, c1⟩, ⟨w.heap.size + 1, Rb, Cb, B, n2, c2⟩, ⟨bo_y, 0, 0, none, 0, 0⟩, ⟨bo_x, 0, 0, none, 0, 0⟩] : List Bx) ∧ y.b ≠ bo_x := by
        intro y hy
        simp only [List.mem_cons, List.not_mem_nil, or_false] at hy
        rcases hy with rfl | rfl | rfl
        ·exact ⟨by simp, by (first | exact hne_x_a | exact Ne.symm hne_a_x)⟩
        ·exact ⟨by simp, by (first | exact hne_x_b | exact Ne.symm hne_b_x)⟩
        ·exact ⟨by simp, by (first | exact hne_x_y | exact Ne.symm hne_y_x)⟩
       obtain ⟨v5p, hvv5p, HN⟩ := (HW.out.subx (bx' := [⟨w.heap.size, Ra, Ca, A, n1, c1⟩, ⟨w.heap.size + 1, Rb, Cb, B, n2, c2⟩, ⟨bo_y, 0, 0, none, 0, 0⟩, ⟨bo_x, 0, 0, none, 0, 0⟩]) (by simp)).put (b := bo_x) (R0 := 0) (C0 := 0) (A0 := none) (n0 := 0) (c0 := 0) (by simp) hle_x [⟨w.heap.size, Ra, Ca, A, n1, c1⟩, ⟨w.heap.size + 1, Rb, Cb, B, n2, c2⟩, ⟨bo_y, 0, 0, none, 0, 0⟩] hoth Ra Ca A5 n1 d5
       clear hoth
       have HW := Lib.hid HN
       clear HN
       go_simp
       clear f0 f1 f2 y0 y1 y2 hvv5p
       have hS6 : S v5p := hSi _ (HW.out.bx ⟨w.heap.size, Ra, Ca, A, n1, c1⟩ (by simp)) (HW.out.bx ⟨w.heap.size + 1, Rb, Cb, B, n2, c2⟩ (by simp))
       refine ⟨hS6, ?_⟩
       refine wpAnyH_one (i := 7) (by kernel_rfl) rfl (by kernel_rfl) ?_
       have f0 := (HW.out.bx ⟨bo_y, 0, 0, none, 0, 0⟩ (by simp)).frozen 0
       have f1 := (HW.out.bx ⟨bo_y, 0, 0, none, 0, 0⟩ (by simp)).frozen 1
       have f2 := (HW.out.bx ⟨bo_y, 0, 0, none, 0, 0⟩ (by simp)).frozen 2
       obtain ⟨y0, y1, y2⟩ := HW.out.at_ (b := bo_y) (R := 0) (C := 0) (A := none) (n := 0) (c := 0) (by simp)
       have hoth : ∀ y ∈ ([⟨bo_x, Ra, Ca, A5, n1, d5⟩, ⟨w.heap.size, Ra, Ca, A, n1, c1⟩, ⟨w.heap.size + 1, Rb, Cb, B, n2, c2⟩] : List Bx), y ∈ ([⟨bo_x, Ra, Ca, A5, n1, d5⟩, ⟨w.heap.size, Ra, Ca, A, n1, c1⟩, ⟨w.heap.size + 1, Rb, Cb, B, n2, c2⟩, ⟨bo_y, 0, 0, none, 0, 0⟩] : List Bx) ∧ y.b ≠ bo_y := by
        intro y hy
        simp only [List.mem_cons, List.not_mem_nil, or_false] at hy
        rcases hy with rfl | rfl | rfl
        ·exact ⟨by simp, by (first | exact hne_y_x | exact Ne.symm hne_x_y)⟩
        ·exact ⟨by simp, by (first | exact hne_y_a | exact Ne.symm hne_a_y)⟩
        ·exact ⟨by simp, by (first | exact hne_y_b | exact Ne.symm hne_b_y)⟩
       obtain ⟨v5pp, hvv5pp, HN⟩ := (HW.out.subx (bx' := [⟨bo_x, Ra, Ca, A5, n1, d5⟩, ⟨w.heap.size, Ra, Ca, A, n1, c1⟩, ⟨w.heap.size + 1, Rb, Cb, B, n2, c2⟩, ⟨bo_y, 0, 0, none, 0, 0⟩]) (by simp)).put (b := bo_y) (R0 := 0) (C0 := 0) (A0 := none) (n0 := 0) (c0 := 0) (by simp) hle_y [⟨bo_x, Ra, Ca, A5, n1, d5⟩, ⟨w.heap.size, Ra, Ca, A, n1, c1⟩, ⟨w.heap.size + 1, Rb, Cb, B, n2, c2⟩] hoth Rb Cb A6 n2 d6
       clear hoth
       have HW := Lib.hid HN
       clear HN
       go_simp
       clear f0 f1 f2 y0 y1 y2 hvv5pp
       have hS7 : S v5pp := hSi _ (HW.out.bx ⟨w.heap.size, Ra, Ca, A, n1, c1⟩ (by simp)) (HW.out.bx ⟨w.heap.size + 1, Rb, Cb, B, n2, c2⟩ (by simp))
       refine ⟨hS7, ?_⟩
       refine wpAnyH_done (by kernel_rfl) ?_ _
       exact ⟨rfl, bo_x, bo_y, A5, d5, A6, d6, rfl, hd5, hd6, HW.out.subx (by simp)⟩
    ·skip
     obtain ⟨bo_x, hbo⟩ : ∃ b, v3.drew.heap.size = b := ⟨_, rfl⟩
     have hfr := HW.out.fresh
     rw [hbo] at hfr
     have hne_x_a : w.heap.size ≠ bo_x := hfr ⟨w.heap.size, Ra, Ca, A, n1, c1⟩ (by simp)
     have hne_x_b : w.heap.size + 1 ≠ bo_x := hfr ⟨w.heap.size + 1, Rb, Cb, B, n2, c2⟩ (by simp)
     clear hfr
     have hle_x : w.heap.size ≤ bo_x := by rw [← hbo]; exact HW.out.bel.size
     obtain ⟨v3dy, hvv3dy, -, HN⟩ := HW.out.var 0 0 none 0 0
     rw [hbo] at HN
     have hbx0 := HN.bx _ (List.mem_cons_self ..)
     have HW := Lib.hid HN
     clear HN
     go_simp
     clear hbx0 hbo hvv3dy
     have hS2 : S v3dy := hSi _ (HW.out.bx ⟨w.heap.size, Ra, Ca, A, n1, c1⟩ (by simp)) (HW.out.bx ⟨w.heap.size + 1, Rb, Cb, B, n2, c2⟩ (by simp))
     refine ⟨hS2, ?_⟩
     refine wpAnyH_two (i := 1) (j := 5) (by kernel_rfl) rfl rfl (by kernel_rfl) (by kernel_rfl) ?_ ?_
     ·skip
      go_simp
      refine (copiedW HW.out Ra Ca A s n1 c1 (by simp) HL1.out).mono ?_
      rintro e v4 ⟨A5, d5, rfl, hd5, HN⟩
      have HW := Lib.hid HN
      clear HN
      have hS3 : S v4 := hSi _ (HW.out.bx ⟨w.heap.size, Ra, Ca, A, n1, c1⟩ (by simp)) (HW.out.bx ⟨w.heap.size + 1, Rb, Cb, B, n2, c2⟩ (by simp))
      show S v4 ∧ _
      refine ⟨hS3, ?_⟩
      refine wpAnyH_two (i := 3) (j := 5) (by kernel_rfl) rfl rfl (by kernel_rfl) (by kernel_rfl) ?_ ?_
      ·skip
       go_simp
       refine (copiedW HW.out Rb Cb B t n2 c2 (by simp) HL2.out).mono ?_
       rintro e v5 ⟨A6, d6, rfl, hd6, HN⟩
       have HW := Lib.hid HN
       clear HN
       have hS4 : S v5 := hSi _ (HW.out.bx ⟨w.heap.size, Ra, Ca, A, n1, c1⟩ (by simp)) (HW.out.bx ⟨w.heap.size + 1, Rb, Cb, B, n2, c2⟩ (by simp))
       show S v5 ∧ _
       refine ⟨hS4, ?_⟩
       refine wpAnyH_one (i := 5) (by kernel_rfl) rfl (by kernel_rfl) ?_
       obtain ⟨bo_y, hbo⟩ : ∃ b, v5.heap.size = b := ⟨_, rfl⟩
       have hfr := HW.out.fresh
       rw [hbo] at hfr
       have hne_y_a : w.heap.size ≠ bo_y := hfr ⟨w.heap.size, Ra, Ca, A, n1, c1⟩ (by simp)
       have hne_y_b : w.heap.size + 1 ≠ bo_y := hfr ⟨w.heap.size + 1, Rb, Cb, B, n2, c2⟩ (by simp)
       have hne_y_x : bo_x ≠ bo_y := hfr ⟨bo_x, 0, 0, none, 0, 0⟩ (by simp)
       clear hfr
       have hle_y : w.heap.size ≤ bo_y := by rw [← hbo]; exact HW.out.bel.size
       obtain ⟨v5y, hvv5y, -, HN⟩ := HW.out.var 0 0 none 0 0
       rw [hbo] at HN
       have hbx0 := HN.bx _ (List.mem_cons_self ..)
       have HW := Lib.hid HN
       clear HN
       go_simp
       clear hbx0 hbo hvv5y
       have hS5 : S v5y := hSi _ (HW.out.bx ⟨w.heap.size, Ra, Ca, A, n1, c1⟩ (by simp)) (HW.out.bx ⟨w.heap.size + 1, Rb, Cb, B, n2, c2⟩ (by simp))
       refine ⟨hS5, ?_⟩
       refine wpAnyH_one (i := 6) (by kernel_rfl) rfl (by kernel_rfl) ?_
       have f0 := (HW.out.bx ⟨bo_x, 0, 0, none, 0, 0⟩ (by simp)).frozen 0
       have f1 := (HW.out.bx ⟨bo_x, 0, 0, none, 0, 0⟩ (by simp)).frozen 1
       have f2 := (HW.out.bx ⟨bo_x, 0, 0, none, 0, 0⟩ (by simp)).frozen 2
       obtain ⟨y0, y1, y2⟩ := HW.out.at_ (b := bo_x) (R := 0) (C := 0) (A := none) (n := 0) (c := 0) (by simp)
       have hoth : ∀ y ∈ ([⟨w.heap.size, Ra, Ca, A, n1, c1⟩, ⟨w.heap.size + 1, Rb, Cb, B, n2, c2⟩, ⟨bo_y, 0, 0, none, 0, 0⟩] : List Bx), y ∈ ([⟨w.heap.size, Ra, Ca, A, n1, c1⟩, ⟨w.heap.size + 1, Rb, Cb, B, n2, c2⟩, ⟨bo_x, 0, 0, none, 0, 0⟩, ⟨bo_y, 0, 0, none, 0, 0⟩] : List Bx) ∧ y.b ≠ bo_x := by
        intro y hy
        simp only [List.mem_cons, List.not_mem_nil, or_false] at hy
        rcases hy with rfl | rfl | rfl
        ·exact ⟨by simp, by (first | exact hne_x_a | exact Ne.symm hne_a_x)⟩
        ·exact ⟨by simp, by (first | exact hne_x_b | exact Ne.symm hne_b_x)⟩
        ·exact ⟨by simp, by (first | exact hne_x_y | exact Ne.symm hne_y_x)⟩
       obtain ⟨v5yp, hvv5yp, HN⟩ := (HW.out.subx (bx' := [⟨w.heap.size, Ra, Ca, A, n1, c1⟩, ⟨w.heap.size + 1, Rb, Cb, B, n2, c2⟩, ⟨bo_x, 0, 0, none, 0, 0⟩, ⟨bo_y, 0, 0, none, 0, 0⟩]) (by simp)).put (b := bo_x) (R0 := 0) (C0 := 0) (A0 := none) (n0 := 0) (c0 := 0) (by simp) hle_x [⟨w.heap.size, Ra, Ca, A, n1, c1⟩, ⟨w.heap.size + 1, Rb, Cb, B, n2, c2⟩, ⟨bo_y, 0, 0, none, 0, 0⟩] hoth Ra Ca A5 n1 d5
       clear hoth
       have HW := Lib.hid HN
       clear HN
       go_simp
       clear f0 f1 f2 y0 y1 y2 hvv5yp
       have hS6 : S v5yp := hSi _ (HW.out.bx ⟨w.heap.size, Ra, Ca, A, n1, c1⟩ (by simp)) (HW.out.bx ⟨w.heap.size + 1, Rb, Cb, B, n2, c2⟩ (by simp))
       refine ⟨hS6, ?_⟩
       refine wpAnyH_one (i := 7) (by kernel_rfl) rfl (by kernel_rfl) ?_
       have f0 := (HW.out.bx ⟨bo_y, 0, 0, none, 0, 0⟩ (by simp)).frozen 0
       have f1 := (HW.out.bx ⟨bo_y, 0, 0, none, 0, 0⟩ (by simp)).frozen 1
       have f2 := (HW.out.bx ⟨bo_y, 0, 0, none, 0, 0⟩ (by simp)).frozen 2
       obtain ⟨y0, y1, y2⟩ := HW.out.at_ (b := bo_y) (R := 0) (C := 0) (A := none) (n := 0) (c := 0) (by simp)
       have hoth : ∀ y ∈ ([⟨bo_x, Ra, Ca, A5, n1, d5⟩, ⟨w.heap.size, Ra, Ca, A, n1, c1⟩, ⟨w.heap.size + 1, Rb, Cb, B, n2, c2⟩] : List Bx), y ∈ ([⟨bo_x, Ra, Ca, A5, n1, d5⟩, ⟨w.heap.size, Ra, Ca, A, n1, c1⟩, ⟨w.heap.size + 1, Rb, Cb, B, n2, c2⟩, ⟨bo_y, 0, 0, none, 0, 0⟩] : List Bx) ∧ y.b ≠ bo_y := by
        intro y hy
        simp only [List.mem_cons, List.not_mem_nil, or_false] at hy
        rcases hy with rfl | rfl | rfl
        ·exact ⟨by simp, by (first | exact hne_y_x | exact Ne.symm hne_x_y)⟩
        ·exact ⟨by simp, by (first | exact hne_y_a | exact Ne.symm hne_a_y)⟩
        ·exact ⟨by simp, by (first | exact hne_y_b | exact Ne.symm hne_b_y)⟩
       obtain ⟨v5ypp, hvv5ypp, HN⟩ := (HW.out.subx (bx' := [⟨bo_x, Ra, Ca, A5, n1, d5⟩, ⟨w.heap.size, Ra, Ca, A, n1, c1⟩, ⟨w.heap.size + 1, Rb, Cb, B, n2, c2⟩, ⟨bo_y, 0, 0, none, 0, 0⟩]) (by simp)).put (b := bo_y) (R0 := 0) (C0 := 0) (A0 := none) (n0 := 0) (c0 := 0) (by simp) hle_y [⟨bo_x, Ra, Ca, A5, n1, d5⟩, ⟨w.heap.size, Ra, Ca, A, n1, c1⟩, ⟨w.heap.size + 1, Rb, Cb, B, n2, c2⟩] hoth Rb Cb A6 n2 d6
       clear hoth
       have HW := Lib.hid HN
       clear HN
       go_simp
       clear f0 f1 f2 y0 y1 y2 hvv5ypp
       have hS7 : S v5ypp := hSi _ (HW.out.bx ⟨w.heap.size, Ra, Ca, A, n1, c1⟩ (by simp)) (HW.out.bx ⟨w.heap.size + 1, Rb, Cb, B, n2, c2⟩ (by simp))
       refine ⟨hS7, ?_⟩
       refine wpAnyH_done (by kernel_rfl) ?_ _
       exact ⟨rfl, bo_x, bo_y, A5, d5, A6, d6, rfl, hd5, hd6, HW.out.subx (by simp)⟩
      ·skip
       obtain ⟨bo_y, hbo⟩ : ∃ b, v4.heap.size = b := ⟨_, rfl⟩
       have hfr := HW.out.fresh
       rw [hbo] at hfr
       have hne_y_a : w.heap.size ≠ bo_y := hfr ⟨w.heap.size, Ra, Ca, A, n1, c1⟩ (by simp)
       have hne_y_b : w.heap.size + 1 ≠ bo_y := hfr ⟨w.heap.size + 1, Rb, Cb, B, n2, c2⟩ (by simp)
       have hne_y_x : bo_x ≠ bo_y := hfr ⟨bo_x, 0, 0, none, 0, 0⟩ (by simp)
       clear hfr
       have hle_y : w.heap.size ≤ bo_y := by rw [← hbo]; exact HW.out.bel.size
       obtain ⟨v4y, hvv4y, -, HN⟩ := HW.out.var 0 0 none 0 0
       rw [hbo] at HN
       have hbx0 := HN.bx _ (List.mem_cons_self ..)
       have HW := Lib.hid HN
       clear HN
       go_simp
       clear hbx0 hbo hvv4y
       have hS4 : S v4y := hSi _ (HW.out.bx ⟨w.heap.size, Ra, Ca, A, n1, c1⟩ (by simp)) (HW.out.bx ⟨w.heap.size + 1, Rb, Cb, B, n2, c2⟩ (by simp))
       refine ⟨hS4, ?_⟩
       refine wpAnyH_one (i := 3) (by kernel_rfl) rfl (by kernel_rfl) ?_
       go_simp
       refine (copiedW HW.out Rb Cb B t n2 c2 (by simp) HL2.out).mono ?_
       rintro e v5 ⟨A6, d6, rfl, hd6, HN⟩
       have HW := Lib.hid HN
       clear HN
       have hS5 : S v5 := hSi _ (HW.out.bx ⟨w.heap.size, Ra, Ca, A, n1, c1⟩ (by simp)) (HW.out.bx ⟨w.heap.size + 1, Rb, Cb, B, n2, c2⟩ (by simp))
       show S v5 ∧ _
       refine ⟨hS5, ?_⟩
       refine wpAnyH_one (i := 6) (by kernel_rfl) rfl (by kernel_rfl) ?_
       have f0 := (HW.out.bx ⟨bo_x, 0, 0, none, 0, 0⟩ (by simp)).frozen 0
       have f1 := (HW.out.bx ⟨bo_x, 0, 0, none, 0, 0⟩ (by simp)).frozen 1
       have f2 := (HW.out.bx ⟨bo_x, 0, 0, none, 0, 0⟩ (by simp)).frozen 2
       obtain ⟨y0, y1, y2⟩ := HW.out.at_ (b := bo_x) (R := 0) (C := 0) (A := none) (n := 0) (c := 0) (by simp)
       have hoth : ∀ y ∈ ([⟨w.heap.size, Ra, Ca, A, n1, c1⟩, ⟨w.heap.size + 1, Rb, Cb, B, n2, c2⟩, ⟨bo_y, 0, 0, none, 0, 0⟩] : List Bx), y ∈ ([⟨w.heap.size, Ra, Ca, A, n1, c1⟩, ⟨w.heap.size + 1, Rb, Cb, B, n2, c2⟩, ⟨bo_x, 0, 0, none, 0, 0⟩, ⟨bo_y, 0, 0, none, 0, 0⟩] : List Bx) ∧ y.b ≠ bo_x := by
        intro y hy
        simp only [List.mem_cons, List.not_mem_nil, or_false] at hy
        rcases hy with rfl | rfl | rfl
        ·exact ⟨by simp, by (first | exact hne_x_a | exact Ne.symm hne_a_x)⟩
        ·exact ⟨by simp, by (first | exact hne_x_b | exact Ne.symm hne_b_x)⟩
        ·exact ⟨by simp, by (first | exact hne_x_y | exact Ne.symm hne_y_x)⟩
       obtain ⟨v5p, hvv5p, HN⟩ := (HW.out.subx (bx' := [⟨w.heap.size, Ra, Ca, A, n1, c1⟩, ⟨w.heap.size + 1, Rb, Cb, B, n2, c2⟩, ⟨bo_x, 0, 0, none, 0, 0⟩, ⟨bo_y, 0, 0, none, 0, 0⟩]) (by simp)).put (b := bo_x) (R0 := 0) (C0 := 0) (A0 := none) (n0 := 0) (c0 := 0) (by simp) hle_x [⟨w.heap.size, Ra, Ca, A, n1, c1⟩, ⟨w.heap.size + 1, Rb, Cb, B, n2, c2⟩, ⟨bo_y, 0, 0, none, 0, 0⟩] hoth Ra Ca A5 n1 d5
       clear hoth
       have HW := Lib.hid HN
       clear HN
       go_simp
       clear f0 f1 f2 y0 y1 y2 hvv5p
       have hS6 : S v5p := hSi _ (HW.out.bx ⟨w.heap.size, Ra, Ca, A, n1, c1⟩ (by simp)) (HW.out.bx ⟨w.heap.size + 1, Rb, Cb, B, n2, c2⟩ (by simp))
       refine ⟨hS6, ?_⟩
       refine wpAnyH_one (i := 7) (by kernel_rfl) rfl (by kernel_rfl) ?_
       have f0 := (HW.out.bx ⟨bo_y, 0, 0, none, 0, 0⟩ (by simp)).frozen 0
       have f1 := (HW.out.bx ⟨bo_y, 0, 0, none, 0, 0⟩ (by simp)).frozen 1
       have f2 := (HW.out.bx ⟨bo_y, 0, 0, none, 0, 0⟩ (by simp)).frozen 2
       obtain ⟨y0, y1, y2⟩ := HW.out.at_ (b := bo_y) (R := 0) (C := 0) (A := none) (n := 0) (c := 0) (by simp)
       have hoth : ∀ y ∈ ([⟨bo_x, Ra, Ca, A5, n1, d5⟩, ⟨w.heap.size, Ra, Ca, A, n1, c1⟩, ⟨w.heap.size + 1, Rb, Cb, B, n2, c2⟩] : List Bx), y ∈ ([⟨bo_x, Ra, Ca, A5, n1, d5⟩, ⟨w.heap.size, Ra, Ca, A, n1, c1⟩, ⟨w.heap.size + 1, Rb, Cb, B, n2, c2⟩, ⟨bo_y, 0, 0, none, 0, 0⟩] : List Bx) ∧ y.b ≠ bo_y := by
        intro y hy
        simp only [List.mem_cons, List.not_mem_nil, or_false] at hy
        rcases hy with rfl | rfl | rfl
        ·exact ⟨by simp, by (first | exact hne_y_x | exact Ne.symm hne_x_y)⟩
        ·exact ⟨by simp, by (first | exact hne_y_a | exact Ne.symm hne_a_y)⟩
        ·exact ⟨by simp, by (first | exact hne_y_b | exact Ne.symm hne_b_y)⟩
       obtain ⟨v5pp, hvv5pp, HN⟩ := (HW.out.subx (bx' := [⟨bo_x, Ra, Ca, A5, n1, d5⟩, ⟨w.heap.size, Ra, Ca, A, n1, c1⟩, ⟨w.heap.size + 1, Rb, Cb, B, n2, c2⟩, ⟨bo_y, 0, 0, none, 0, 0⟩]) (by simp)).put (b := bo_y) (R0 := 0) (C0 := 0) (A0 := none) (n0 := 0) (c0 := 0) (by simp) hle_y [⟨bo_x, Ra, Ca, A5, n1, d5⟩, ⟨w.heap.size, Ra, Ca, A, n1, c1⟩, ⟨w.heap.size + 1, Rb, Cb, B, n2, c2⟩] hoth Rb Cb A6 n2 d6
       clear hoth
       have HW := Lib.hid HN
       clear HN
       go_simp
       clear f0 f1 f2 y0 y1 y2 hvv5pp
       have hS7 : S v5pp := hSi _ (HW.out.bx ⟨w.heap.size, Ra, Ca, A, n1, c1⟩ (by simp)) (HW.out.bx ⟨w.heap.size + 1, Rb, Cb, B, n2, c2⟩ (by simp))
       refine ⟨hS7, ?_⟩
       refine wpAnyH_done (by kernel_rfl) ?_ _
       exact ⟨rfl, bo_x, bo_y, A5, d5, A6, d6, rfl, hd5, hd6, HW.out.subx (by simp)⟩
     ·skip
      obtain ⟨bo_y, hbo⟩ : ∃ b, v3dy.heap.size = b := ⟨_, rfl⟩
      have hfr := HW.out.fresh
      rw [hbo] at hfr
      have hne_y_a : w.heap.size ≠ bo_y := hfr ⟨w.heap.size, Ra, Ca, A, n1, c1⟩ (by simp)
      have hne_y_b : w.heap.size + 1 ≠ bo_y := hfr ⟨w.heap.size + 1, Rb, Cb, B, n2, c2⟩ (by simp)
      have hne_y_x : bo_x ≠ bo_y := hfr ⟨bo_x, 0, 0, none, 0, 0⟩ (by simp)
      clear hfr
      have hle_y : w.heap.size ≤ bo_y := by rw [← hbo]; exact HW.out.bel.size
      obtain ⟨v3dyy, hvv3dyy, -, HN⟩ := HW.out.var 0 0 none 0 0
      rw [hbo] at HN
      have hbx0 := HN.bx _ (List.mem_cons_self ..)
      have HW := Lib.hid HN
      clear HN
      go_simp
      clear hbx0 hbo hvv3dyy
      have hS3 : S v3dyy := hSi _ (HW.out.bx ⟨w.heap.size, Ra, Ca, A, n1, c1⟩ (by simp)) (HW.out.bx ⟨w.heap.size + 1, Rb, Cb, B, n2, c2⟩ (by simp))
      refine ⟨hS3, ?_⟩
      refine wpAnyH_one (i := 1) (by kernel_rfl) rfl (by kernel_rfl) ?_
      go_simp
      refine (copiedW HW.out Ra Ca A s n1 c1 (by simp) HL1.out).mono ?_
      rintro e v4 ⟨A5, d5, rfl, hd5, HN⟩
      have HW := Lib.hid HN
      clear HN
      have hS4 : S v4 := hSi _ (HW.out.bx ⟨w.heap.size, Ra, Ca, A, n1, c1⟩ (by simp)) (HW.out.bx ⟨w.heap.size + 1, Rb, Cb, B, n2, c2⟩ (by simp))
      show S v4 ∧ _
      refine ⟨hS4, ?_⟩
      refine wpAnyH_one (i := 3) (by kernel_rfl) rfl (by kernel_rfl) ?_
      go_simp
      refine (copiedW HW.out Rb Cb B t n2 c2 (by simp) HL2.out).mono ?_
      rintro e v5 ⟨A6, d6, rfl, hd6, HN⟩
      have HW := Lib.hid HN
      clear HN
      have hS5 : S v5 := hSi _ (HW.out.bx ⟨w.heap.size, Ra, Ca, A, n1, c1⟩ (by simp)) (HW.out.bx ⟨w.heap.size + 1, Rb, Cb, B, n2, c2⟩ (by simp))
      show S v5 ∧ _
      refine ⟨hS5, ?_⟩
      refine wpAnyH_one (i := 6) (by kernel_rfl) rfl (by kernel_rfl) ?_
      have f0 := (HW.out.bx ⟨bo_x, 0, 0, none, 0, 0⟩ (by simp)).frozen 0
      have f1 := (HW.out.bx ⟨bo_x, 0, 0, none, 0, 0⟩ (by simp)).frozen 1
      have f2 := (HW.out.bx ⟨bo_x, 0, 0, none, 0, 0⟩ (by simp)).frozen 2
      obtain ⟨y0, y1, y2⟩ := HW.out.at_ (b := bo_x) (R := 0) (C := 0) (A := none) (n := 0) (c := 0) (by simp)
      have hoth : ∀ y ∈ ([⟨w.heap.size, Ra, Ca, A, n1, c1⟩, ⟨w.heap.size + 1, Rb, Cb, B, n2, c2⟩, ⟨bo_y, 0, 0, none, 0, 0⟩] : List Bx), y ∈ ([⟨w.heap.size, Ra, Ca, A, n1, c1⟩, ⟨w.heap.size + 1, Rb, Cb, B, n2, c2⟩, ⟨bo_x, 0, 0, none, 0, 0⟩, ⟨bo_y, 0, 0, none, 0, 0⟩] : List Bx) ∧ y.b ≠ bo_x := by
       intro y hy
       simp only [List.mem_cons, List.not_mem_nil, or_false] at hy
       rcases hy with rfl | rfl | rfl
       ·exact ⟨by simp, by (first | exact hne_x_a | exact Ne.symm hne_a_x)⟩
       ·exact ⟨by simp, by (first | exact hne_x_b | exact Ne.symm hne_b_x)⟩
       ·exact ⟨by simp, by (first | exact hne_x_y | exact Ne.symm hne_y_x)⟩
      obtain ⟨v5p, hvv5p, HN⟩ := (HW.out.subx (bx' := [⟨w.heap.size, Ra, Ca, A, n1, c1⟩, ⟨w.heap.size + 1, Rb, Cb, B, n2, c2⟩, ⟨bo_x, 0, 0, none, 0, 0⟩, ⟨bo_y, 0, 0, none, 0, 0⟩]) (by simp)).put (b := bo_x) (R0 := 0) (C0 := 0) (A0 := none) (n0 := 0) (c0 := 0) (by simp) hle_x [⟨w.heap.size, Ra, Ca, A, n1, c1⟩, ⟨w.heap.size + 1, Rb, Cb, B, n2, c2⟩, ⟨bo_y, 0, 0, none, 0, 0⟩] hoth Ra Ca A5 n1 d5
      clear hoth
      have HW := Lib.hid HN
      clear HN
      go_simp
      clear f0 f1 f2 y0 y1 y2 hvv5p
      have hS6 : S v5p := hSi _ (HW.out.bx ⟨w.heap.size, Ra, Ca, A, n1, c1⟩ (by simp)) (HW.out.bx ⟨w.heap.size + 1, Rb, Cb, B, n2, c2⟩ (by simp))
      refine ⟨hS6, ?_⟩
      refine wpAnyH_one (i := 7) (by kernel_rfl) rfl (by kernel_rfl) ?_
      have f0 := (HW.out.bx ⟨bo_y, 0, 0, none, 0, 0⟩ (by simp)).frozen 0
      have f1 := (HW.out.bx ⟨bo_y, 0, 0, none, 0, 0⟩ (by simp)).frozen 1
      have f2 := (HW.out.bx ⟨bo_y, 0, 0, none, 0, 0⟩ (by simp)).frozen 2
      obtain ⟨y0, y1, y2⟩ := HW.out.at_ (b := bo_y) (R := 0) (C := 0) (A := none) (n := 0) (c := 0) (by simp)
      have hoth : ∀ y ∈ ([⟨bo_x, Ra, Ca, A5, n1, d5⟩, ⟨w.heap.size, Ra, Ca, A, n1, c1⟩, ⟨w.heap.size + 1, Rb, Cb, B, n2, c2⟩] : List Bx), y ∈ ([⟨bo_x, Ra, Ca, A5, n1, d5⟩, ⟨w.heap.size, Ra, Ca, A, n1, c1⟩, ⟨w.heap.size + 1, Rb, Cb, B, n2, c2⟩, ⟨bo_y, 0, 0, none, 0, 0⟩] : List Bx) ∧ y.b ≠ bo_y := by
       intro y hy
       simp only [List.mem_cons, List.not_mem_nil, or_false] at hy
       rcases hy with rfl | rfl | rfl
       ·exact ⟨by simp, by (first | exact hne_y_x | exact Ne.symm hne_x_y)⟩
       ·exact ⟨by simp, by (first | exact hne_y_a | exact Ne.symm hne_a_y)⟩
       ·exact ⟨by simp, by (first | exact hne_y_b | exact Ne.symm hne_b_y)⟩
      obtain ⟨v5pp, hvv5pp, HN⟩ := (HW.out.subx (bx' := [⟨bo_x, Ra, Ca, A5, n1, d5⟩, ⟨w.heap.size, Ra, Ca, A, n1, c1⟩, ⟨w.heap.size + 1, Rb, Cb, B, n2, c2⟩, ⟨bo_y, 0, 0, none, 0, 0⟩]) (by simp)).put (b := bo_y) (R0 := 0) (C0 := 0) (A0 := none) (n0 := 0) (c0 := 0) (by simp) hle_y [⟨bo_x, Ra, Ca, A5, n1, d5⟩, ⟨w.heap.size, Ra, Ca, A, n1, c1⟩, ⟨w.heap.size + 1, Rb, Cb, B, n2, c2⟩] hoth Rb Cb A6 n2 d6
      clear hoth
      have HW := Lib.hid HN
      clear HN
      go_simp
      clear f0 f1 f2 y0 y1 y2 hvv5pp
      have hS7 : S v5pp := hSi _ (HW.out.bx ⟨w.heap.size, Ra, Ca, A, n1, c1⟩ (by simp)) (HW.out.bx ⟨w.heap.size + 1, Rb, Cb, B, n2, c2⟩ (by simp))
      refine ⟨hS7, ?_⟩
      refine wpAnyH_done (by kernel_rfl) ?_ _
      exact ⟨rfl, bo_x, bo_y, A5, d5, A6, d6, rfl, hd5, hd6, HW.out.subx (by simp)⟩
    ·skip
     obtain ⟨bo_y, hbo⟩ : ∃ b, v3.drew.heap.size = b := ⟨_, rfl⟩
     have hfr := HW.out.fresh
     rw [hbo] at hfr
     have hne_y_a : w.heap.size ≠ bo_y := hfr ⟨w.heap.size, Ra, Ca, A, n1, c1⟩ (by simp)
     have hne_y_b : w.heap.size + 1 ≠ bo_y := hfr ⟨w.heap.size + 1, Rb, Cb, B, n2, c2⟩ (by simp)
     clear hfr
     have hle_y : w.heap.size ≤ bo_y := by rw [← hbo]; exact HW.out.bel.size
     obtain ⟨v3dy, hvv3dy, -, HN⟩ := HW.out.var 0 0 none 0 0
     rw [hbo] at HN
     have hbx0 := HN.bx _ (List.mem_cons_self ..)
     have HW := Lib.hid HN
     clear HN
     go_simp
     clear hbx0 hbo hvv3dy
     have hS2 : S v3dy := hSi _ (HW.out.bx ⟨w.heap.size, Ra, Ca, A, n1, c1⟩ (by simp)) (HW.out.bx ⟨w.heap.size + 1, Rb, Cb, B, n2, c2⟩ (by simp))
     refine ⟨hS2, ?_⟩
     refine wpAnyH_two (i := 1) (j := 4) (by kernel_rfl) rfl rfl (by kernel_rfl) (by kernel_rfl) ?_ ?_
     ·skip
      go_simp
      refine (copiedW HW.out Ra Ca A s n1 c1 (by simp) HL1.out).mono ?_
      rintro e v4 ⟨A5, d5, rfl, hd5, HN⟩
      have HW := Lib.hid HN
      clear HN
      have hS3 : S v4 := hSi _ (HW.out.bx ⟨w.heap.size, Ra, Ca, A, n1, c1⟩ (by simp)) (HW.out.bx ⟨w.heap.size + 1, Rb, Cb, B, n2, c2⟩ (by simp))
      show S v4 ∧ _
      refine ⟨hS3, ?_⟩
      refine wpAnyH_two (i := 3) (j := 4) (by kernel_rfl) rfl rfl (by kernel_rfl) (by kernel_rfl) ?_ ?_
      ·skip
       go_simp
       refine (copiedW HW.out Rb Cb B t n2 c2 (by simp) HL2.out).mono ?_
       rintro e v5 ⟨A6, d6, rfl, hd6, HN⟩
       have HW := Lib.hid HN
       clear HN
       have hS4 : S v5 := hSi _ (HW.out.bx ⟨w.heap.size, Ra, Ca, A, n1, c1⟩ (by simp)) (HW.out.bx ⟨w.heap.size + 1, Rb, Cb, B, n2, c2⟩ (by simp))
       show S v5 ∧ _
       refine ⟨hS4, ?_⟩
       refine wpAnyH_one (i := 4) (by kernel_rfl) rfl (by kernel_rfl) ?_
       obtain ⟨bo_x, hbo⟩ : ∃ b, v5.heap.size = b := ⟨_, rfl⟩
       have hfr := HW.out.fresh
       rw [hbo] at hfr
       have hne_x_a : w.heap.size ≠ bo_x := hfr ⟨w.heap.size, Ra, Ca, A, n1, c1⟩ (by simp)
       have hne_x_b : w.heap.size + 1 ≠ bo_x := hfr ⟨w.heap.size + 1, Rb, Cb, B, n2, c2⟩ (by simp)
       have hne_x_y : bo_y ≠ bo_x := hfr ⟨bo_y, 0, 0, none, 0, 0⟩ (by simp)
       clear hfr
       have hle_x : w.heap.size ≤ bo_x := by rw [← hbo]; exact HW.out.bel.size
       obtain ⟨v5y, hvv5y, -, HN⟩ := HW.out.var 0 0 none 0 0
       rw [hbo] at HN
       have hbx0 := HN.bx _ (List.mem_cons_self ..)
       have HW := Lib.hid HN
       clear HN
       go_simp
       clear hbx0 hbo hvv5y
       have hS5 : S v5y := hSi _ (HW.out.bx ⟨w.heap.size, Ra, Ca, A, n1, c1⟩ (by simp)) (HW.out.bx ⟨w.heap.size + 1, Rb, Cb, B, n2, c2⟩ (by simp))
       refine ⟨hS5, ?_⟩
       refine wpAnyH_one (i := 6) (by kernel_rfl) rfl (by kernel_rfl) ?_
       have f0 := (HW.out.bx ⟨bo_x, 0, 0, none, 0, 0⟩ (by simp)).frozen 0
       have f1 := (HW.out.bx ⟨bo_x, 0, 0, none, 0, 0⟩ (by simp)).frozen 1
       have f2 := (HW.out.bx ⟨bo_x, 0, 0, none, 0, 0⟩ (by simp)).frozen 2
       obtain ⟨y0, y1, y2⟩ := HW.out.at_ (b := bo_x) (R := 0) (C := 0) (A := none) (n := 0) (c := 0) (by simp)
       have hoth : ∀ y ∈ ([⟨w.heap.size, Ra, Ca, A, n1, c1⟩, ⟨w.heap.size + 1, Rb, Cb, B, n2, c2⟩, ⟨bo_y, 0, 0, none, 0, 0⟩] : List Bx), y ∈ ([⟨w.heap.size, Ra, Ca, A, n1, c1⟩, ⟨w.heap.size + 1, Rb, Cb, B, n2, c2⟩, ⟨bo_y, 0, 0, none, 0, 0⟩, ⟨bo_x, 0, 0, none, 0, 0⟩] : List Bx) ∧ y.b ≠ bo_x := by
        intro y hy
        simp only [List.mem_cons, List.not_mem_nil, or_false] at hy
        rcases hy with rfl | rfl | rfl
        ·exact ⟨by simp, by (first | exact hne_x_a | exact Ne.symm hne_a_x)⟩
        ·exact ⟨by simp, by (first | exact hne_x_b | exact Ne.symm hne_b_x)⟩
        ·exact ⟨by simp, by (first | exact hne_x_y | exact Ne.symm hne_y_x)⟩
       obtain ⟨v5yp, hvv5yp, HN⟩ := (HW.out.subx (bx' := [⟨w.heap.size, Ra, Ca, A, n1, c1⟩, ⟨w.heap.size + 1, Rb, Cb, B, n2, c2⟩, ⟨bo_y, 0, 0, none, 0, 0⟩, ⟨bo_x, 0, 0, none, 0, 0⟩]) (by simp)).put (b := bo_x) (R0 := 0) (C0 := 0) (A0 := none) (n0 := 0) (c0 := 0) (by simp) hle_x [⟨w.heap.size, Ra, Ca, A, n1, c1⟩, ⟨w.heap.size + 1, Rb, Cb, B, n2, c2⟩, ⟨bo_y, 0, 0, none, 0, 0⟩] hoth Ra Ca A5 n1 d5
       clear hoth
       have HW := Lib.hid HN
       clear HN
       go_simp
       clear f0 f1 f2 y0 y1 y2 hvv5yp
       have hS6 : S v5yp := hSi _ (HW.out.bx ⟨w.heap.size, Ra, Ca, A, n1, c1⟩ (by simp)) (HW.out.bx ⟨w.heap.size + 1, Rb, Cb, B, n2, c2⟩ (by simp))
       refine ⟨hS6, ?_⟩
       refine wpAnyH_one (i := 7) (by kernel_rfl) rfl (by kernel_rfl) ?_
       have f0 := (HW.out.bx ⟨bo_y, 0, 0, none, 0, 0⟩ (by simp)).frozen 0
       have f1 := (HW.out.bx ⟨bo_y, 0, 0, none, 0, 0⟩ (by simp)).frozen 1
       have f2 := (HW.out.bx ⟨bo_y, 0, 0, none, 0, 0⟩ (by simp)).frozen 2
       obtain ⟨y0, y1, y2⟩ := HW.out.at_ (b := bo_y) (R := 0) (C := 0) (A := none) (n := 0) (c := 0) (by simp)
       have hoth : ∀ y ∈ ([⟨bo_x, Ra, Ca, A5, n1, d5⟩, ⟨w.heap.size, Ra, Ca, A, n1, c1⟩, ⟨w.heap.size + 1, Rb, Cb, B, n2, c2⟩] : List Bx), y ∈ ([⟨bo_x, Ra, Ca, A5, n1, d5⟩, ⟨w.heap.size, Ra, Ca, A, n1, c1⟩, ⟨w.heap.size + 1, Rb, Cb, B, n2, c2⟩, ⟨bo_y, 0, 0, none, 0, 0⟩] : List Bx) ∧ y.b ≠ bo_y := by
        intro y hy
        simp only [List.mem_cons, List.not_mem_nil, or_false] at hy
        rcases hy with rfl | rfl | rfl
        ·exact ⟨by simp, by (first | exact hne_y_x | exact Ne.symm hne_x_y)⟩
        ·exact ⟨by simp, by (first | exact hne_y_a | exact Ne.symm hne_a_y)⟩
        ·exact ⟨by simp, by (first | exact hne_y_b | exact Ne.symm hne_b_y)⟩
       obtain ⟨v5ypp, hvv5ypp, HN⟩ := (HW.out.subx (bx' := [⟨bo_x, Ra, Ca, A5, n1, d5⟩, ⟨w.heap.size, Ra, Ca, A, n1, c1⟩, ⟨w.heap.size + 1, Rb, Cb, B, n2, c2⟩, ⟨bo_y, 0, 0, none, 0, 0⟩]) (by simp)).put (b := bo_y) (R0 := 0) (C0 := 0) (A0 := none) (n0 := 0) (c0 := 0) (by simp) hle_y [⟨bo_x, Ra, Ca, A5, n1, d5⟩, ⟨w.heap.size, Ra, Ca, A, n1, c1⟩, ⟨w.heap.size + 1, Rb, Cb, B, n2, c2⟩] hoth Rb Cb A6 n2 d6
       clear hoth
       have HW := Lib.hid HN
       clear HN
       go_simp
       clear f0 f1 f2 y0 y1 y2 hvv5ypp
       have hS7 : S v5ypp := hSi _ (HW.out.bx ⟨w.heap.size, Ra, Ca, A, n1, c1⟩ (by simp)) (HW.out.bx ⟨w.heap.size + 1, Rb, Cb, B, n2, c2⟩ (by simp))
       refine ⟨hS7, ?_⟩
       refine wpAnyH_done (by kernel_rfl) ?_ _
       exact ⟨rfl, bo_x, bo_y, A5, d5, A6, d6, rfl, hd5, hd6, HW.out.subx (by simp)⟩
      ·skip
       obtain ⟨bo_x, hbo⟩ : ∃ b, v4.heap.size = b := ⟨_, rfl⟩
       have hfr := HW.out.fresh
       rw [hbo] at hfr
       have hne_x_a : w.heap.size ≠ bo_x := hfr ⟨w.heap.size, Ra, Ca, A, n1, c1⟩ (by simp)
       have hne_x_b : w.heap.size + 1 ≠ bo_x := hfr ⟨w.heap.size + 1, Rb, Cb, B, n2, c2⟩ (by simp)
       have hne_x_y : bo_y ≠ bo_x := hfr ⟨bo_y, 0, 0, none, 0, 0⟩ (by simp)
       clear hfr
       have hle_x : w.heap.size ≤ bo_x := by rw [← hbo]; exact HW.out.bel.size
       obtain ⟨v4y, hvv4y, -, HN⟩ := HW.out.var 0 0 none 0 0
       rw [hbo] at HN
       have hbx0 := HN.bx _ (List.mem_cons_self ..)
       have HW := Lib.hid HN
       clear HN
       go_simp
       clear hbx0 hbo hvv4y
       have hS4 : S v4y := hSi _ (HW.out.bx ⟨w.heap.size, Ra, Ca, A, n1, c1⟩ (by simp)) (HW.out.bx ⟨w.heap.size + 1, Rb, Cb, B, n2, c2⟩ (by simp))
       refine ⟨hS4, ?_⟩
       refine wpAnyH_one (i := 3) (by kernel_rfl) rfl (by kernel_rfl) ?_
       go_simp
       refine (copiedW HW.out Rb Cb B t n2 c2 (by simp) HL2.out).mono ?_
       rintro e v5 ⟨A6, d6, rfl, hd6, HN⟩
       have HW := Lib.hid HN
       clear HN
       have hS5 : S v5 := hSi _ (HW.out.bx ⟨w.heap.size, Ra, Ca, A, n1, c1⟩ (by simp)) (HW.out.bx ⟨w.heap.size + 1, Rb, Cb, B, n2, c2⟩ (by simp))
       show S v5 ∧ _
       refine ⟨hS5, ?_⟩
       refine wpAnyH_one (i := 6) (by kernel_rfl) rfl (by kernel_rfl) ?_
       have f0 := (HW.out.bx ⟨bo_x, 0, 0, none, 0, 0⟩ (by simp)).frozen 0
       have f1 := (HW.out.bx ⟨bo_x, 0, 0, none, 0, 0⟩ (by simp)).frozen 1
       have f2 := (HW.out.bx ⟨bo_x, 0, 0, none, 0, 0⟩ (by simp)).frozen 2
       obtain ⟨y0, y1, y2⟩ := HW.out.at_ (b := bo_x) (R := 0) (C := 0) (A := none) (n := 0) (c := 0) (by simp)
       have hoth : ∀ y ∈ ([⟨w.heap.size, Ra, Ca, A, n1, c1⟩, ⟨w.heap.size + 1, Rb, Cb, B, n2, c2⟩, ⟨bo_y, 0, 0, none, 0, 0⟩] : List Bx), y ∈ ([⟨w.heap.size, Ra, Ca, A, n1, c1⟩, ⟨w.heap.size + 1, Rb, Cb, B, n2, c2⟩, ⟨bo_y, 0, 0, none, 0, 0⟩, ⟨bo_x, 0, 0, none, 0, 0⟩] : List Bx) ∧ y.b ≠ bo_x := by
        intro y hy
        simp only [List.mem_cons, List.not_mem_nil, or_false] at hy
        rcases hy with rfl | rfl | rfl
        ·exact ⟨by simp, by (first | exact hne_x_a | exact Ne.symm hne_a_x)⟩
        ·exact ⟨by simp, by (first | exact hne_x_b | exact Ne.symm hne_b_x)⟩
        ·exact ⟨by simp, by (first | exact hne_x_y | exact Ne.symm hne_y_x)⟩
       obtain ⟨v5p, hvv5p, HN⟩ := (HW.out.subx (bx' := [⟨w.heap.size, Ra, Ca, A, n1, c1⟩, ⟨w.heap.size + 1, Rb, Cb, B, n2, c2⟩, ⟨bo_y, 0, 0, none, 0, 0⟩, ⟨bo_x, 0, 0, none, 0, 0⟩]) (by simp)).put (b := bo_x) (R0 := 0) (C0 := 0) (A0 := none) (n0 := 0) (c0 := 0) (by simp) hle_x [⟨w.heap.size, Ra, Ca, A, n1, c1⟩, ⟨w.heap.size + 1, Rb, Cb, B, n2, c2⟩, ⟨bo_y, 0, 0, none, 0, 0⟩] hoth Ra Ca A5 n1 d5
       clear hoth
       have HW := Lib.hid HN
       clear HN
       go_simp
       clear f0 f1 f2 y0 y1 y2 hvv5p
       have hS6 : S v5p := hSi _ (HW.out.bx ⟨w.heap.size, Ra, Ca, A, n1, c1⟩ (by simp)) (HW.out.bx ⟨w.heap.size + 1, Rb, Cb, B, n2, c2⟩ (by simp))
       refine ⟨hS6, ?_⟩
       refine wpAnyH_one (i := 7) (by kernel_rfl) rfl (by kernel_rfl) ?_
       have f0 := (HW.out.bx ⟨bo_y, 0, 0, none, 0, 0⟩ (by simp)).frozen 0
       have f1 := (HW.out.bx ⟨bo_y, 0, 0, none, 0, 0⟩ (by simp)).frozen 1
       have f2 := (HW.out.bx ⟨bo_y, 0, 0, none, 0, 0⟩ (by simp)).frozen 2
       obtain ⟨y0, y1, y2⟩ := HW.out.at_ (b := bo_y) (R := 0) (C := 0) (A := none) (n := 0) (c := 0) (by simp)
       have hoth : ∀ y ∈ ([⟨bo_x, Ra, Ca, A5, n1, d5⟩, ⟨w.heap.size, Ra, Ca, A, n1, c1⟩, ⟨w.heap.size + 1, Rb, Cb, B, n2, c2⟩] : List Bx), y ∈ ([⟨bo_x, Ra, Ca, A5, n1, d5⟩, ⟨w.heap.size, Ra, Ca, A, n1, c1⟩, ⟨w.heap.size + 1, Rb, Cb, B, n2, c2⟩, ⟨bo_y, 0, 0, none, 0, 0⟩] : List Bx) ∧ y.b ≠ bo_y := by
        intro y hy
        simp only [List.mem_cons, List.not_mem_nil, or_false] at hy
        rcases hy with rfl | rfl | rfl
        ·exact ⟨by simp, by (first | exact hne_y_x | exact Ne.symm hne_x_y)⟩
        ·exact ⟨by simp, by (first | exact hne_y_a | exact Ne.symm hne_a_y)⟩
        ·exact ⟨by simp, by (first | exact hne_y_b | exact Ne.symm hne_b_y)⟩
       obtain ⟨v5pp, hvv5pp, HN⟩ := (HW.out.subx (bx' := [⟨bo_x, Ra, Ca, A5, n1, d5⟩, ⟨w.heap.size, Ra, Ca, A, n1, c1⟩, ⟨w.heap.size + 1, Rb, Cb, B, n2, c2⟩, ⟨bo_y, 0, 0, none, 0, 0⟩]) (by simp)).put (b := bo_y) (R0 := 0) (C0 := 0) (A0 := none) (n0 := 0) (c0 := 0) (by simp) hle_y [⟨bo_x, Ra, Ca, A5, n1, d5⟩, ⟨w.heap.size, Ra, Ca, A, n1, c1⟩, ⟨w.heap.size + 1, Rb, Cb, B, n2, c2⟩] hoth Rb Cb A6 n2 d6
       clear hoth
       have HW := Lib.hid HN
       clear HN
       go_simp
       clear f0 f1 f2 y0 y1 y2 hvv5pp
       have hS7 : S v5pp := hSi _ (HW.out.bx ⟨w.heap.size, Ra, Ca, A, n1, c1⟩ (by simp)) (HW.out.bx ⟨w.heap.size + 1, Rb, Cb, B, n2, c2⟩ (by simp))
       refine ⟨hS7, ?_⟩
       refine wpAnyH_done (by kernel_rfl) ?_ _
       exact ⟨rfl, bo_x, bo_y, A5, d5, A6, d6, rfl, hd5, hd6, HW.out.subx (by simp)⟩
     ·skip
      obtain ⟨bo_x, hbo⟩ : ∃ b, v3dy.heap.size = b := ⟨_, rfl⟩
      have hfr := HW.out.fresh
      rw [hbo] at hfr
      have hne_x_a : w.heap.size ≠ bo_x := hfr ⟨w.heap.size, Ra, Ca, A, n1, c1⟩ (by simp)
      have hne_x_b : w.heap.size + 1 ≠ bo_x := hfr ⟨w.heap.size + 1, Rb, Cb, B, n2, c2⟩ (by simp)
      have hne_x_y : bo_y ≠ bo_x := hfr ⟨bo_y, 0, 0, none, 0, 0⟩ (by simp)
      clear hfr
      have hle_x : w.heap.size ≤ bo_x := by rw [← hbo]; exact HW.out.bel.size
      obtain ⟨v3dyy, hvv3dyy, -, HN⟩ := HW.out.var 0 0 none 0 0
      rw [hbo] at HN
      have hbx0 := HN.bx _ (List.mem_cons_self ..)
      have HW := Lib.hid HN
      clear HN
      go_simp
      clear hbx0 hbo hvv3dyy
      have hS3 : S v3dyy := hSi _ (HW.out.bx ⟨w.heap.size, Ra, Ca, A, n1, c1⟩ (by simp)) (HW.out.bx ⟨w.heap.size + 1, Rb, Cb, B, n2, c2⟩ (by simp))
      refine ⟨hS3, ?_⟩
      refine wpAnyH_one (i := 1) (by kernel_rfl) rfl (by kernel_rfl) ?_
      go_simp
      refine (copiedW HW.out Ra Ca A s n1 c1 (by simp) HL1.out).mono ?_
      rintro e v4 ⟨A5, d5, rfl, hd5, HN⟩
      have HW := Lib.hid HN
      clear HN
      have hS4 : S v4 := hSi _ (HW.out.bx ⟨w.heap.size, Ra, Ca, A, n1, c1⟩ (by simp)) (HW.out.bx ⟨w.heap.size + 1, Rb, Cb, B, n2, c2⟩ (by simp))
      show S v4 ∧ _
      refine ⟨hS4, ?_⟩
      refine wpAnyH_one (i := 3) (by kernel_rfl) rfl (by kernel_rfl) ?_
      go_simp
      refine (copiedW HW.out Rb Cb B t n2 c2 (by simp) HL2.out).mono ?_
      rintro e v5 ⟨A6, d6, rfl, hd6, HN⟩
      have HW := Lib.hid HN
      clear HN
      have hS5 : S v5 := hSi _ (HW.out.bx ⟨w.heap.size, Ra, Ca, A, n1, c1⟩ (by simp)) (HW.out.bx ⟨w.heap.size + 1, Rb, Cb, B, n2, c2⟩ (by simp))
      show S v5 ∧ _
      refine ⟨hS5, ?_⟩
      refine wpAnyH_one (i := 6) (by kernel_rfl) rfl (by kernel_rfl) ?_
      have f0 := (HW.out.bx ⟨bo_x, 0, 0, none, 0, 0⟩ (by simp)).frozen 0
      have f1 := (HW.out.bx ⟨bo_x, 0, 0, none, 0, 0⟩ (by simp)).frozen 1
      have f2 := (HW.out.bx ⟨bo_x, 0, 0, none, 0, 0⟩ (by simp)).frozen 2
      obtain ⟨y0, y1, y2⟩ := HW.out.at_ (b := bo_x) (R := 0) (C := 0) (A := none) (n := 0) (c := 0) (by simp)
      have hoth : ∀ y ∈ ([⟨w.heap.size, Ra, Ca, A, n1, c1⟩, ⟨w.heap.size + 1, Rb, Cb, B, n2, c2⟩, ⟨bo_y, 0, 0, none, 0, 0⟩] : List Bx), y ∈ ([⟨w.heap.size, Ra, Ca, A, n1, c1⟩, ⟨w.heap.size + 1, Rb, Cb, B, n2, c2⟩, ⟨bo_y, 0, 0, none, 0, 0⟩, ⟨bo_x, 0, 0, none, 0, 0⟩] : List Bx) ∧ y.b ≠ bo_x := by
       intro y hy
       simp only [List.mem_cons, List.not_mem_nil, or_false] at hy
       rcases hy with rfl | rfl | rfl
       ·exact ⟨by simp, by (first | exact hne_x_a | exact Ne.symm hne_a_x)⟩
       ·exact ⟨by simp, by (first | exact hne_x_b | exact Ne.symm hne_b_x)⟩
       ·exact ⟨by simp, by (first | exact hne_x_y | exact Ne.symm hne_y_x)⟩
      obtain ⟨v5p, hvv5p, HN⟩ := (HW.out.subx (bx' := [⟨w.heap.size, Ra, Ca, A, n1, c1⟩, ⟨w.heap.size + 1, Rb, Cb, B, n2, c2⟩, ⟨bo_y, 0, 0, none, 0, 0⟩, ⟨bo_x, 0, 0, none, 0, 0⟩]) (by simp)).put (b := bo_x) (R0 := 0) (C0 := 0) (A0 := none) (n0 := 0) (c0 := 0) (by simp) hle_x [⟨w.heap.size, Ra, Ca, A, n1, c1⟩, ⟨w.heap.size + 1, Rb, Cb, B, n2, c2⟩, ⟨bo_y, 0, 0, none, 0, 0⟩] hoth Ra Ca A5 n1 d5
      clear hoth
      have HW := Lib.hid HN
      clear HN
      go_simp
      clear f0 f1 f2 y0 y1 y2 hvv5p
      have hS6 : S v5p := hSi _ (HW.out.bx ⟨w.heap.size, Ra, Ca, A, n1, c1⟩ (by simp)) (HW.out.bx ⟨w.heap.size + 1, Rb, Cb, B, n2, c2⟩ (by simp))
      refine ⟨hS6, ?_⟩
      refine wpAnyH_one (i := 7) (by kernel_rfl) rfl (by kernel_rfl) ?_
      have f0 := (HW.out.bx ⟨bo_y, 0, 0, none, 0, 0⟩ (by simp)).frozen 0
      have f1 := (HW.out.bx ⟨bo_y, 0, 0, none, 0, 0⟩ (by simp)).frozen 1
      have f2 := (HW.out.bx ⟨bo_y, 0, 0, none, 0, 0⟩ (by simp)).frozen 2
      obtain ⟨y0, y1, y2⟩ := HW.out.at_ (b := bo_y) (R := 0) (C := 0) (A := none) (n := 0) (c := 0) (by simp)
      have hoth : ∀ y ∈ ([⟨bo_x, Ra, Ca, A5, n1, d5⟩, ⟨w.heap.size, Ra, Ca, A, n1, c1⟩, ⟨w.heap.size + 1, Rb, Cb, B, n2, c2⟩] : List Bx), y ∈ ([⟨bo_x, Ra, Ca, A5, n1, d5⟩, ⟨w.heap.size, Ra, Ca, A, n1, c1⟩, ⟨w.heap.size + 1, Rb, Cb, B, n2, c2⟩, ⟨bo_y, 0, 0, none, 0, 0⟩] : List Bx) ∧ y.b ≠ bo_y := by
       intro y hy
       simp only [List.mem_cons, List.not_mem_nil, or_false] at hy
       rcases hy with rfl | rfl | rfl
       ·exact ⟨by simp, by (first | exact hne_y_x | exact Ne.symm hne_x_y)⟩
       ·exact ⟨by simp, by (first | exact hne_y_a | exact Ne.symm hne_a_y)⟩
       ·exact ⟨by simp, by (first | exact hne_y_b | exact Ne.symm hne_b_y)⟩
      obtain ⟨v5pp, hvv5pp, HN⟩ := (HW.out.subx (bx' := [⟨bo_x, Ra, Ca, A5, n1, d5⟩, ⟨w.heap.size, Ra, Ca, A, n1, c1⟩, ⟨w.heap.size + 1, Rb, Cb, B, n2, c2⟩, ⟨bo_y, 0, 0, none, 0, 0⟩]) (by simp)).put (b := bo_y) (R0 := 0) (C0 := 0) (A0 := none) (n0 := 0) (c0 := 0) (by simp) hle_y [⟨bo_x, Ra, Ca, A5, n1, d5⟩, ⟨w.heap.size, Ra, Ca, A, n1, c1⟩, ⟨w.heap.size + 1, Rb, Cb, B, n2, c2⟩] hoth Rb Cb A6 n2 d6
      clear hoth
      have HW := Lib.hid HN
      clear HN
      go_simp
      clear f0 f1 f2 y0 y1 y2 hvv5pp
      have hS7 : S v5pp := hSi _ (HW.out.bx ⟨w.heap.size, Ra, Ca, A, n1, c1⟩ (by simp)) (HW.out.bx ⟨w.heap.size + 1, Rb, Cb, B, n2, c2⟩ (by simp))
      refine ⟨hS7, ?_⟩
      refine wpAnyH_done (by kernel_rfl) ?_ _
      exact ⟨rfl, bo_x, bo_y, A5, d5, A6, d6, rfl, hd5, hd6, HW.out.subx (by simp)⟩
   case hK =>
    rintro ⟨xb, yb, A5, d5, A6, d6⟩ v5 ⟨hd5, hd6, HN⟩
    simp only [List.setIfInBounds_toArray, List.set_cons_zero, List.set_cons_succ] at hd5 hd6 HN ⊢
    have HW := Lib.hid HN
    clear HN
    obtain ⟨qx0, qx1, qx2⟩ := HW.out.at_ (b := xb) (R := Ra) (C := Ca) (A := A5) (n := n1) (c := d5) (by simp)
    obtain ⟨qy0, qy1, qy2⟩ := HW.out.at_ (b := yb) (R := Rb) (C := Cb) (A := A6) (n := n2) (c := d6) (by simp)
    go_wp2_with fail
    clear qx0 qx1 qx2 qy0 qy1 qy2
    refine (mulIsW HW.out Ra Ca Rb Cb n1 n2 N d5 d6 rr cc A5 A6 s t u k (by simp) (by simp) hd5 hd6 HL1.out HL2.out HNu.out HMI.out).mono ?_
    rintro e v6 ⟨A7, d7, rfl, hd7, HN⟩
    obtain ⟨v6x, hvv6x, -, HN⟩ := HN.var rr cc A7 N d7
    have HW := Lib.hid HN
    clear HN
    go_wp2_with fail
    clear hvv6x
    obtain ⟨pb, hpb⟩ : ∃ b, v6.heap.size = b := ⟨_, rfl⟩
    rw [hpb] at HW ⊢
    clear hpb
    apply wp_to_upd (α := Nat × Option Addr × Nat) (upd := fun zz a => { a with tmps := ((((((((((a.tmps).setIfInBounds 38 (.agg #[.int .i64 Ra, .int .i64 Ca, .slice A n1 c1])).setIfInBounds 39 (.agg #[.int .i64 Ra, .int .i64 Ca, .slice A n1 c1])).setIfInBounds 40 (.agg #[.int .i64 Rb, .int .i64 Cb, .slice B n2 c2])).setIfInBounds 41 (.agg #[.int .i64 Rb, .int .i64 Cb, .slice B n2 c2])).setIfInBounds 42 (.tuple #[.agg #[.int .i64 rr, .int .i64 cc, .slice zz.2.1 N zz.2.2], .int .i64 k])).setIfInBounds 37 (.tuple #[.agg #[.int .i64 rr, .int .i64 cc, .slice zz.2.1 N zz.2.2], .int .i64 k])).setIfInBounds 43 (.agg #[.int .i64 rr, .int .i64 cc, .slice zz.2.1 N zz.2.2])).setIfInBounds 44 (.int .i64 k)).setIfInBounds 10 (.pointer (some ⟨zz.1, 0, none⟩))).setIfInBounds 11 (.int .i64 k) }) (R := fun zz V => N ≤ zz.2.2 ∧ W w g [(zz.2.1, u), (A7, u), (A6, t), (A5, s), (B, t), (A, s)] [⟨pb, rr, cc, A7, N, d7⟩, ⟨yb, Rb, Cb, A6, n2, d6⟩, ⟨xb, Ra, Ca, A5, n1, d5⟩, ⟨w.heap.size, Ra, Ca, A, n1, c1⟩, ⟨w.heap.size + 1, Rb, Cb, B, n2, c2⟩] V ∧ Block V zz.1 33 #[.int .i64 rr, .int .i64 cc, .slice zz.2.1 N zz.2.2])
    case h =>
     have hmx : Try.prog.follows .mixedOrders = true := by kernel_rfl
     obtain ⟨S, hSdef⟩ : ∃ S : World → Prop, S = fun V => Bx.In V ⟨w.heap.size, Ra, Ca, A, n1, c1⟩ ∧ Bx.In V ⟨w.heap.size + 1, Rb, Cb, B, n2, c2⟩ := ⟨_, rfl⟩
     have hSi : ∀ V, Bx.In V ⟨w.heap.size, Ra, Ca, A, n1, c1⟩ → Bx.In V ⟨w.heap.size + 1, Rb, Cb, B, n2, c2⟩ → S V := fun V h0 h1 => by rw [hSdef]; exact ⟨h0, h1⟩
     have hSc : ∀ V, S V → (V.cell? ⟨w.heap.size, 0, none⟩ = some (.int .i64 Ra) ∧ V.cell? ⟨w.heap.size, 1, none⟩ = some (.int .i64 Ca) ∧ V.cell? ⟨w.heap.size, 2, none⟩ = some (.slice A n1 c1)) ∧ (V.cell? ⟨w.heap.size + 1, 0, none⟩ = some (.int .i64 Rb) ∧ V.cell? ⟨w.heap.size + 1, 1, none⟩ = some (.int .i64 Cb) ∧ V.cell? ⟨w.heap.size + 1, 2, none⟩ = some (.slice B n2 c2)) := fun V hV => by rw [hSdef] at hV; exact ⟨cells3 hV.1, cells3 hV.2⟩
     clear hSdef
     have HW := Lib.hid HW.out.drew
     have hS1 : S v6x.drew := hSi _ (HW.out.bx ⟨w.heap.size, Ra, Ca, A, n1, c1⟩ (by simp)) (HW.out.bx ⟨w.heap.size + 1, Rb, Cb, B, n2, c2⟩ (by simp))
     refine wp_region_held (S := S) hmx ?_
     refine wpAnyH_takeD (i := 0) (some 38) (.agg #[.int .i64 Ra, .int .i64 Ca, .slice A n1 c1]) rfl rfl (by kernel_rfl) (by kernel_rfl) (by kernel_rfl) (fun _ _ _ h => by cases h.1) (Or.inl ⟨by kernel_rfl, fun W hW => by obtain ⟨⟨s00, s01, s02⟩, ⟨s10, s11, s12⟩⟩ := hSc W hW; go_simp⟩) hS1 ?_
     simp only [Act.put, List.setIfInBounds_toArray, List.set_cons_zero, List.set_cons_succ]
     refine wpAnyH_takeD (i := 2) (some 40) (.agg #[.int .i64 Rb, .int .i64 Cb, .slice B n2 c2]) rfl rfl (by kernel_rfl) (by kernel_rfl) (by kernel_rfl) (fun _ _ _ h => by cases h.1) (Or.inl ⟨by kernel_rfl, fun W hW => by obtain ⟨⟨s00, s01, s02⟩, ⟨s10, s11, s12⟩⟩ := hSc W hW; go_simp⟩) hS1 ?_
     simp only [Act.put, List.setIfInBounds_toArray, List.set_cons_zero, List.set_cons_succ]
     refine wpAnyH_two (i := 1) (j := 8) (by kernel_rfl) rfl rfl (by kernel_rfl) (by kernel_rfl) ?_ ?_
     ·skip
      go_simp
      refine (plainW HW.out Ra Ca A n1 c1).mono ?_
      rintro e v7 ⟨rfl, HN, HLv⟩
      have HW := Lib.hid HN
      clear HN HLv
      have hS2 : S v7 := hSi _ (HW.out.bx ⟨w.heap.size, Ra, Ca, A, n1, c1⟩ (by simp)) (HW.out.bx ⟨w.heap.size + 1, Rb, Cb, B, n2, c2⟩ (by simp))
      show S v7 ∧ _
      refine ⟨hS2, ?_⟩
      refine wpAnyH_two (i := 3) (j := 8) (by kernel_rfl) rfl rfl (by kernel_rfl) (by kernel_rfl) ?_ ?_
      ·skip
       go_simp
       refine (plainW HW.out Rb Cb B n2 c2).mono ?_
       rintro e v8 ⟨rfl, HN, HLv⟩
       have HW := Lib.hid HN
       clear HN HLv
       have hS3 : S v8 := hSi _ (HW.out.bx ⟨w.heap.size, Ra, Ca, A, n1, c1⟩ (by simp)) (HW.out.bx ⟨w.heap.size + 1, Rb, Cb, B, n2, c2⟩ (by simp))
       show S v8 ∧ _
       refine ⟨hS3, ?_⟩
       refine wpAnyH_two (i := 4) (j := 8) (by kernel_rfl) rfl rfl (by kernel_rfl) (by kernel_rfl) ?_ ?_
       ·skip
        go_simp
        refine (refMulIsW HW.out Ra Ca Rb Cb n1 n2 N c1 c2 rr cc A B s t u k (by simp) (by simp) HL1.out HL2.out HNu.out HMI.out).mono ?_
        rintro e v9 ⟨⟨A8, d8, rfl, hd8, HN⟩, HLv⟩
        have HW := Lib.hid HN
        clear HN HLv
        have hS4 : S v9 := hSi _ (HW.out.bx ⟨w.heap.size, Ra, Ca, A, n1, c1⟩ (by simp)) (HW.out.bx ⟨w.heap.size + 1, Rb, Cb, B, n2, c2⟩ (by simp))
        show S v9 ∧ _
        refine ⟨hS4, ?_⟩
        refine wpAnyH_takeD (i := 5) (some 37) (.tuple #[.agg #[.int .i64 rr, .int .i64 cc, .slice A8 N d8], .int .i64 k]) rfl rfl (by kernel_rfl) (by kernel_rfl) (by kernel_rfl) (fun _ _ _ h => by cases h.1) (Or.inl ⟨by kernel_rfl, fun W hW => by go_simp⟩) hS4 ?_
        simp only [Act.put, List.setIfInBounds_toArray, List.set_cons_zero, List.set_cons_succ]
        refine wpAnyH_takeD (i := 6) (some 43) (.agg #[.int .i64 rr, .int .i64 cc, .slice A8 N d8]) rfl rfl (by kernel_rfl) (by kernel_rfl) (by kernel_rfl) (fun _ _ _ h => by cases h.1) (Or.inl ⟨by kernel_rfl, fun W hW => by go_simp⟩) hS4 ?_
        simp only [Act.put, List.setIfInBounds_toArray, List.set_cons_zero, List.set_cons_succ]
        refine wpAnyH_takeD (i := 7) (some 44) (.int .i64 k) rfl rfl (by kernel_rfl) (by kernel_rfl) (by kernel_rfl) (fun _ _ _ h => by cases h.1) (Or.inl ⟨by kernel_rfl, fun W hW => by go_simp⟩) hS4 ?_
        simp only [Act.put, List.setIfInBounds_toArray, List.set_cons_zero, List.set_cons_succ]
        refine wpAnyH_one (i := 8) (by kernel_rfl) rfl (by kernel_rfl) ?_
        obtain ⟨bo_pr, hbo⟩ : ∃ b, v9.heap.size = b := ⟨_, rfl⟩
        have hle_pr : w.heap.size ≤ bo_pr := by rw [← hbo]; exact HW.out.bel.size
        have HN := HW.out.alloc (.cells #[.int .i64 0, .int .i64 0, .slice none 0 0] 33)
        have hbx0 := Block.new v9 33 #[.int .i64 0, .int .i64 0, .slice none 0 0]
        rw [hbo] at hbx0
        obtain ⟨v9y, hvv9y⟩ : ∃ v, v9.alloc (.cells #[.int .i64 0, .int .i64 0, .slice none 0 0] 33) = v := ⟨_, rfl⟩
        rw [hvv9y] at HN hbx0
        have HW := Lib.hid HN
        clear HN
        go_simp
        have Hpr := Lib.hid hbx0
        clear hbx0 hbo hvv9y
        have hS5 : S v9y := hSi _ (HW.out.bx ⟨w.heap.size, Ra, Ca, A, n1, c1⟩ (by simp)) (HW.out.bx ⟨w.heap.size + 1, Rb, Cb, B, n2, c2⟩ (by simp))
        refine ⟨hS5, ?_⟩
        refine wpAnyH_one (i := 9) (by kernel_rfl) rfl (by kernel_rfl) ?_
        have f0 := Hpr.out.frozen 0
        have f1 := Hpr.out.frozen 1
        have f2 := Hpr.out.frozen 2
        obtain ⟨y0, y1, y2⟩ := cells3 Hpr.out
        obtain ⟨v9yp, hvv9yp, HN, HB, hkeep⟩ := HW.out.putR Hpr.out (by simp) (by simp) (by simp) hle_pr (.int .i64 rr) (.int .i64 cc) (.slice A8 N d8)
        have Hpr := Lib.hid HB
        clear HB hkeep
        have HW := Lib.hid HN
        clear HN
        go_simp
        clear f0 f1 f2 y0 y1 y2 hvv9yp
        have hS6 : S v9yp := hSi _ (HW.out.bx ⟨w.heap.size, Ra, Ca, A, n1, c1⟩ (by simp)) (HW.out.bx ⟨w.heap.size + 1, Rb, Cb, B, n2, c2⟩ (by simp))
        refine ⟨hS6, ?_⟩
        refine wpAnyH_takeD (i := 10) (some 11) (.int .i64 k) rfl rfl (by kernel_rfl) (by kernel_rfl) (by kernel_rfl) (fun _ _ _ h => by cases h.1) (Or.inl ⟨by kernel_rfl, fun W hW => by go_simp⟩) hS6 ?_
        simp only [Act.put, List.setIfInBounds_toArray, List.set_cons_zero, List.set_cons_succ]
        refine wpAnyH_done (by kernel_rfl) ?_ _
        exact ⟨rfl, bo_pr, A8, d8, rfl, hd8, HW.out.subx (by simp), Hpr.out⟩
       ·skip
        obtain ⟨bo_pr, hbo⟩ : ∃ b, v8.heap.size = b := ⟨_, rfl⟩
        have hle_pr : w.heap.size ≤ bo_pr := by rw [← hbo]; exact HW.out.bel.size
        have HN := HW.out.alloc (.cells #[.int .i64 0, .int .i64 0, .slice none 0 0] 33)
        have hbx0 := Block.new v8 33 #[.int .i64 0, .int .i64 0, .slice none 0 0]
        rw [hbo] at hbx0
        obtain ⟨v8y, hvv8y⟩ : ∃ v, v8.alloc (.cells #[.int .i64 0, .int .i64 0, .slice none 0 0] 33) = v := ⟨_, rfl⟩
        rw [hvv8y] at HN hbx0
        have HW := Lib.hid HN
        clear HN
        go_simp
        have Hpr := Lib.hid hbx0
        clear hbx0 hbo hvv8y
        have hS4 : S v8y := hSi _ (HW.out.bx ⟨w.heap.size, Ra, Ca, A, n1, c1⟩ (by simp)) (HW.out.bx ⟨w.heap.size + 1, Rb, Cb, B, n2, c2⟩ (by simp))
        refine ⟨hS4, ?_⟩
        refine wpAnyH_one (i := 4) (by kernel_rfl) rfl (by kernel_rfl) ?_
        go_simp
        refine (refMulIsW HW.out Ra Ca Rb Cb n1 n2 N c1 c2 rr cc A B s t u k (by simp) (by simp) HL1.out HL2.out HNu.out HMI.out).mono ?_
        rintro e v9 ⟨⟨A8, d8, rfl, hd8, HN⟩, HLv⟩
        have Hpr := Lib.hid (HLv _ _ _ (by decide) Hpr.out)
        have HW := Lib.hid HN
        clear HN HLv
        have hS5 : S v9 := hSi _ (HW.out.bx ⟨w.heap.size, Ra, Ca, A, n1, c1⟩ (by simp)) (HW.out.bx ⟨w.heap.size + 1, Rb, Cb, B, n2, c2⟩ (by simp))
        show S v9 ∧ _
        refine ⟨hS5, ?_⟩
        refine wpAnyH_takeD (i := 5) (some 37) (.tuple #[.agg #[.int .i64 rr, .int .i64 cc, .slice A8 N d8], .int .i64 k]) rfl rfl (by kernel_rfl) (by kernel_rfl) (by kernel_rfl) (fun _ _ _ h => by cases h.1) (Or.inl ⟨by kernel_rfl, fun W hW => by go_simp⟩) hS5 ?_
        simp only [Act.put, List.setIfInBounds_toArray, List.set_cons_zero, List.set_cons_succ]
        refine wpAnyH_takeD (i := 6) (some 43) (.agg #[.int .i64 rr, .int .i64 cc, .slice A8 N d8]) rfl rfl (by kernel_rfl) (by kernel_rfl) (by kernel_rfl) (fun _ _ _ h => by cases h.1) (Or.inl ⟨by kernel_rfl, fun W hW => by go_simp⟩) hS5 ?_
        simp only [Act.put, List.setIfInBounds_toArray, List.set_cons_zero, List.set_cons_succ]
        refine wpAnyH_takeD (i := 7) (some 44) (.int .i64 k) rfl rfl (by kernel_rfl) (by kernel_rfl) (by kernel_rfl) (fun _ _ _ h => by cases h.1) (Or.inl ⟨by kernel_rfl, fun W hW => by go_simp⟩) hS5 ?_
        simp only [Act.put, List.setIfInBounds_toArray, List.set_cons_zero, List.set_cons_succ]
        refine wpAnyH_one (i := 9) (by kernel_rfl) rfl (by kernel_rfl) ?_
        have f0 := Hpr.out.frozen 0
        have f1 := Hpr.out.frozen 1
        have f2 := Hpr.out.frozen 2
        obtain ⟨y0, y1, y2⟩ := cells3 Hpr.out
        obtain ⟨v9p, hvv9p, HN, HB, hkeep⟩ := HW.out.putR Hpr.out (by simp) (by simp) (by simp) hle_pr (.int .i64 rr) (.int .i64 cc) (.slice A8 N d8)
        have Hpr := Lib.hid HB
        clear HB hkeep
        have HW := Lib.hid HN
        clear HN
        go_simp
        clear f0 f1 f2 y0 y1 y2 hvv9p
        have hS6 : S v9p := hSi _ (HW.out.bx ⟨w.heap.size, Ra, Ca, A, n1, c1⟩ (by simp)) (HW.out.bx ⟨w.heap.size + 1, Rb, Cb, B, n2, c2⟩ (by simp))
        refine ⟨hS6, ?_⟩
        refine wpAnyH_takeD (i := 10) (some 11) (.int .i64 k) rfl rfl (by kernel_rfl) (by kernel_rfl) (by kernel_rfl) (fun _ _ _ h => by cases h.1) (Or.inl ⟨by kernel_rfl, fun W hW => by go_simp⟩) hS6 ?_
        simp only [Act.put, List.setIfInBounds_toArray, List.set_cons_zero, List.set_cons_succ]
        refine wpAnyH_done (by kernel_rfl) ?_ _
        exact ⟨rfl, bo_pr, A8, d8, rfl, hd8, HW.out.subx (by simp), Hpr.out⟩
      ·skip
       obtain ⟨bo_pr, hbo⟩ : ∃ b, v7.heap.size = b := ⟨_, rfl⟩
       have hle_pr : w.heap.size ≤ bo_pr := by rw [← hbo]; exact HW.out.bel.size
       have HN := HW.out.alloc (.cells #[.int .i64 0, .int .i64 0, .slice none 0 0] 33)
       have hbx0 := Block.new v7 33 #[.int .i64 0, .int .i64 0, .slice none 0 0]
       rw [hbo] at hbx0
       obtain ⟨v7y, hvv7y⟩ : ∃ v, v7.alloc (.cells #[.int .i64 0, .int .i64 0, .slice none 0 0] 33) = v := ⟨_, rfl⟩
       rw [hvv7y] at HN hbx0
       have HW := Lib.hid HN
       clear HN
       go_simp
       have Hpr := Lib.hid hbx0
       clear hbx0 hbo hvv7y
       have hS3 : S v7y := hSi _ (HW.out.bx ⟨w.heap.size, Ra, Ca, A, n1, c1⟩ (by simp)) (HW.out.bx ⟨w.heap.size + 1, Rb, Cb, B, n2, c2⟩ (by simp))
       refine ⟨hS3, ?_⟩
       refine wpAnyH_one (i := 3) (by kernel_rfl) rfl (by kernel_rfl) ?_
       go_simp
       refine (plainW HW.out Rb Cb B n2 c2).mono ?_
       rintro e v8 ⟨rfl, HN, HLv⟩
       have Hpr := Lib.hid (HLv _ _ _ (by decide) Hpr.out)
       have HW := Lib.hid HN
       clear HN HLv
       have hS4 : S v8 := hSi _ (HW.out.bx ⟨w.heap.size, Ra, Ca, A, n1, c1⟩ (by simp)) (HW.out.bx ⟨w.heap.size + 1, Rb, Cb, B, n2, c2⟩ (by simp))
       show S v8 ∧ _
       refine ⟨hS4, ?_⟩
       refine wpAnyH_one (i := 4) (by kernel_rfl) rfl (by kernel_rfl) ?_
       go_simp
       refine (refMulIsW HW.out Ra Ca Rb Cb n1 n2 N c1 c2 rr cc A B s t u k (by simp) (by simp) HL1.out HL2.out HNu.out HMI.out).mono ?_
       rintro e v9 ⟨⟨A8, d8, rfl, hd8, HN⟩, HLv⟩
       have Hpr := Lib.hid (HLv _ _ _ (by decide) Hpr.out)
       have HW := Lib.hid HN
       clear HN HLv
       have hS5 : S v9 := hSi _ (HW.out.bx ⟨w.heap.size, Ra, Ca, A, n1, c1⟩ (by simp)) (HW.out.bx ⟨w.heap.size + 1, Rb, Cb, B, n2, c2⟩ (by simp))
       show S v9 ∧ _
       refine ⟨hS5, ?_⟩
       refine wpAnyH_takeD (i := 5) (some 37) (.tuple #[.agg #[.int .i64 rr, .int .i64 cc, .slice A8 N d8], .int .i64 k]) rfl rfl (by kernel_rfl) (by kernel_rfl) (by kernel_rfl) (fun _ _ _ h => by cases h.1) (Or.inl ⟨by kernel_rfl, fun W hW => by go_simp⟩) hS5 ?_
       simp only [Act.put, List.setIfInBounds_toArray, List.set_cons_zero, List.set_cons_succ]
       refine wpAnyH_takeD (i := 6) (some 43) (.agg #[.int .i64 rr, .int .i64 cc, .slice A8 N d8]) rfl rfl (by kernel_rfl) (by kernel_rfl) (by kernel_rfl) (fun _ _ _ h => by cases h.1) (Or.inl ⟨by kernel_rfl, fun W hW => by go_simp⟩) hS5 ?_
       simp only [Act.put, List.setIfInBounds_toArray, List.set_cons_zero, List.set_cons_succ]
       refine wpAnyH_takeD (i := 7) (some 44) (.int .i64 k) rfl rfl (by kernel_rfl) (by kernel_rfl) (by kernel_rfl) (fun _ _ _ h => by cases h.1) (Or.inl ⟨by kernel_rfl, fun W hW => by go_simp⟩) hS5 ?_
       simp only [Act.put, List.setIfInBounds_toArray, List.set_cons_zero, List.set_cons_succ]
       refine wpAnyH_one (i := 9) (by kernel_rfl) rfl (by kernel_rfl) ?_
       have f0 := Hpr.out.frozen 0
       have f1 := Hpr.out.frozen 1
       have f2 := Hpr.out.frozen 2
       obtain ⟨y0, y1, y2⟩ := cells3 Hpr.out
       obtain ⟨v9p, hvv9p, HN, HB, hkeep⟩ := HW.out.putR Hpr.out (by simp) (by simp) (by simp) hle_pr (.int .i64 rr) (.int .i64 cc) (.slice A8 N d8)
       have Hpr := Lib.hid HB
       clear HB hkeep
       have HW := Lib.hid HN
       clear HN
       go_simp
       clear f0 f1 f2 y0 y1 y2 hvv9p
       have hS6 : S v9p := hSi _ (HW.out.bx ⟨w.heap.size, Ra, Ca, A, n1, c1⟩ (by simp)) (HW.out.bx ⟨w.heap.size + 1, Rb, Cb, B, n2, c2⟩ (by simp))
       refine ⟨hS6, ?_⟩
       refine wpAnyH_takeD (i := 10) (some 11) (.int .i64 k) rfl rfl (by kernel_rfl) (by kernel_rfl) (by kernel_rfl) (fun _ _ _ h => by cases h.1) (Or.inl ⟨by kernel_rfl, fun W hW => by go_simp⟩) hS6 ?_
       simp only [Act.put, List.setIfInBounds_toArray, List.set_cons_zero, List.set_cons_succ]
       refine wpAnyH_done (by kernel_rfl) ?_ _
       exact ⟨rfl, bo_pr, A8, d8, rfl, hd8, HW.out.subx (by simp), Hpr.out⟩
     ·skip
      obtain ⟨bo_pr, hbo⟩ : ∃ b, v6x.drew.heap.size = b := ⟨_, rfl⟩
      have hle_pr : w.heap.size ≤ bo_pr := by rw [← hbo]; exact HW.out.bel.size
      have HN := HW.out.alloc (.cells #[.int .i64 0, .int .i64 0, .slice none 0 0] 33)
      have hbx0 := Block.new v6x.drew 33 #[.int .i64 0, .int .i64 0, .slice none 0 0]
      rw [hbo] at hbx0
      obtain ⟨v6xdy, hvv6xdy⟩ : ∃ v, v6x.drew.alloc (.cells #[.int .i64 0, .int .i64 0, .slice none 0 0] 33) = v := ⟨_, rfl⟩
      rw [hvv6xdy] at HN hbx0
      have HW := Lib.hid HN
      clear HN
      go_simp
      have Hpr := Lib.hid hbx0
      clear hbx0 hbo hvv6xdy
      have hS2 : S v6xdy := hSi _ (HW.out.bx ⟨w.heap.size, Ra, Ca, A, n1, c1⟩ (by simp)) (HW.out.bx ⟨w.heap.size + 1, Rb, Cb, B, n2, c2⟩ (by simp))
      refine ⟨hS2, ?_⟩
      refine wpAnyH_one (i := 1) (by kernel_rfl) rfl (by kernel_rfl) ?_
      go_simp
      refine (plainW HW.out Ra Ca A n1 c1).mono ?_
      rintro e v7 ⟨rfl, HN, HLv⟩
      have Hpr := Lib.hid (HLv _ _ _ (by decide) Hpr.out)
      have HW := Lib.hid HN
      clear HN HLv
      have hS3 : S v7 := hSi _ (HW.out.bx ⟨w.heap.size, Ra, Ca, A, n1, c1⟩ (by simp)) (HW.out.bx ⟨w.heap.size + 1, Rb, Cb, B, n2, c2⟩ (by simp))
      show S v7 ∧ _
      refine ⟨hS3, ?_⟩
      refine wpAnyH_one (i := 3) (by kernel_rfl) rfl (by kernel_rfl) ?_
      go_simp
      refine (plainW HW.out Rb Cb B n2 c2).mono ?_
      rintro e v8 ⟨rfl, HN, HLv⟩
      have Hpr := Lib.hid (HLv _ _ _ (by decide) Hpr.out)
      have HW := Lib.hid HN
      clear HN HLv
      have hS4 : S v8 := hSi _ (HW.out.bx ⟨w.heap.size, Ra, Ca, A, n1, c1⟩ (by simp)) (HW.out.bx ⟨w.heap.size + 1, Rb, Cb, B, n2, c2⟩ (by simp))
      show S v8 ∧ _
      refine ⟨hS4, ?_⟩
      refine wpAnyH_one (i := 4) (by kernel_rfl) rfl (by kernel_rfl) ?_
      go_simp
      refine (refMulIsW HW.out Ra Ca Rb Cb n1 n2 N c1 c2 rr cc A B s t u k (by simp) (by simp) HL1.out HL2.out HNu.out HMI.out).mono ?_
      rintro e v9 ⟨⟨A8, d8, rfl, hd8, HN⟩, HLv⟩
      have Hpr := Lib.hid (HLv _ _ _ (by decide) Hpr.out)
      have HW := Lib.hid HN
      clear HN HLv
      have hS5 : S v9 := hSi _ (HW.out.bx ⟨w.heap.size, Ra, Ca, A, n1, c1⟩ (by simp)) (HW.out.bx ⟨w.heap.size + 1, Rb, Cb, B, n2, c2⟩ (by simp))
      show S v9 ∧ _
      refine ⟨hS5, ?_⟩
      refine wpAnyH_takeD (i := 5) (some 37) (.tuple #[.agg #[.int .i64 rr, .int .i64 cc, .slice A8 N d8], .int .i64 k]) rfl rfl (by kernel_rfl) (by kernel_rfl) (by kernel_rfl) (fun _ _ _ h => by cases h.1) (Or.inl ⟨by kernel_rfl, fun W hW => by go_simp⟩) hS5 ?_
      simp only [Act.put, List.setIfInBounds_toArray, List.set_cons_zero, List.set_cons_succ]
      refine wpAnyH_takeD (i := 6) (some 43) (.agg #[.int .i64 rr, .int .i64 cc, .slice A8 N d8]) rfl rfl (by kernel_rfl) (by kernel_rfl) (by kernel_rfl) (fun _ _ _ h => by cases h.1) (Or.inl ⟨by kernel_rfl, fun W hW => by go_simp⟩) hS5 ?_
      simp only [Act.put, List.setIfInBounds_toArray, List.set_cons_zero, List.set_cons_succ]
      refine wpAnyH_takeD (i := 7) (some 44) (.int .i64 k) rfl rfl (by kernel_rfl) (by kernel_rfl) (by kernel_rfl) (fun _ _ _ h => by cases h.1) (Or.inl ⟨by kernel_rfl, fun W hW => by go_simp⟩) hS5 ?_
      simp only [Act.put, List.setIfInBounds_toArray, List.set_cons_zero, List.set_cons_succ]
      refine wpAnyH_one (i := 9) (by kernel_rfl) rfl (by kernel_rfl) ?_
      have f0 := Hpr.out.frozen 0
      have f1 := Hpr.out.frozen 1
      have f2 := Hpr.out.frozen 2
      obtain ⟨y0, y1, y2⟩ := cells3 Hpr.out
      obtain ⟨v9p, hvv9p, HN, HB, hkeep⟩ := HW.out.putR Hpr.out (by simp) (by simp) (by simp) hle_pr (.int .i64 rr) (.int .i64 cc) (.slice A8 N d8)
      have Hpr := Lib.hid HB
      clear HB hkeep
      have HW := Lib.hid HN
      clear HN
      go_simp
      clear f0 f1 f2 y0 y1 y2 hvv9p
      have hS6 : S v9p := hSi _ (HW.out.bx ⟨w.heap.size, Ra, Ca, A, n1, c1⟩ (by simp)) (HW.out.bx ⟨w.heap.size + 1, Rb, Cb, B, n2, c2⟩ (by simp))
      refine ⟨hS6, ?_⟩
      refine wpAnyH_takeD (i := 10) (some 11) (.int .i64 k) rfl rfl (by kernel_rfl) (by kernel_rfl) (by kernel_rfl) (fun _ _ _ h => by cases h.1) (Or.inl ⟨by kernel_rfl, fun W hW => by go_simp⟩) hS6 ?_
      simp only [Act.put, List.setIfInBounds_toArray, List.set_cons_zero, List.set_cons_succ]
      refine wpAnyH_done (by kernel_rfl) ?_ _
      exact ⟨rfl, bo_pr, A8, d8, rfl, hd8, HW.out.subx (by simp), Hpr.out⟩
    case hK =>
     rintro ⟨prb, A8, d8⟩ v7 ⟨hd8, HN, HB⟩
     simp only [List.setIfInBounds_toArray, List.set_cons_zero, List.set_cons_succ] at hd8 HN HB ⊢
     have HW := Lib.hid HN
     clear HN
     have Hpr := Lib.hid HB
     clear HB
     obtain ⟨qx0, qx1, qx2⟩ := HW.out.at_ (b := xb) (R := Ra) (C := Ca) (A := A5) (n := n1) (c := d5) (by simp)
     obtain ⟨qy0, qy1, qy2⟩ := HW.out.at_ (b := yb) (R := Rb) (C := Cb) (A := A6) (n := n2) (c := d6) (by simp)
     go_wp2_with fail
     clear qx0 qx1 qx2 qy0 qy1 qy2
     refine (solIsW HW.out Ra Ca Rb Cb n1 n2 N2 d5 d6 rr2 cc2 A5 A6 s t u2 k2 (by simp) (by simp) hd5 hd6 HL1.out HL2.out HNu2.out HSI.out).mono ?_
     rintro e v8 ⟨⟨A9, d9, rfl, hd9, HN⟩, HLv⟩
     have Hpr := Lib.hid (HLv _ _ _ (by decide) Hpr.out)
     clear HLv
     obtain ⟨v8x, hvv8x, -, HN⟩ := HN.var rr2 cc2 A9 N2 d9
     have HW := Lib.hid HN
     clear HN
     have Hpr := Lib.hid (show Block v8x _ _ _ by rw [← hvv8x]; exact Hpr.out.alloc _)
     go_wp2_with fail
     clear hvv8x
     obtain ⟨qb, hqb⟩ : ∃ b, v8.heap.size = b := ⟨_, rfl⟩
     rw [hqb] at HW ⊢
     clear hqb
     apply wp_to_upd (α := Nat × Option Addr × Nat) (upd := fun zz a => { a with tmps := ((((((((((a.tmps).setIfInBounds 53 (.agg #[.int .i64 Ra, .int .i64 Ca, .slice A n1 c1])).setIfInBounds 54 (.agg #[.int .i64 Ra, .int .i64 Ca, .slice A n1 c1])).setIfInBounds 55 (.agg #[.int .i64 Rb, .int .i64 Cb, .slice B n2 c2])).setIfInBounds 56 (.agg #[.int .i64 Rb, .int .i64 Cb, .slice B n2 c2])).setIfInBounds 57 (.tuple #[.agg #[.int .i64 rr2, .int .i64 cc2, .slice zz.2.1 N2 zz.2.2], .int .i64 k2])).setIfInBounds 52 (.tuple #[.agg #[.int .i64 rr2, .int .i64 cc2, .slice zz.2.1 N2 zz.2.2], .int .i64 k2])).setIfInBounds 58 (.agg #[.int .i64 rr2, .int .i64 cc2, .slice zz.2.1 N2 zz.2.2])).setIfInBounds 59 (.int .i64 k2)).setIfInBounds 14 (.pointer (some ⟨zz.1, 0, none⟩))).setIfInBounds 15 (.int .i64 k2) }) (R := fun zz V => N2 ≤ zz.2.2 ∧ W w g [(zz.2.1, u2), (A9, u2), (A8, u), (A7, u), (A6, t), (A5, s), (B, t), (A, s)] [⟨qb, rr2, cc2, A9, N2, d9⟩, ⟨pb, rr, cc, A7, N, d7⟩, ⟨yb, Rb, Cb, A6, n2, d6⟩, ⟨xb, Ra, Ca, A5, n1, d5⟩, ⟨w.heap.size, Ra, Ca, A, n1, c1⟩, ⟨w.heap.size + 1, Rb, Cb, B, n2, c2⟩] V ∧ Block V zz.1 33 #[.int .i64 rr2, .int .i64 cc2, .slice zz.2.1 N2 zz.2.2] ∧ Block V prb 33 #[.int .i64 rr, .int .i64 cc, .slice A8 N d8])
     case h =>
      have hmx : Try.prog.follows .mixedOrders = true := by kernel_rfl
      obtain ⟨S, hSdef⟩ : ∃ S : World → Prop, S = fun V => Bx.In V ⟨w.heap.size, Ra, Ca, A, n1, c1⟩ ∧ Bx.In V ⟨w.heap.size + 1, Rb, Cb, B, n2, c2⟩ := ⟨_, rfl⟩
      have hSi : ∀ V, Bx.In V ⟨w.heap.size, Ra, Ca, A, n1, c1⟩ → Bx.In V ⟨w.heap.size + 1, Rb, Cb, B, n2, c2⟩ → S V := fun V h0 h1 => by rw [hSdef]; exact ⟨h0, h1⟩
      have hSc : ∀ V, S V → (V.cell? ⟨w.heap.size, 0, none⟩ = some (.int .i64 Ra) ∧ V.cell? ⟨w.heap.size, 1, none⟩ = some (.int .i64 Ca) ∧ V.cell? ⟨w.heap.size, 2, none⟩ = some (.slice A n1 c1)) ∧ (V.cell? ⟨w.heap.size + 1, 0, none⟩ = some (.int .i64 Rb) ∧ V.cell? ⟨w.heap.size + 1, 1, none⟩ = some (.int .i64 Cb) ∧ V.cell? ⟨w.heap.size + 1, 2, none⟩ = some (.slice B n2 c2)) := fun V hV => by rw [hSdef] at hV; exact ⟨cells3 hV.1, cells3 hV.2⟩
      clear hSdef
      have HW := Lib.hid HW.out.drew
      have hS1 : S v8x.drew := hSi _ (HW.out.bx ⟨w.heap.size, Ra, Ca, A, n1, c1⟩ (by simp)) (HW.out.bx ⟨w.heap.size + 1, Rb, Cb, B, n2, c2⟩ (by simp))
      refine wp_region_held (S := S) hmx ?_
      have Hpr := Lib.hid (show Block v8x.drew _ _ _ from Hpr.out.below (Below.drewN' (Below.refl _ _) 1) Hpr.out.lt)
      refine wpAnyH_takeD (i := 0) (some 53) (.agg #[.int .i64 Ra, .int .i64 Ca, .slice A n1 c1]) rfl rfl (by kernel_rfl) (by kernel_rfl) (by kernel_rfl) (fun _ _ _ h => by cases h.1) (Or.inl ⟨by kernel_rfl, fun W hW => by obtain ⟨⟨s00, s01, s02⟩, ⟨s10, s11, s12⟩⟩ := hSc W hW; go_simp⟩) hS1 ?_
      simp only [Act.put, List.setIfInBounds_toArray, List.set_cons_zero, List.set_cons_succ]
      refine wpAnyH_takeD (i := 2) (some 55) (.agg #[.int .i64 Rb, .int .i64 Cb, .slice B n2 c2]) rfl rfl (by kernel_rfl) (by kernel_rfl) (by kernel_rfl) (fun _ _ _ h => by cases h.1) (Or.inl ⟨by kernel_rfl, fun W hW => by obtain ⟨⟨s00, s01, s02⟩, ⟨s10, s11, s12⟩⟩ := hSc W hW; go_simp⟩) hS1 ?_
      simp only [Act.put, List.setIfInBounds_toArray, List.set_cons_zero, List.set_cons_succ]
      refine wpAnyH_two (i := 1) (j := 8) (by kernel_rfl) rfl rfl (by kernel_rfl) (by kernel_rfl) ?_ ?_
      ·skip
       go_simp
       refine (plainW HW.out Ra Ca A n1 c1).mono ?_
       rintro e v9 ⟨rfl, HN, HLv⟩
       have Hpr := Lib.hid (HLv _ _ _ (by decide) Hpr.out)
       have HW := Lib.hid HN
       clear HN HLv
       have hS2 : S v9 := hSi _ (HW.out.bx ⟨w.heap.size, Ra, Ca, A, n1, c1⟩ (by simp)) (HW.out.bx ⟨w.heap.size + 1, Rb, Cb, B, n2, c2⟩ (by simp))
       show S v9 ∧ _
       refine ⟨hS2, ?_⟩
       refine wpAnyH_two (i := 3) (j := 8) (by kernel_rfl) rfl rfl (by kernel_rfl) (by kernel_rfl) ?_ ?_
       ·skip
        go_simp
        refine (plainW HW.out Rb Cb B n2 c2).mono ?_
        rintro e v10 ⟨rfl, HN, HLv⟩
        have Hpr := Lib.hid (HLv _ _ _ (by decide) Hpr.out)
        have HW := Lib.hid HN
        clear HN HLv
        have hS3 : S v10 := hSi _ (HW.out.bx ⟨w.heap.size, Ra, Ca, A, n1, c1⟩ (by simp)) (HW.out.bx ⟨w.heap.size + 1, Rb, Cb, B, n2, c2⟩ (by simp))
        show S v10 ∧ _
        refine ⟨hS3, ?_⟩
        refine wpAnyH_two (i := 4) (j := 8) (by kernel_rfl) rfl rfl (by kernel_rfl) (by kernel_rfl) ?_ ?_
        ·skip
         go_simp
         refine (refSolIsW HW.out Ra Ca Rb Cb n1 n2 N2 c1 c2 rr2 cc2 A B s t u2 k2 (by simp) (by simp) hc1 hc2 HL1.out HL2.out HNu2.out HSI.out).mono ?_
         rintro e v11 ⟨⟨A10, d10, rfl, hd10, HN⟩, HLv⟩
         have Hpr := Lib.hid (HLv _ _ _ (by decide) Hpr.out)
         have HW := Lib.hid HN
         clear HN HLv
         have hS4 : S v11 := hSi _ (HW.out.bx ⟨w.heap.size, Ra, Ca, A, n1, c1⟩ (by simp)) (HW.out.bx ⟨w.heap.size + 1, Rb, Cb, B, n2, c2⟩ (by simp))
         show S v11 ∧ _
         refine ⟨hS4, ?_⟩
         refine wpAnyH_takeD (i := 5) (some 52) (.tuple #[.agg #[.int .i64 rr2, .int .i64 cc2, .slice A10 N2 d10], .int .i64 k2]) rfl rfl (by kernel_rfl) (by kernel_rfl) (by kernel_rfl) (fun _ _ _ h => by cases h.1) (Or.inl ⟨by kernel_rfl, fun W hW => by go_simp⟩) hS4 ?_
         simp only [Act.put, List.setIfInBounds_toArray, List.set_cons_zero, List.set_cons_succ]
         refine wpAnyH_takeD (i := 6) (some 58) (.agg #[.int .i64 rr2, .int .i64 cc2, .slice A10 N2 d10]) rfl rfl (by kernel_rfl) (by kernel_rfl) (by kernel_rfl) (fun _ _ _ h => by cases h.1) (Or.inl ⟨by kernel_rfl, fun W hW => by go_simp⟩) hS4 ?_
         simp only [Act.put, List.setIfInBounds_toArray, List.set_cons_zero, List.set_cons_succ]
         refine wpAnyH_takeD (i := 7) (some 59) (.int .i64 k2) rfl rfl (by kernel_rfl) (by kernel_rfl) (by kernel_rfl) (fun _ _ _ h => by cases h.1) (Or.inl ⟨by kernel_rfl, fun W hW => by go_simp⟩) hS4 ?_
         simp only [Act.put, List.setIfInBounds_toArray, List.set_cons_zero, List.set_cons_succ]
         refine wpAnyH_one (i := 8) (by kernel_rfl) rfl (by kernel_rfl) ?_
         obtain ⟨bo_qr, hbo⟩ : ∃ b, v11.heap.size = b := ⟨_, rfl⟩
         have hne_qr_pr : prb ≠ bo_qr := by have := Hpr.out.lt; omega
         have hle_qr : w.heap.size ≤ bo_qr := by rw [← hbo]; exact HW.out.bel.size
         have HN := HW.out.alloc (.cells #[.int .i64 0, .int .i64 0, .slice none 0 0] 33)
         have hbx0 := Block.new v11 33 #[.int .i64 0, .int .i64 0, .slice none 0 0]
         rw [hbo] at hbx0
         obtain ⟨v11y, hvv11y⟩ : ∃ v, v11.alloc (.cells #[.int .i64 0, .int .i64 0, .slice none 0 0] 33) = v := ⟨_, rfl⟩
         rw [hvv11y] at HN hbx0
         have Hpr := Lib.hid (show Block v11y _ _ _ by rw [← hvv11y]; exact Hpr.out.alloc _)
         have HW := Lib.hid HN
         clear HN
         go_simp
         have Hqr := Lib.hid hbx0
         clear hbx0 hbo hvv11y
         have hS5 : S v11y := hSi _ (HW.out.bx ⟨w.heap.size, Ra, Ca, A, n1, c1⟩ (by simp)) (HW.out.bx ⟨w.heap.size + 1, Rb, Cb, B, n2, c2⟩ (by simp))
         refine ⟨hS5, ?_⟩
         refine wpAnyH_one (i := 9) (by kernel_rfl) rfl (by kernel_rfl) ?_
         have f0 := Hqr.out.frozen 0
         have f1 := Hqr.out.frozen 1
         have f2 := Hqr.out.frozen 2
         obtain ⟨y0, y1, y2⟩ := cells3 Hqr.out
         obtain ⟨v11yp, hvv11yp, HN, HB, hkeep⟩ := HW.out.putR Hqr.out (by simp) (by simp) (by simp) hle_qr (.int .i64 rr2) (.int .i64 cc2) (.slice A10 N2 d10)
         have Hpr := Lib.hid (hkeep _ _ _ hne_qr_pr Hpr.out)
         have Hqr := Lib.hid HB
         clear HB hkeep
         have HW := Lib.hid HN
         clear HN
         go_simp
         clear f0 f1 f2 y0 y1 y2 hvv11yp
         have hS6 : S v11yp := hSi _ (HW.out.bx ⟨w.heap.size, Ra, Ca, A, n1, c1⟩ (by simp)) (HW.out.bx ⟨w.heap.size + 1, Rb, Cb, B, n2, c2⟩ (by simp))
         refine ⟨hS6, ?_⟩
         refine wpAnyH_takeD (i := 10) (some 15) (.int .i64 k2) rfl rfl (by kernel_rfl) (by kernel_rfl) (by kernel_rfl) (fun _ _ _ h => by cases h.1) (Or.inl ⟨by kernel_rfl, fun W hW => by go_simp⟩) hS6 ?_
         simp only [Act.put, List.setIfInBounds_toArray, List.set_cons_zero, List.set_cons_succ]
         refine wpAnyH_done (by kernel_rfl) ?_ _
         exact ⟨rfl, bo_qr, A10, d10, rfl, hd10, HW.out.subx (by simp), Hqr.out, Hpr.out⟩
        ·skip
         obtain ⟨bo_qr, hbo⟩ : ∃ b, v10.heap.size = b := ⟨_, rfl⟩
         have hne_qr_pr : prb ≠ bo_qr := by have := Hpr.out.lt; omega
         have hle_qr : w.heap.size ≤ bo_qr := by rw [← hbo]; exact HW.out.bel.size
         have HN := HW.out.alloc (.cells #[.int .i64 0, .int .i64 0, .slice none 0 0] 33)
         have hbx0 := Block.new v10 33 #[.int .i64 0, .int .i64 0, .slice none 0 0]
         rw [hbo] at hbx0
         obtain ⟨v10y, hvv10y⟩ : ∃ v, v10.alloc (.cells #[.int .i64 0, .int .i64 0, .slice none 0 0] 33) = v := ⟨_, rfl⟩
         rw [hvv10y] at HN hbx0
         have Hpr := Lib.hid (show Block v10y _ _ _ by rw [← hvv10y]; exact Hpr.out.alloc _)
         have HW := Lib.hid HN
         clear HN
         go_simp
         have Hqr := Lib.hid hbx0
         clear hbx0 hbo hvv10y
         have hS4 : S v10y := hSi _ (HW.out.bx ⟨w.heap.size, Ra, Ca, A, n1, c1⟩ (by simp)) (HW.out.bx ⟨w.heap.size + 1, Rb, Cb, B, n2, c2⟩ (by simp))
         refine ⟨hS4, ?_⟩
         refine wpAnyH_one (i := 4) (by kernel_rfl) rfl (by kernel_rfl) ?_
         go_simp
         refine (refSolIsW HW.out Ra Ca Rb Cb n1 n2 N2 c1 c2 rr2 cc2 A B s t u2 k2 (by simp) (by simp) hc1 hc2 HL1.out HL2.out HNu2.out HSI.out).mono ?_
         rintro e v11 ⟨⟨A10, d10, rfl, hd10, HN⟩, HLv⟩
         have Hpr := Lib.hid (HLv _ _ _ (by decide) Hpr.out)
         have Hqr := Lib.hid (HLv _ _ _ (by decide) Hqr.out)
         have HW := Lib.hid HN
         clear HN HLv
         have hS5 : S v11 := hSi _ (HW.out.bx ⟨w.heap.size, Ra, Ca, A, n1, c1⟩ (by simp)) (HW.out.bx ⟨w.heap.size + 1, Rb, Cb, B, n2, c2⟩ (by simp))
         show S v11 ∧ _
         refine ⟨hS5, ?_⟩
         refine wpAnyH_takeD (i := 5) (some 52) (.tuple #[.agg #[.int .i64 rr2, .int .i64 cc2, .slice A10 N2 d10], .int .i64 k2]) rfl rfl (by kernel_rfl) (by kernel_rfl) (by kernel_rfl) (fun _ _ _ h => by cases h.1) (Or.inl ⟨by kernel_rfl, fun W hW => by go_simp⟩) hS5 ?_
         simp only [Act.put, List.setIfInBounds_toArray, List.set_cons_zero, List.set_cons_succ]
         refine wpAnyH_takeD (i := 6) (some 58) (.agg #[.int .i64 rr2, .int .i64 cc2, .slice A10 N2 d10]) rfl rfl (by kernel_rfl) (by kernel_rfl) (by kernel_rfl) (fun _ _ _ h => by cases h.1) (Or.inl ⟨by kernel_rfl, fun W hW => by go_simp⟩) hS5 ?_
         simp only [Act.put, List.setIfInBounds_toArray, List.set_cons_zero, List.set_cons_succ]
         refine wpAnyH_takeD (i := 7) (some 59) (.int .i64 k2) rfl rfl (by kernel_rfl) (by kernel_rfl) (by kernel_rfl) (fun _ _ _ h => by cases h.1) (Or.inl ⟨by kernel_rfl, fun W hW => by go_simp⟩) hS5 ?_
         simp only [Act.put, List.setIfInBounds_toArray, List.set_cons_zero, List.set_cons_succ]
         refine wpAnyH_one (i := 9) (by kernel_rfl) rfl (by kernel_rfl) ?_
         have f0 := Hqr.out.frozen 0
         have f1 := Hqr.out.frozen 1
         have f2 := Hqr.out.frozen 2
         obtain ⟨y0, y1, y2⟩ := cells3 Hqr.out
         obtain ⟨v11p, hvv11p, HN, HB, hkeep⟩ := HW.out.putR Hqr.out (by simp) (by simp) (by simp) hle_qr (.int .i64 rr2) (.int .i64 cc2) (.slice A10 N2 d10)
         have Hpr := Lib.hid (hkeep _ _ _ hne_qr_pr Hpr.out)
         have Hqr := Lib.hid HB
         clear HB hkeep
         have HW := Lib.hid HN
         clear HN
         go_simp
         clear f0 f1 f2 y0 y1 y2 hvv11p
         have hS6 : S v11p := hSi _ (HW.out.bx ⟨w.heap.size, Ra, Ca, A, n1, c1⟩ (by simp)) (HW.out.bx ⟨w.heap.size + 1, Rb, Cb, B, n2, c2⟩ (by simp))
         refine ⟨hS6, ?_⟩
         refine wpAnyH_takeD (i := 10) (some 15) (.int .i64 k2) rfl rfl (by kernel_rfl) (by kernel_rfl) (by kernel_rfl) (fun _ _ _ h => by cases h.1) (Or.inl ⟨by kernel_rfl, fun W hW => by go_simp⟩) hS6 ?_
         simp only [Act.put, List.setIfInBounds_toArray, List.set_cons_zero, List.set_cons_succ]
         refine wpAnyH_done (by kernel_rfl) ?_ _
         exact ⟨rfl, bo_qr, A10, d10, rfl, hd10, HW.out.subx (by simp), Hqr.out, Hpr.out⟩
       ·skip
        obtain ⟨bo_qr, hbo⟩ : ∃ b, v9.heap.size = b := ⟨_, rfl⟩
        have hne_qr_pr : prb ≠ bo_qr := by have := Hpr.out.lt; omega
        have hle_qr : w.heap.size ≤ bo_qr := by rw [← hbo]; exact HW.out.bel.size
        have HN := HW.out.alloc (.cells #[.int .i64 0, .int .i64 0, .slice none 0 0] 33)
        have hbx0 := Block.new v9 33 #[.int .i64 0, .int .i64 0, .slice none 0 0]
        rw [hbo] at hbx0
        obtain ⟨v9y, hvv9y⟩ : ∃ v, v9.alloc (.cells #[.int .i64 0, .int .i64 0, .slice none 0 0] 33) = v := ⟨_, rfl⟩
        rw [hvv9y] at HN hbx0
        have Hpr := Lib.hid (show Block v9y _ _ _ by rw [← hvv9y]; exact Hpr.out.alloc _)
        have HW := Lib.hid HN
        clear HN
        go_simp
        have Hqr := Lib.hid hbx0
        clear hbx0 hbo hvv9y
        have hS3 : S v9y := hSi _ (HW.out.bx ⟨w.heap.size, Ra, Ca, A, n1, c1⟩ (by simp)) (HW.out.bx ⟨w.heap.size + 1, Rb, Cb, B, n2, c2⟩ (by simp))
        refine ⟨hS3, ?_⟩
        refine wpAnyH_one (i := 3) (by kernel_rfl) rfl (by kernel_rfl) ?_
        go_simp
        refine (plainW HW.out Rb Cb B n2 c2).mono ?_
        rintro e v10 ⟨rfl, HN, HLv⟩
        have Hpr := Lib.hid (HLv _ _ _ (by decide) Hpr.out)
        have Hqr := Lib.hid (HLv _ _ _ (by decide) Hqr.out)
        have HW := Lib.hid HN
        clear HN HLv
        have hS4 : S v10 := hSi _ (HW.out.bx ⟨w.heap.size, Ra, Ca, A, n1, c1⟩ (by simp)) (HW.out.bx ⟨w.heap.size + 1, Rb, Cb, B, n2, c2⟩ (by simp))
        show S v10 ∧ _
        refine ⟨hS4, ?_⟩
        refine wpAnyH_one (i := 4) (by kernel_rfl) rfl (by kernel_rfl) ?_
        go_simp
        refine (refSolIsW HW.out Ra Ca Rb Cb n1 n2 N2 c1 c2 rr2 cc2 A B s t u2 k2 (by simp) (by simp) hc1 hc2 HL1.out HL2.out HNu2.out HSI.out).mono ?_
        rintro e v11 ⟨⟨A10, d10, rfl, hd10, HN⟩, HLv⟩
        have Hpr := Lib.hid (HLv _ _ _ (by decide) Hpr.out)
        have Hqr := Lib.hid (HLv _ _ _ (by decide) Hqr.out)
        have HW := Lib.hid HN
        clear HN HLv
        have hS5 : S v11 := hSi _ (HW.out.bx ⟨w.heap.size, Ra, Ca, A, n1, c1⟩ (by simp)) (HW.out.bx ⟨w.heap.size + 1, Rb, Cb, B, n2, c2⟩ (by simp))
        show S v11 ∧ _
        refine ⟨hS5, ?_⟩
        refine wpAnyH_takeD (i := 5) (some 52) (.tuple #[.agg #[.int .i64 rr2, .int .i64 cc2, .slice A10 N2 d10], .int .i64 k2]) rfl rfl (by kernel_rfl) (by kernel_rfl) (by kernel_rfl) (fun _ _ _ h => by cases h.1) (Or.inl ⟨by kernel_rfl, fun W hW => by go_simp⟩) hS5 ?_
        simp only [Act.put, List.setIfInBounds_toArray, List.set_cons_zero, List.set_cons_succ]
        refine wpAnyH_takeD (i := 6) (some 58) (.agg #[.int .i64 rr2, .int .i64 cc2, .slice A10 N2 d10]) rfl rfl (by kernel_rfl) (by kernel_rfl) (by kernel_rfl) (fun _ _ _ h => by cases h.1) (Or.inl ⟨by kernel_rfl, fun W hW => by go_simp⟩) hS5 ?_
        simp only [Act.put, List.setIfInBounds_toArray, List.set_cons_zero, List.set_cons_succ]
        refine wpAnyH_takeD (i := 7) (some 59) (.int .i64 k2) rfl rfl (by kernel_rfl) (by kernel_rfl) (by kernel_rfl) (fun _ _ _ h => by cases h.1) (Or.inl ⟨by kernel_rfl, fun W hW => by go_simp⟩) hS5 ?_
        simp only [Act.put, List.setIfInBounds_toArray, List.set_cons_zero, List.set_cons_succ]
        refine wpAnyH_one (i := 9) (by kernel_rfl) rfl (by kernel_rfl) ?_
        have f0 := Hqr.out.frozen 0
        have f1 := Hqr.out.frozen 1
        have f2 := Hqr.out.frozen 2
        obtain ⟨y0, y1, y2⟩ := cells3 Hqr.out
        obtain ⟨v11p, hvv11p, HN, HB, hkeep⟩ := HW.out.putR Hqr.out (by simp) (by simp) (by simp) hle_qr (.int .i64 rr2) (.int .i64 cc2) (.slice A10 N2 d10)
        have Hpr := Lib.hid (hkeep _ _ _ hne_qr_pr Hpr.out)
        have Hqr := Lib.hid HB
        clear HB hkeep
        have HW := Lib.hid HN
        clear HN
        go_simp
        clear f0 f1 f2 y0 y1 y2 hvv11p
        have hS6 : S v11p := hSi _ (HW.out.bx ⟨w.heap.size, Ra, Ca, A, n1, c1⟩ (by simp)) (HW.out.bx ⟨w.heap.size + 1, Rb, Cb, B, n2, c2⟩ (by simp))
        refine ⟨hS6, ?_⟩
        refine wpAnyH_takeD (i := 10) (some 15) (.int .i64 k2) rfl rfl (by kernel_rfl) (by kernel_rfl) (by kernel_rfl) (fun _ _ _ h => by cases h.1) (Or.inl ⟨by kernel_rfl, fun W hW => by go_simp⟩) hS6 ?_
        simp only [Act.put, List.setIfInBounds_toArray, List.set_cons_zero, List.set_cons_succ]
        refine wpAnyH_done (by kernel_rfl) ?_ _
        exact ⟨rfl, bo_qr, A10, d10, rfl, hd10, HW.out.subx (by simp), Hqr.out, Hpr.out⟩
      ·skip
       obtain ⟨bo_qr, hbo⟩ : ∃ b, v8x.drew.heap.size = b := ⟨_, rfl⟩
       have hne_qr_pr : prb ≠ bo_qr := by have := Hpr.out.lt; omega
       have hle_qr : w.heap.size ≤ bo_qr := by rw [← hbo]; exact HW.out.bel.size
       have HN := HW.out.alloc (.cells #[.int .i64 0, .int .i64 0, .slice none 0 0] 33)
       have hbx0 := Block.new v8x.drew 33 #[.int .i64 0, .int .i64 0, .slice none 0 0]
       rw [hbo] at hbx0
       obtain ⟨v8xdy, hvv8xdy⟩ : ∃ v, v8x.drew.alloc (.cells #[.int .i64 0, .int .i64 0, .slice none 0 0] 33) = v := ⟨_, rfl⟩
       rw [hvv8xdy] at HN hbx0
       have Hpr := Lib.hid (show Block v8xdy _ _ _ by rw [← hvv8xdy]; exact Hpr.out.alloc _)
       have HW := Lib.hid HN
       clear HN
       go_simp
       have Hqr := Lib.hid hbx0
       clear hbx0 hbo hvv8xdy
       have hS2 : S v8xdy := hSi _ (HW.out.bx ⟨w.heap.size, Ra, Ca, A, n1, c1⟩ (by simp)) (HW.out.bx ⟨w.heap.size + 1, Rb, Cb, B, n2, c2⟩ (by simp))
       refine ⟨hS2, ?_⟩
       refine wpAnyH_one (i := 1) (by kernel_rfl) rfl (by kernel_rfl) ?_
       go_simp
       refine (plainW HW.out Ra Ca A n1 c1).mono ?_
       rintro e v9 ⟨rfl, HN, HLv⟩
       have Hpr := Lib.hid (HLv _ _ _ (by decide) Hpr.out)
       have Hqr := Lib.hid (HLv _ _ _ (by decide) Hqr.out)
       have HW := Lib.hid HN
       clear HN HLv
       have hS3 : S v9 := hSi _ (HW.out.bx ⟨w.heap.size, Ra, Ca, A, n1, c1⟩ (by simp)) (HW.out.bx ⟨w.heap.size + 1, Rb, Cb, B, n2, c2⟩ (by simp))
       show S v9 ∧ _
       refine ⟨hS3, ?_⟩
       refine wpAnyH_one (i := 3) (by kernel_rfl) rfl (by kernel_rfl) ?_
       go_simp
       refine (plainW HW.out Rb Cb B n2 c2).mono ?_
       rintro e v10 ⟨rfl, HN, HLv⟩
       have Hpr := Lib.hid (HLv _ _ _ (by decide) Hpr.out)
       have Hqr := Lib.hid (HLv _ _ _ (by decide) Hqr.out)
       have HW := Lib.hid HN
       clear HN HLv
       have hS4 : S v10 := hSi _ (HW.out.bx ⟨w.heap.size, Ra, Ca, A, n1, c1⟩ (by simp)) (HW.out.bx ⟨w.heap.size + 1, Rb, Cb, B, n2, c2⟩ (by simp))
       show S v10 ∧ _
       refine ⟨hS4, ?_⟩
       refine wpAnyH_one (i := 4) (by kernel_rfl) rfl (by kernel_rfl) ?_
       go_simp
       refine (refSolIsW HW.out Ra Ca Rb Cb n1 n2 N2 c1 c2 rr2 cc2 A B s t u2 k2 (by simp) (by simp) hc1 hc2 HL1.out HL2.out HNu2.out HSI.out).mono ?_
       rintro e v11 ⟨⟨A10, d10, rfl, hd10, HN⟩, HLv⟩
       have Hpr := Lib.hid (HLv _ _ _ (by decide) Hpr.out)
       have Hqr := Lib.hid (HLv _ _ _ (by decide) Hqr.out)
       have HW := Lib.hid HN
       clear HN HLv
       have hS5 : S v11 := hSi _ (HW.out.bx ⟨w.heap.size, Ra, Ca, A, n1, c1⟩ (by simp)) (HW.out.bx ⟨w.heap.size + 1, Rb, Cb, B, n2, c2⟩ (by simp))
       show S v11 ∧ _
       refine ⟨hS5, ?_⟩
       refine wpAnyH_takeD (i := 5) (some 52) (.tuple #[.agg #[.int .i64 rr2, .int .i64 cc2, .slice A10 N2 d10], .int .i64 k2]) rfl rfl (by kernel_rfl) (by kernel_rfl) (by kernel_rfl) (fun _ _ _ h => by cases h.1) (Or.inl ⟨by kernel_rfl, fun W hW => by go_simp⟩) hS5 ?_
       simp only [Act.put, List.setIfInBounds_toArray, List.set_cons_zero, List.set_cons_succ]
       refine wpAnyH_takeD (i := 6) (some 58) (.agg #[.int .i64 rr2, .int .i64 cc2, .slice A10 N2 d10]) rfl rfl (by kernel_rfl) (by kernel_rfl) (by kernel_rfl) (fun _ _ _ h => by cases h.1) (Or.inl ⟨by kernel_rfl, fun W hW => by go_simp⟩) hS5 ?_
       simp only [Act.put, List.setIfInBounds_toArray, List.set_cons_zero, List.set_cons_succ]
       refine wpAnyH_takeD (i := 7) (some 59) (.int .i64 k2) rfl rfl (by kernel_rfl) (by kernel_rfl) (by kernel_rfl) (fun _ _ _ h => by cases h.1) (Or.inl ⟨by kernel_rfl, fun W hW => by go_simp⟩) hS5 ?_
       simp only [Act.put, List.setIfInBounds_toArray, List.set_cons_zero, List.set_cons_succ]
       refine wpAnyH_one (i := 9) (by kernel_rfl) rfl (by kernel_rfl) ?_
       have f0 := Hqr.out.frozen 0
       have f1 := Hqr.out.frozen 1
       have f2 := Hqr.out.frozen 2
       obtain ⟨y0, y1, y2⟩ := cells3 Hqr.out
       obtain ⟨v11p, hvv11p, HN, HB, hkeep⟩ := HW.out.putR Hqr.out (by simp) (by simp) (by simp) hle_qr (.int .i64 rr2) (.int .i64 cc2) (.slice A10 N2 d10)
       have Hpr := Lib.hid (hkeep _ _ _ hne_qr_pr Hpr.out)
       have Hqr := Lib.hid HB
       clear HB hkeep
       have HW := Lib.hid HN
       clear HN
       go_simp
       clear f0 f1 f2 y0 y1 y2 hvv11p
       have hS6 : S v11p := hSi _ (HW.out.bx ⟨w.heap.size, Ra, Ca, A, n1, c1⟩ (by simp)) (HW.out.bx ⟨w.heap.size + 1, Rb, Cb, B, n2, c2⟩ (by simp))
       refine ⟨hS6, ?_⟩
       refine wpAnyH_takeD (i := 10) (some 15) (.int .i64 k2) rfl rfl (by kernel_rfl) (by kernel_rfl) (by kernel_rfl) (fun _ _ _ h => by cases h.1) (Or.inl ⟨by kernel_rfl, fun W hW => by go_simp⟩) hS6 ?_
       simp only [Act.put, List.setIfInBounds_toArray, List.set_cons_zero, List.set_cons_succ]
       refine wpAnyH_done (by kernel_rfl) ?_ _
       exact ⟨rfl, bo_qr, A10, d10, rfl, hd10, HW.out.subx (by simp), Hqr.out, Hpr.out⟩
     case hK =>
      rintro ⟨qrb, A10, d10⟩ v9 ⟨hd10, HN, HB, HBpr⟩
      simp only [List.setIfInBounds_toArray, List.set_cons_zero, List.set_cons_succ] at hd10 HN HB HBpr ⊢
      have HW := Lib.hid HN
      clear HN
      have Hqr := Lib.hid HB
      clear HB
      have Hpr := Lib.hid HBpr
      clear HBpr
      obtain ⟨qp0, qp1, qp2⟩ := HW.out.at_ (b := pb) (R := rr) (C := cc) (A := A7) (n := N) (c := d7) (by simp)
      obtain ⟨qq0, qq1, qq2⟩ := HW.out.at_ (b := qb) (R := rr2) (C := cc2) (A := A9) (n := N2) (c := d9) (by simp)
      obtain ⟨qx0, qx1, qx2⟩ := HW.out.at_ (b := xb) (R := Ra) (C := Ca) (A := A5) (n := n1) (c := d5) (by simp)
      obtain ⟨qy0, qy1, qy2⟩ := HW.out.at_ (b := yb) (R := Rb) (C := Cb) (A := A6) (n := n2) (c := d6) (by simp)
      obtain ⟨qa0, qa1, qa2⟩ := HW.out.at_ (b := w.heap.size) (R := Ra) (C := Ca) (A := A) (n := n1) (c := c1) (by simp)
      obtain ⟨qb0, qb1, qb2⟩ := HW.out.at_ (b := w.heap.size + 1) (R := Rb) (C := Cb) (A := B) (n := n2) (c := c2) (by simp)
      obtain ⟨qpr0, qpr1, qpr2⟩ := cells3 Hpr.out
      obtain ⟨qqr0, qqr1, qqr2⟩ := cells3 Hqr.out
      have Xqp0 := cell_regrown qp0
      have Xqp1 := cell_regrown qp1
      have Xqp2 := cell_regrown qp2
      have Xqq0 := cell_regrown qq0
      have Xqq1 := cell_regrown qq1
      have Xqq2 := cell_regrown qq2
      have Xqx0 := cell_regrown qx0
      have Xqx1 := cell_regrown qx1
      have Xqx2 := cell_regrown qx2
      have Xqy0 := cell_regrown qy0
      have Xqy1 := cell_regrown qy1
      have Xqy2 := cell_regrown qy2
      have Xqa0 := cell_regrown qa0
      have Xqa1 := cell_regrown qa1
      have Xqa2 := cell_regrown qa2
      have Xqb0 := cell_regrown qb0
      have Xqb1 := cell_regrown qb1
      have Xqb2 := cell_regrown qb2
      have Xqpr0 := cell_regrown qpr0
      have Xqpr1 := cell_regrown qpr1
      have Xqpr2 := cell_regrown qpr2
      have Xqqr0 := cell_regrown qqr0
      have Xqqr1 := cell_regrown qqr1
      have Xqqr2 := cell_regrown qqr2
      clear qp0 qp1 qp2 qq0 qq1 qq2 qx0 qx1 qx2 qy0 qy1 qy2 qa0 qa1 qa2 qb0 qb1 qb2 qpr0 qpr1 qpr2 qqr0 qqr1 qqr2
      obtain ⟨sb, hsb⟩ : ∃ b, SameB Ra Ca Rb Cb s t = b := ⟨_, rfl⟩
      obtain ⟨wl, hwl⟩ : ∃ V, v9 = V := ⟨_, rfl⟩
      have k1 : ∀ V, Below wl.heap.size wl V → Calls Try.prog 48 #[.agg #[.int .i64 rr, .int .i64 cc, .slice A7 N d7], .agg #[.int .i64 rr, .int .i64 cc, .slice A8 N d8]] V fun e w' => e = .returned (.bool true) ∧ Below V.heap.size V w' := fun V hV => by
       have h := lsame_calls rr cc rr cc A7 A8 u u N N d7 d8 V HNu.out HNu.out ((HW.out.bytes (A := A7) (p := u) (by simp)).below (hwl ▸ hV)) ((HW.out.bytes (A := A8) (p := u) (by simp)).below (hwl ▸ hV))
       rw [sameB_refl] at h
       exact h
      have k3 : ∀ V, Below wl.heap.size wl V → Calls Try.prog 48 #[.agg #[.int .i64 rr2, .int .i64 cc2, .slice A9 N2 d9], .agg #[.int .i64 rr2, .int .i64 cc2, .slice A10 N2 d10]] V fun e w' => e = .returned (.bool true) ∧ Below V.heap.size V w' := fun V hV => by
       have h := lsame_calls rr2 cc2 rr2 cc2 A9 A10 u2 u2 N2 N2 d9 d10 V HNu2.out HNu2.out ((HW.out.bytes (A := A9) (p := u2) (by simp)).below (hwl ▸ hV)) ((HW.out.bytes (A := A10) (p := u2) (by simp)).below (hwl ▸ hV))
       rw [sameB_refl] at h
       exact h
      have k4 : ∀ V, Below wl.heap.size wl V → Calls Try.prog 53 #[.agg #[.int .i64 Ra, .int .i64 Ca, .slice A5 n1 d5], .agg #[.int .i64 Ra, .int .i64 Ca, .slice A n1 c1]] V fun e w' => e = .returned (.bool true) ∧ Below V.heap.size V w' := fun V hV => by
       have h := msame_calls Ra Ca Ra Ca A5 A s s n1 n1 d5 c1 V HL1.out HL1.out ((HW.out.bytes (A := A5) (p := s) (by simp)).below (hwl ▸ hV)) ((HW.out.bytes (A := A) (p := s) (by simp)).below (hwl ▸ hV))
       rw [sameB_refl] at h
       exact h
      have k5 : ∀ V, Below wl.heap.size wl V → Calls Try.prog 53 #[.agg #[.int .i64 Rb, .int .i64 Cb, .slice A6 n2 d6], .agg #[.int .i64 Rb, .int .i64 Cb, .slice B n2 c2]] V fun e w' => e = .returned (.bool true) ∧ Below V.heap.size V w' := fun V hV => by
       have h := msame_calls Rb Cb Rb Cb A6 B t t n2 n2 d6 c2 V HL2.out HL2.out ((HW.out.bytes (A := A6) (p := t) (by simp)).below (hwl ▸ hV)) ((HW.out.bytes (A := B) (p := t) (by simp)).below (hwl ▸ hV))
       rw [sameB_refl] at h
       exact h
      have k6 : ∀ V, Below wl.heap.size wl V → Calls Try.prog 53 #[.agg #[.int .i64 Ra, .int .i64 Ca, .slice A n1 c1], .agg #[.int .i64 Rb, .int .i64 Cb, .slice B n2 c2]] V fun e w' => e = .returned (.bool sb) ∧ Below V.heap.size V w' := fun V hV => by
       have h := msame_calls Ra Ca Rb Cb A B s t n1 n2 c1 c2 V HL1.out HL2.out ((HW.out.bytes (A := A) (p := s) (by simp)).below (hwl ▸ hV)) ((HW.out.bytes (A := B) (p := t) (by simp)).below (hwl ▸ hV))
       rw [hsb] at h
       exact h
      have k7 : ∀ V, Below wl.heap.size wl V → Calls Try.prog 58 #[.agg #[.int .i64 Ra, .int .i64 Ca, .slice A n1 c1], .agg #[.int .i64 Rb, .int .i64 Cb, .slice B n2 c2]] V fun e w' => e = .returned (.bool sb) ∧ Below V.heap.size V w' := fun V hV => by
       have h := refSame_calls Ra Ca Rb Cb A B s t n1 n2 c1 c2 V HL1.out HL2.out ((HW.out.bytes (A := A) (p := s) (by simp)).below (hwl ▸ hV)) ((HW.out.bytes (A := B) (p := t) (by simp)).below (hwl ▸ hV))
       rw [hsb] at h
       exact h
      have HBel := Lib.hid HW.out.bel
      go_wp2_with fail
      refine wp_region_quiet_below (by kernel_rfl) (by kernel_rfl) ?_
      subst hwl
      repeat (go_big_quiet_step (first
       | (go_at_call 48; (with_reducible exact Calls.regrown_of (k1 _ (below_regrown _ _ _))))
       | (go_at_call 48; (with_reducible exact Calls.regrown_of (k3 _ (below_regrown _ _ _))))
       | (go_at_call 53; (with_reducible exact Calls.regrown_of (k4 _ (below_regrown _ _ _))))
       | (go_at_call 53; (with_reducible exact Calls.regrown_of (k5 _ (below_regrown _ _ _))))
       | (go_at_call 53; (with_reducible exact Calls.regrown_of (k6 _ (below_regrown _ _ _))))
       | (go_at_call 58; (with_reducible exact Calls.regrown_of (k7 _ (below_regrown _ _ _))))
       | (go_at_call 21; (with_reducible exact Calls.regrown_of (plain_calls _ _ _ _ _ _)))
       | (go_at_call 23; (with_reducible exact Calls.regrown_of (works_calls _)))))
      refine wpQuiet_nil ?_
      intro _ hw'
      obtain ⟨⟨dq, osq⟩, hw''⟩ := hw'
      subst hw''
      have HZ := (HW.out.below (below_regrown _ dq osq)).bel
      dsimp only
      generalize Sort.grow (redrawn _ dq) osq = wq at *
      go_wp2
      go_ret
      exact ⟨rfl, HZ⟩
theorem walk (w : World) (R0 C0 : Int) (A0 : Option Addr) (l0 : List Nat) (c0 : Nat) (_hR0 : -9223372036854775808 ≤ R0 ∧ R0 < 9223372036854775808) (_hC0 : -9223372036854775808 ≤ C0 ∧ C0 < 9223372036854775808) (hb0 : Bytes w A0 l0) (hc0 : l0.length ≤ c0) (_hm0 : c0 ≤ 9223372036854775807) (R1 C1 : Int) (A1 : Option Addr) (l1 : List Nat) (c1 : Nat) (_hR1 : -9223372036854775808 ≤ R1 ∧ R1 < 9223372036854775808) (_hC1 : -9223372036854775808 ≤ C1 ∧ C1 < 9223372036854775808) (hb1 : Bytes w A1 l1) (hc1 : l1.length ≤ c1) (_hm1 : c1 ≤ 9223372036854775807) :
  Calls Try.prog 13 #[.agg #[.int .i64 R0, .int .i64 C0, .slice A0 l0.length c0], .agg #[.int .i64 R1, .int .i64 C1, .slice A1 l1.length c1]] w fun e w' => e = .returned (.bool true) ∧ Below w.heap.size w w' := by
 obtain ⟨p0, rfl⟩ := of_bytes l0 hb0.lt
 obtain ⟨p1, rfl⟩ := of_bytes l1 hb1.lt
 exact core w R0 C0 A0 p0 _ c0 (bs_length p0).symm hb0 hc0 R1 C1 A1 p1 _ c1 (bs_length p1).symm hb1 hc1
end Go.Proofs.Ytjpbdbgihakpmaa.matrixTwo
