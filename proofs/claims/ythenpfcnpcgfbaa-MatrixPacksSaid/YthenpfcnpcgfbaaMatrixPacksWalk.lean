/- The walk of MatrixPacks. -/
import Derived.Test.YthenpfcnpcgfbaaMatSt2
import Derived.Deep.RegionWith
import Derived.BigQuiet
namespace Go.Proofs.Ythenpfcnpcgfbaa.matrixPacks
open Go.RowKit F8 GF Poly Mat
attribute [local go_sem] Oper.semAt_some

set_option maxRecDepth 100000 in
set_option maxHeartbeats 8000000 in
theorem core (w : World) (A : Option Addr) (b : List F8) (m c : Nat) (hl : b.length = m) (hb : Bytes w A (bs b)) (hc : m ≤ c) (hm9 : m ≤ 9223372036854775807)
    (Rb Cb : Int) (B : Option Addr) (t : List F8) (n2 c2 : Nat) (hl2 : t.length = n2) (hb2 : Bytes w B (bs t)) (hc2 : n2 ≤ c2) :
    Calls Try.prog 9 #[.slice A m c, .agg #[.int .i64 Rb, .int .i64 Cb, .slice B n2 c2]] w fun e w' => e = .returned (.bool true) ∧ Below w.heap.size w w' := by
  obtain ⟨wa, hwa, HQ⟩ := st1 w Rb Cb B n2 c2
  have HL := Lib.hid hl
  have HB := Lib.hid hb
  have HL2 := Lib.hid hl2
  have HB2 := Lib.hid hb2
  obtain ⟨b2, HS2⟩ : ∃ x, Hid (smallB Rb Cb n2 8 = x) := ⟨_, Lib.hid rfl⟩
  obtain ⟨x0, x1, x2⟩ := HQ.at_ (b := w.heap.size) (R := Rb) (C := Cb) (A := B) (n := n2) (c := c2) (by simp)
  clear hl hb hl2 hb2
  by_cases h55 : 55 < m
  · go_enter Try.func9, Try.ntmps9
    go_wp2_with (go_at_call 12; (with_reducible refine (works_calls _).mono ?_); rintro e wz ⟨rfl, HZ⟩)
    go_ret
    exact ⟨rfl, (HQ.below HZ).bel⟩
  have hm55 : m ≤ 55 := by omega
  clear h55
  go_enter Try.func9, Try.ntmps9
  go_wp2_with fail
  clear hwa x0 x1 x2
  refine (small8 Rb Cb B n2 c2 _).mono ?_
  rintro e w1 ⟨rfl, hB⟩
  have HQ1 := HQ.below hB
  clear hB HQ
  rw [HS2.out]
  cases b2
  case false =>
    go_wp2_with (go_at_call 12; (with_reducible refine (works_calls _).mono ?_); rintro e wz ⟨rfl, HZ⟩)
    go_ret
    exact ⟨rfl, (HQ1.below HZ).bel⟩
  have HW := Lib.hid (((V.start HQ1).arg HB2.out).arg HB.out)
  clear HQ1
  go_wp2_with fail
  go_loopw [5] (fun i wr => ∃ k : Nat, k ≤ 11 ∧ i = .int .i64 k ∧ Hid (V w [(A, b), (B, t)] [⟨w.heap.size, Rb, Cb, B, n2, c2⟩] wr)) (fun i _ => 11 - (intOf i).toNat)
  case atStart => exact ⟨0, by omega, rfl, HW⟩
  case round =>
    clear HW
    obtain ⟨k, hk, rfl, HW⟩ := hrel
    by_cases hk10 : k < 11
    · have hkd : decide ((k : Int) ≤ 10) = true := by simp; omega
      have htt := tri_two k
      have hkk : k * (k + 1) ≤ 10 * 11 := mul_bound (by omega) (by omega)
      obtain ⟨T, hT⟩ : ∃ T, tri k = T := ⟨_, rfl⟩
      rw [hT] at htt
      have hw1 : IntKind.i64.wrap ((k : Int) * ((k : Int) + 1)) = ((2 * T : Nat) : Int) := by
        have e : ((k : Int) * ((k : Int) + 1)) = ((2 * T : Nat) : Int) := by rw [htt]; push_cast; rfl
        rw [e]; exact IntWalk.i64_in _ (by omega)
      have hw2 : Int.tdiv ((2 * T : Nat) : Int) 2 = (T : Int) := by
        rw [Int.tdiv_eq_ediv_of_nonneg (by omega)]; omega
      have hTb : T ≤ 55 := by omega
      have hint : ((k : Int) * ((k : Int) + 1)) = ((2 * T : Nat) : Int) := by rw [htt]; push_cast; rfl
      by_cases hmT : ¬ m = T
      · have hmt : ((m : Int) == (T : Int)) = false := by simp; omega
        have HX : Hid (¬ (0 ≤ (k : Int) ∧ (k : Int) ≤ 65536 ∧ (2 * m : Int) = (k : Int) * ((k : Int) + 1))) := Lib.hid (by rintro ⟨_, _, h⟩; rw [hint] at h; omega)
        clear hT htt hkk hint hmT
        go_wp2_with fail
        refine (symmV_bad HW.out k A m c HX.out).mono ?_
        rintro e w3 ⟨A1, d1, rfl, -, HN⟩
        obtain ⟨v3, hv3, -, HN⟩ := HN.var 0 0 A1 0 d1
        have HW := Lib.hid (HN.sub (ls' := [(A, b), (B, t)]) (bx' := [⟨w.heap.size, Rb, Cb, B, n2, c2⟩]) (by simp) (by simp))
        clear HN
        go_wp2
        go_roundw
        case rel => exact ⟨k + 1, by omega, by go_num, HW⟩
        case measure => simp [intOf]; omega
      · have hmT := Classical.not_not.1 hmT
        have hmt : ((m : Int) == (T : Int)) = true := by simp; omega
        have HM : Hid (m = tri k) := Lib.hid (by rw [hT, hmT])
        have hbl : b.length = tri k := by rw [HL.out, HM.out]
        obtain ⟨s, hs⟩ : ∃ z, flat k k (symF b k) = z := ⟨_, rfl⟩
        obtain ⟨N, hN⟩ : ∃ N, k * k = N := ⟨_, rfl⟩
        have HLs : Hid (s.length = N) := Lib.hid (by rw [← hs, flat_length, hN])
        have HTr : Hid (flat k k (tr (ent s k)) = s) := Lib.hid (by rw [← hs]; exact sym_same b k)
        have HSy : Hid (SymB k k s = true) := Lib.hid (by rw [← hs]; exact sym_symB b k)
        have HPk : Hid (packL s k k = b) := Lib.hid (by rw [← hs]; exact pack_sym hbl)
        have HS := Lib.hid hs
        have HN := Lib.hid hN
        clear hT htt hkk hint hmT hbl hs hN
        go_wp2_with fail
        refine (symmV HW.out k m N c A b s (by simp) (by omega) HL.out HM.out HN.out hc HS.out).mono ?_
        rintro e w3 ⟨A1, d1, rfl, hd1, HV⟩
        obtain ⟨v3, hv3, -, HV⟩ := HV.var k k A1 N d1
        have HW := Lib.hid HV
        obtain ⟨s0, s1, s2⟩ := HV.at_ (b := w3.heap.size) (R := k) (C := k) (A := A1) (n := N) (c := d1) (by simp)
        clear HV
        go_wp2_with fail
        clear hv3 s0 s1 s2
        refine (turnedV HW.out k k N d1 A1 s s (by simp) (by omega) (by omega) HN.out hd1 HLs.out HTr.out).mono ?_
        rintro e w4 ⟨A2, d2, rfl, hd2, HV⟩
        obtain ⟨v4, hv4, -, HV⟩ := HV.var k k A2 N d2
        have HW := Lib.hid HV
        obtain ⟨s0, s1, s2⟩ := HV.at_ (b := w3.heap.size) (R := k) (C := k) (A := A1) (n := N) (c := d1) (by simp)
        clear HV
        go_wp2_with fail
        clear hv4 s0 s1 s2
        refine (packedV HW.out k N d1 A1 s b (by simp) (by omega) HN.out hd1 HLs.out HSy.out HPk.out).mono ?_
        rintro e w5 ⟨A3, d3, rfl, hd3, HV⟩
        rw [HL.out] at hd3 ⊢
        have HW := Lib.hid HV
        obtain ⟨s0, s1, s2⟩ := HV.at_ (b := w3.heap.size) (R := k) (C := k) (A := A1) (n := N) (c := d1) (by simp)
        obtain ⟨t0, t1, t2⟩ := HV.at_ (b := w4.heap.size) (R := k) (C := k) (A := A2) (n := N) (c := d2) (by simp)
        clear HV
        go_wp2_with fail
        clear s0 s1 s2 t0 t1 t2
        refine (msameV HW.out k k k k A1 A2 s s N N d1 d2 (by simp) (by simp) HLs.out HLs.out true (sameB_refl _ _ _)).mono ?_
        rintro e w6 ⟨rfl, HV⟩
        have HW := Lib.hid HV
        clear HV
        go_wp2_with fail
        refine (sameV HW.out A3 A b b m m d3 c (by simp) (by simp) HL.out HL.out true (by simp)).mono ?_
        rintro e w7 ⟨rfl, rfl⟩
        have HW := Lib.hid (HW.out.sub (ls' := [(A, b), (B, t)]) (bx' := [⟨w.heap.size, Rb, Cb, B, n2, c2⟩]) (by simp) (by simp))
        go_wp2
        go_roundw
        case rel => exact ⟨k + 1, by omega, by go_num, HW⟩
        case measure => simp [intOf]; omega
    · have hkd : decide ((k : Int) ≤ 10) = false := by simp; omega
      clear hk10
      obtain ⟨qm0, qm1, qm2⟩ := HW.out.at_ (b := w.heap.size) (R := Rb) (C := Cb) (A := B) (n := n2) (c := c2) (by simp)
      by_cases hr : ¬ RightB Rb Cb n2 = true
      · have HR : Hid (RightB Rb Cb n2 = false) := Lib.hid (by simpa using hr)
        clear hr
        go_wp2_with fail
        clear qm0 qm1 qm2
        refine (turnedV_bad HW.out Rb Cb B n2 c2 HR.out).mono ?_
        rintro e v2 ⟨A2, d2, rfl, -, HV⟩
        obtain ⟨v2x, hv2x, -, HV⟩ := HV.var 0 0 A2 0 d2
        have HW := Lib.hid HV
        clear HV
        go_wp2_with (go_at_call 12; (with_reducible refine (works_calls _).mono ?_); rintro e wz ⟨rfl, HZ⟩)
        go_ret
        exact ⟨rfl, (HW.out.below HZ).bel⟩
      obtain ⟨sr, sc, -⟩ := small_le HS2.out
      obtain ⟨r, n, rfl, rfl, k1, k2, k3⟩ := rightB_iff.1 (Classical.not_not.1 hr)
      have hr8 : r ≤ 8 := by omega
      have hn8 : n ≤ 8 := by omega
      have K6 : Hid (r * n = n2) := Lib.hid k3.symm
      have ENT : Hid (n * r = n2) := Lib.hid (by rw [k3, Nat.mul_comm])
      obtain ⟨tt, htt⟩ : ∃ z, flat n r (tr (ent t n)) = z := ⟨_, rfl⟩
      obtain ⟨P, hP⟩ : ∃ z, flat r r (mulF n (ent t n) (ent tt r)) = z := ⟨_, rfl⟩
      obtain ⟨N, hN⟩ : ∃ N, r * r = N := ⟨_, rfl⟩
      have HLT : Hid (tt.length = n2) := Lib.hid (by rw [← htt, flat_length]; exact ENT.out)
      have HLP : Hid (P.length = N) := Lib.hid (by rw [← hP, flat_length, hN])
      have HSy : Hid (SymB r r P = true) := Lib.hid (by rw [← hP, ← htt]; exact mul_symB r n t)
      have HTt := Lib.hid htt
      have HP := Lib.hid hP
      have HN := Lib.hid hN
      clear hr k1 k2 k3 sr sc htt hP hN
      go_wp2_with fail
      clear qm0 qm1 qm2
      refine (turnedV HW.out r n n2 c2 B t tt (by simp) (by omega) (by omega) K6.out hc2 HL2.out HTt.out).mono ?_
      rintro e v2 ⟨A2, d2, rfl, hd2, HV⟩
      obtain ⟨v2x, hv2x, -, HV⟩ := HV.var n r A2 n2 d2
      have HW := Lib.hid HV
      obtain ⟨qt0, qt1, qt2⟩ := HV.at_ (b := v2.heap.size) (R := n) (C := r) (A := A2) (n := n2) (c := d2) (by simp)
      obtain ⟨qm0, qm1, qm2⟩ := HV.at_ (b := w.heap.size) (R := r) (C := n) (A := B) (n := n2) (c := c2) (by simp)
      clear HV
      -- REGION17
      go_wp2_with fail
      clear hv2x qt0 qt1 qt2 qm0 qm1 qm2
      apply wp_to_upd (α := Nat × Nat × Option Addr × Nat) (upd := fun zz a => { a with tmps := (((((((((a.tmps).setIfInBounds 83 (.pointer (some ⟨zz.2.1, 0, none⟩))).setIfInBounds 84 (.agg #[.int .i64 r, .int .i64 n, .slice B n2 c2])).setIfInBounds 85 (.agg #[.int .i64 n, .int .i64 r, .slice A2 n2 d2])).setIfInBounds 86 (.tuple #[.agg #[.int .i64 r, .int .i64 r, .slice zz.2.2.1 N zz.2.2.2], .int .i64 0])).setIfInBounds 82 (.tuple #[.agg #[.int .i64 r, .int .i64 r, .slice zz.2.2.1 N zz.2.2.2], .int .i64 0])).setIfInBounds 87 (.agg #[.int .i64 r, .int .i64 r, .slice zz.2.2.1 N zz.2.2.2])).setIfInBounds 88 (.int .i64 0)).setIfInBounds 14 (.pointer (some ⟨zz.1, 0, none⟩))).setIfInBounds 15 (.int .i64 0) }) (R := fun zz V => N ≤ zz.2.2.2 ∧ W w zz.2.1 [(zz.2.2.1, P)] [⟨zz.1, r, r, zz.2.2.1, N, zz.2.2.2⟩] V)
      case h =>
        have hmx : Try.prog.follows .mixedOrders = true := by kernel_rfl
        obtain ⟨S, hSdef⟩ : ∃ S : World → Prop, S = fun V => Bx.In V ⟨w.heap.size, r, n, B, n2, c2⟩ ∧ Bx.In V ⟨v2.heap.size, n, r, A2, n2, d2⟩ := ⟨_, rfl⟩
        have hSi : ∀ V, Bx.In V ⟨w.heap.size, r, n, B, n2, c2⟩ → Bx.In V ⟨v2.heap.size, n, r, A2, n2, d2⟩ → S V := fun V h0 h1 => by rw [hSdef]; exact ⟨h0, h1⟩
        have hSc : ∀ V, S V → (V.cell? ⟨w.heap.size, 0, none⟩ = some (.int .i64 r) ∧ V.cell? ⟨w.heap.size, 1, none⟩ = some (.int .i64 n) ∧ V.cell? ⟨w.heap.size, 2, none⟩ = some (.slice B n2 c2)) ∧ (V.cell? ⟨v2.heap.size, 0, none⟩ = some (.int .i64 n) ∧ V.cell? ⟨v2.heap.size, 1, none⟩ = some (.int .i64 r) ∧ V.cell? ⟨v2.heap.size, 2, none⟩ = some (.slice A2 n2 d2)) := fun V hV => by rw [hSdef] at hV; exact ⟨cells3 hV.1, cells3 hV.2⟩
        clear hSdef
        have HW := Lib.hid HW.out.drew
        have hS1 : S v2x.drew := hSi _ (HW.out.bx ⟨w.heap.size, r, n, B, n2, c2⟩ (by simp)) (HW.out.bx ⟨v2.heap.size, n, r, A2, n2, d2⟩ (by simp))
        refine wp_region_held (S := S) hmx ?_
        refine wpAnyH_takeD (i := 1) (some 84) (.agg #[.int .i64 r, .int .i64 n, .slice B n2 c2]) rfl rfl (by kernel_rfl) (by kernel_rfl) (by kernel_rfl) (fun _ _ _ h => by cases h.1) (Or.inl ⟨by kernel_rfl, fun W hW => by obtain ⟨⟨s00, s01, s02⟩, ⟨s10, s11, s12⟩⟩ := hSc W hW; go_simp⟩) hS1 ?_
        simp only [Act.put, List.setIfInBounds_toArray, List.set_cons_zero, List.set_cons_succ]
        refine wpAnyH_takeD (i := 2) (some 85) (.agg #[.int .i64 n, .int .i64 r, .slice A2 n2 d2]) rfl rfl (by kernel_rfl) (by kernel_rfl) (by kernel_rfl) (fun _ _ _ h => by cases h.1) (Or.inl ⟨by kernel_rfl, fun W hW => by obtain ⟨⟨s00, s01, s02⟩, ⟨s10, s11, s12⟩⟩ := hSc W hW; go_simp⟩) hS1 ?_
        simp only [Act.put, List.setIfInBounds_toArray, List.set_cons_zero, List.set_cons_succ]
        refine wpAnyH_two (i := 0) (j := 7) (by kernel_rfl) rfl rfl (by kernel_rfl) (by kernel_rfl) ?_ ?_
        · skip
          go_simp
          refine (HW.out.new).mono ?_
          rintro e v3 ⟨rfl, HN⟩
          obtain ⟨g, hg⟩ : ∃ g, v2x.drew.heap.size = g := ⟨_, rfl⟩
          rw [hg] at HN ⊢
          have HW := Lib.hid HN
          clear HN
          have hS2 : S v3 := hSi _ (HW.out.bx ⟨w.heap.size, r, n, B, n2, c2⟩ (by simp)) (HW.out.bx ⟨v2.heap.size, n, r, A2, n2, d2⟩ (by simp))
          show S v3 ∧ _
          refine ⟨hS2, ?_⟩
          refine wpAnyH_two (i := 3) (j := 7) (by kernel_rfl) rfl rfl (by kernel_rfl) (by kernel_rfl) ?_ ?_
          · skip
            go_simp
            refine (mulW HW.out r n r n2 n2 N c2 d2 B A2 t tt P (by simp) (by simp) (by omega) (by omega) (by omega) K6.out ENT.out HN.out hc2 hd2 HL2.out HLT.out HP.out).mono ?_
            rintro e v4 ⟨A6, d6, rfl, hd6, HN6⟩
            have HW := Lib.hid HN6
            clear HN6
            have hS3 : S v4 := hSi _ (HW.out.bx ⟨w.heap.size, r, n, B, n2, c2⟩ (by simp)) (HW.out.bx ⟨v2.heap.size, n, r, A2, n2, d2⟩ (by simp))
            show S v4 ∧ _
            refine ⟨hS3, ?_⟩
            refine wpAnyH_takeD (i := 4) (some 82) (.tuple #[.agg #[.int .i64 r, .int .i64 r, .slice A6 N d6], .int .i64 0]) rfl rfl (by kernel_rfl) (by kernel_rfl) (by kernel_rfl) (fun _ _ _ h => by cases h.1) (Or.inl ⟨by kernel_rfl, fun W hW => by go_simp⟩) hS3 ?_
            simp only [Act.put, List.setIfInBounds_toArray, List.set_cons_zero, List.set_cons_succ]
            refine wpAnyH_takeD (i := 5) (some 87) (.agg #[.int .i64 r, .int .i64 r, .slice A6 N d6]) rfl rfl (by kernel_rfl) (by kernel_rfl) (by kernel_rfl) (fun _ _ _ h => by cases h.1) (Or.inl ⟨by kernel_rfl, fun W hW => by go_simp⟩) hS3 ?_
            simp only [Act.put, List.setIfInBounds_toArray, List.set_cons_zero, List.set_cons_succ]
            refine wpAnyH_takeD (i := 6) (some 88) (.int .i64 0) rfl rfl (by kernel_rfl) (by kernel_rfl) (by kernel_rfl) (fun _ _ _ h => by cases h.1) (Or.inl ⟨by kernel_rfl, fun W hW => by go_simp⟩) hS3 ?_
            simp only [Act.put, List.setIfInBounds_toArray, List.set_cons_zero, List.set_cons_succ]
            refine wpAnyH_one (i := 7) (by kernel_rfl) rfl (by kernel_rfl) ?_
            obtain ⟨bo, hbo⟩ : ∃ b, v4.heap.size = b := ⟨_, rfl⟩
            have hfresh := HW.out.fresh
            rw [hbo] at hfresh
            have hle : w.heap.size ≤ bo := by rw [← hbo]; exact HW.out.bel.size
            obtain ⟨v4x, hvv4x, -, HN⟩ := HW.out.var 0 0 none 0 0
            rw [hbo] at HN
            have hbx0 := HN.bx _ (List.mem_cons_self ..)
            have HW := Lib.hid HN
            clear HN
            go_simp
            have hS4 : S v4x := hSi _ (HW.out.bx ⟨w.heap.size, r, n, B, n2, c2⟩ (by simp)) (HW.out.bx ⟨v2.heap.size, n, r, A2, n2, d2⟩ (by simp))
            refine ⟨hS4, ?_⟩
            refine wpAnyH_one (i := 8) (by kernel_rfl) rfl (by kernel_rfl) ?_
            have f0 := (HW.out.bx ⟨bo, 0, 0, none, 0, 0⟩ (by simp)).frozen 0
            have f1 := (HW.out.bx ⟨bo, 0, 0, none, 0, 0⟩ (by simp)).frozen 1
            have f2 := (HW.out.bx ⟨bo, 0, 0, none, 0, 0⟩ (by simp)).frozen 2
            obtain ⟨y0, y1, y2⟩ := HW.out.at_ (b := bo) (R := 0) (C := 0) (A := none) (n := 0) (c := 0) (by simp)
            obtain ⟨vy, hvvy, HN⟩ := HW.out.put (b := bo) (R0 := 0) (C0 := 0) (A0 := none) (n0 := 0) (c0 := 0) (by simp) hle [⟨w.heap.size, r, n, B, n2, c2⟩, ⟨v2.heap.size, n, r, A2, n2, d2⟩] (fun y hy => ⟨by simp at hy ⊢; first | simp [hy] | (rcases hy with h | h <;> simp [h]), hfresh y (by simp at hy ⊢; first | simp [hy] | (rcases hy with h | h <;> simp [h]))⟩) r r A6 N d6
            have HW := Lib.hid HN
            clear HN
            go_simp
            have hS5 : S vy := hSi _ (HW.out.bx ⟨w.heap.size, r, n, B, n2, c2⟩ (by simp)) (HW.out.bx ⟨v2.heap.size, n, r, A2, n2, d2⟩ (by simp))
            refine ⟨hS5, ?_⟩
            refine wpAnyH_takeD (i := 9) (some 15) (.int .i64 0) rfl rfl (by kernel_rfl) (by kernel_rfl) (by kernel_rfl) (fun _ _ _ h => by cases h.1) (Or.inl ⟨by kernel_rfl, fun W hW => by go_simp⟩) hS5 ?_
            simp only [Act.put, List.setIfInBounds_toArray, List.set_cons_zero, List.set_cons_succ]
            refine wpAnyH_done (by kernel_rfl) ?_ _
            exact ⟨rfl, bo, g, A6, d6, rfl, hd6, (HW.out.sub (by simp)).subx (by simp)⟩
          · skip
            obtain ⟨bo, hbo⟩ : ∃ b, v3.heap.size = b := ⟨_, rfl⟩
            have hfresh := HW.out.fresh
            rw [hbo] at hfresh
            have hle : w.heap.size ≤ bo := by rw [← hbo]; exact HW.out.bel.size
            obtain ⟨v3x, hvv3x, -, HN⟩ := HW.out.var 0 0 none 0 0
            rw [hbo] at HN
            have hbx0 := HN.bx _ (List.mem_cons_self ..)
            have HW := Lib.hid HN
            clear HN
            go_simp
            have hS3 : S v3x := hSi _ (HW.out.bx ⟨w.heap.size, r, n, B, n2, c2⟩ (by simp)) (HW.out.bx ⟨v2.heap.size, n, r, A2, n2, d2⟩ (by simp))
            refine ⟨hS3, ?_⟩
            refine wpAnyH_one (i := 3) (by kernel_rfl) rfl (by kernel_rfl) ?_
            go_simp
            refine (mulW HW.out r n r n2 n2 N c2 d2 B A2 t tt P (by simp) (by simp) (by omega) (by omega) (by omega) K6.out ENT.out HN.out hc2 hd2 HL2.out HLT.out HP.out).mono ?_
            rintro e v4 ⟨A6, d6, rfl, hd6, HN6⟩
            have HW := Lib.hid HN6
            clear HN6
            have hS4 : S v4 := hSi _ (HW.out.bx ⟨w.heap.size, r, n, B, n2, c2⟩ (by simp)) (HW.out.bx ⟨v2.heap.size, n, r, A2, n2, d2⟩ (by simp))
            show S v4 ∧ _
            refine ⟨hS4, ?_⟩
            refine wpAnyH_takeD (i := 4) (some 82) (.tuple #[.agg #[.int .i64 r, .int .i64 r, .slice A6 N d6], .int .i64 0]) rfl rfl (by kernel_rfl) (by kernel_rfl) (by kernel_rfl) (fun _ _ _ h => by cases h.1) (Or.inl ⟨by kernel_rfl, fun W hW => by go_simp⟩) hS4 ?_
            simp only [Act.put, List.setIfInBounds_toArray, List.set_cons_zero, List.set_cons_succ]
            refine wpAnyH_takeD (i := 5) (some 87) (.agg #[.int .i64 r, .int .i64 r, .slice A6 N d6]) rfl rfl (by kernel_rfl) (by kernel_rfl) (by kernel_rfl) (fun _ _ _ h => by cases h.1) (Or.inl ⟨by kernel_rfl, fun W hW => by go_simp⟩) hS4 ?_
            simp only [Act.put, List.setIfInBounds_toArray, List.set_cons_zero, List.set_cons_succ]
            refine wpAnyH_takeD (i := 6) (some 88) (.int .i64 0) rfl rfl (by kernel_rfl) (by kernel_rfl) (by kernel_rfl) (fun _ _ _ h => by cases h.1) (Or.inl ⟨by kernel_rfl, fun W hW => by go_simp⟩) hS4 ?_
            simp only [Act.put, List.setIfInBounds_toArray, List.set_cons_zero, List.set_cons_succ]
            refine wpAnyH_one (i := 8) (by kernel_rfl) rfl (by kernel_rfl) ?_
            have f0 := (HW.out.bx ⟨bo, 0, 0, none, 0, 0⟩ (by simp)).frozen 0
            have f1 := (HW.out.bx ⟨bo, 0, 0, none, 0, 0⟩ (by simp)).frozen 1
            have f2 := (HW.out.bx ⟨bo, 0, 0, none, 0, 0⟩ (by simp)).frozen 2
            obtain ⟨y0, y1, y2⟩ := HW.out.at_ (b := bo) (R := 0) (C := 0) (A := none) (n := 0) (c := 0) (by simp)
            obtain ⟨vy, hvvy, HN⟩ := HW.out.put (b := bo) (R0 := 0) (C0 := 0) (A0 := none) (n0 := 0) (c0 := 0) (by simp) hle [⟨w.heap.size, r, n, B, n2, c2⟩, ⟨v2.heap.size, n, r, A2, n2, d2⟩] (fun y hy => ⟨by simp at hy ⊢; first | simp [hy] | (rcases hy with h | h <;> simp [h]), hfresh y (by simp at hy ⊢; first | simp [hy] | (rcases hy with h | h <;> simp [h]))⟩) r r A6 N d6
            have HW := Lib.hid HN
            clear HN
            go_simp
            have hS5 : S vy := hSi _ (HW.out.bx ⟨w.heap.size, r, n, B, n2, c2⟩ (by simp)) (HW.out.bx ⟨v2.heap.size, n, r, A2, n2, d2⟩ (by simp))
            refine ⟨hS5, ?_⟩
            refine wpAnyH_takeD (i := 9) (some 15) (.int .i64 0) rfl rfl (by kernel_rfl) (by kernel_rfl) (by kernel_rfl) (fun _ _ _ h => by cases h.1) (Or.inl ⟨by kernel_rfl, fun W hW => by go_simp⟩) hS5 ?_
            simp only [Act.put, List.setIfInBounds_toArray, List.set_cons_zero, List.set_cons_succ]
            refine wpAnyH_done (by kernel_rfl) ?_ _
            exact ⟨rfl, bo, g, A6, d6, rfl, hd6, (HW.out.sub (by simp)).subx (by simp)⟩
        · skip
          obtain ⟨bo, hbo⟩ : ∃ b, v2x.drew.heap.size = b := ⟨_, rfl⟩
          have hfresh := HW.out.fresh
          rw [hbo] at hfresh
          have hle : w.heap.size ≤ bo := by rw [← hbo]; exact HW.out.bel.size
          obtain ⟨v2xdx, hvv2xdx, -, HN⟩ := HW.out.var 0 0 none 0 0
          rw [hbo] at HN
          have hbx0 := HN.bx _ (List.mem_cons_self ..)
          have HW := Lib.hid HN
          clear HN
          go_simp
          have hS2 : S v2xdx := hSi _ (HW.out.bx ⟨w.heap.size, r, n, B, n2, c2⟩ (by simp)) (HW.out.bx ⟨v2.heap.size, n, r, A2, n2, d2⟩ (by simp))
          refine ⟨hS2, ?_⟩
          refine wpAnyH_one (i := 0) (by kernel_rfl) rfl (by kernel_rfl) ?_
          go_simp
          refine (HW.out.new).mono ?_
          rintro e v3 ⟨rfl, HN⟩
          obtain ⟨g, hg⟩ : ∃ g, v2xdx.heap.size = g := ⟨_, rfl⟩
          rw [hg] at HN ⊢
          have HW := Lib.hid HN
          clear HN
          have hS3 : S v3 := hSi _ (HW.out.bx ⟨w.heap.size, r, n, B, n2, c2⟩ (by simp)) (HW.out.bx ⟨v2.heap.size, n, r, A2, n2, d2⟩ (by simp))
          show S v3 ∧ _
          refine ⟨hS3, ?_⟩
          refine wpAnyH_one (i := 3) (by kernel_rfl) rfl (by kernel_rfl) ?_
          go_simp
          refine (mulW HW.out r n r n2 n2 N c2 d2 B A2 t tt P (by simp) (by simp) (by omega) (by omega) (by omega) K6.out ENT.out HN.out hc2 hd2 HL2.out HLT.out HP.out).mono ?_
          rintro e v4 ⟨A6, d6, rfl, hd6, HN6⟩
          have HW := Lib.hid HN6
          clear HN6
          have hS4 : S v4 := hSi _ (HW.out.bx ⟨w.heap.size, r, n, B, n2, c2⟩ (by simp)) (HW.out.bx ⟨v2.heap.size, n, r, A2, n2, d2⟩ (by simp))
          show S v4 ∧ _
          refine ⟨hS4, ?_⟩
          refine wpAnyH_takeD (i := 4) (some 82) (.tuple #[.agg #[.int .i64 r, .int .i64 r, .slice A6 N d6], .int .i64 0]) rfl rfl (by kernel_rfl) (by kernel_rfl) (by kernel_rfl) (fun _ _ _ h => by cases h.1) (Or.inl ⟨by kernel_rfl, fun W hW => by go_simp⟩) hS4 ?_
          simp only [Act.put, List.setIfInBounds_toArray, List.set_cons_zero, List.set_cons_succ]
          refine wpAnyH_takeD (i := 5) (some 87) (.agg #[.int .i64 r, .int .i64 r, .slice A6 N d6]) rfl rfl (by kernel_rfl) (by kernel_rfl) (by kernel_rfl) (fun _ _ _ h => by cases h.1) (Or.inl ⟨by kernel_rfl, fun W hW => by go_simp⟩) hS4 ?_
          simp only [Act.put, List.setIfInBounds_toArray, List.set_cons_zero, List.set_cons_succ]
          refine wpAnyH_takeD (i := 6) (some 88) (.int .i64 0) rfl rfl (by kernel_rfl) (by kernel_rfl) (by kernel_rfl) (fun _ _ _ h => by cases h.1) (Or.inl ⟨by kernel_rfl, fun W hW => by go_simp⟩) hS4 ?_
          simp only [Act.put, List.setIfInBounds_toArray, List.set_cons_zero, List.set_cons_succ]
          refine wpAnyH_one (i := 8) (by kernel_rfl) rfl (by kernel_rfl) ?_
          have f0 := (HW.out.bx ⟨bo, 0, 0, none, 0, 0⟩ (by simp)).frozen 0
          have f1 := (HW.out.bx ⟨bo, 0, 0, none, 0, 0⟩ (by simp)).frozen 1
          have f2 := (HW.out.bx ⟨bo, 0, 0, none, 0, 0⟩ (by simp)).frozen 2
          obtain ⟨y0, y1, y2⟩ := HW.out.at_ (b := bo) (R := 0) (C := 0) (A := none) (n := 0) (c := 0) (by simp)
          obtain ⟨vy, hvvy, HN⟩ := HW.out.put (b := bo) (R0 := 0) (C0 := 0) (A0 := none) (n0 := 0) (c0 := 0) (by simp) hle [⟨w.heap.size, r, n, B, n2, c2⟩, ⟨v2.heap.size, n, r, A2, n2, d2⟩] (fun y hy => ⟨by simp at hy ⊢; first | simp [hy] | (rcases hy with h | h <;> simp [h]), hfresh y (by simp at hy ⊢; first | simp [hy] | (rcases hy with h | h <;> simp [h]))⟩) r r A6 N d6
          have HW := Lib.hid HN
          clear HN
          go_simp
          have hS5 : S vy := hSi _ (HW.out.bx ⟨w.heap.size, r, n, B, n2, c2⟩ (by simp)) (HW.out.bx ⟨v2.heap.size, n, r, A2, n2, d2⟩ (by simp))
          refine ⟨hS5, ?_⟩
          refine wpAnyH_takeD (i := 9) (some 15) (.int .i64 0) rfl rfl (by kernel_rfl) (by kernel_rfl) (by kernel_rfl) (fun _ _ _ h => by cases h.1) (Or.inl ⟨by kernel_rfl, fun W hW => by go_simp⟩) hS5 ?_
          simp only [Act.put, List.setIfInBounds_toArray, List.set_cons_zero, List.set_cons_succ]
          refine wpAnyH_done (by kernel_rfl) ?_ _
          exact ⟨rfl, bo, g, A6, d6, rfl, hd6, (HW.out.sub (by simp)).subx (by simp)⟩
      case hK =>
        rintro ⟨bo, g, A6, d6⟩ v9 ⟨hd6, HNq⟩
        simp only [List.setIfInBounds_toArray, List.set_cons_zero, List.set_cons_succ] at hd6 HNq ⊢
        have HW := Lib.hid HNq
        clear HNq
        obtain ⟨q0, q1, q2⟩ := HW.out.at_ (b := bo) (R := r) (C := r) (A := A6) (n := N) (c := d6) (by simp)
        go_wp2_with fail
        clear q0 q1 q2
        refine (packedW HW.out r N d6 A6 P _ (by simp) (by omega) HN.out hd6 HLP.out HSy.out rfl).mono ?_
        rintro e v10 ⟨A7, d7, rfl, -, HN7⟩
        have HW := Lib.hid HN7
        clear HN7
        go_wp2_with (go_at_call 12; (with_reducible refine (works_calls _).mono ?_); rintro e wz ⟨rfl, HZ⟩)
        go_ret
        exact ⟨rfl, (HW.out.below HZ).bel⟩
      -- END17
theorem walk (w : World) (A0 : Option Addr) (l0 : List Nat) (c0 : Nat) (hb0 : Bytes w A0 l0) (hc0 : l0.length ≤ c0) (hm0 : c0 ≤ 9223372036854775807) (R1 C1 : Int) (A1 : Option Addr) (l1 : List Nat) (c1 : Nat) (_hR1 : -9223372036854775808 ≤ R1 ∧ R1 < 9223372036854775808) (_hC1 : -9223372036854775808 ≤ C1 ∧ C1 < 9223372036854775808) (hb1 : Bytes w A1 l1) (hc1 : l1.length ≤ c1) (_hm1 : c1 ≤ 9223372036854775807) :
    Calls Try.prog 9 #[.slice A0 l0.length c0, .agg #[.int .i64 R1, .int .i64 C1, .slice A1 l1.length c1]] w fun e w' => e = .returned (.bool true) ∧ Below w.heap.size w w' := by
  obtain ⟨p0, rfl⟩ := of_bytes l0 hb0.lt
  obtain ⟨p1, rfl⟩ := of_bytes l1 hb1.lt
  exact core w A0 p0 _ c0 (bs_length p0).symm hb0 hc0 (by omega) R1 C1 A1 p1 _ c1 (bs_length p1).symm hb1 hc1
end Go.Proofs.Ythenpfcnpcgfbaa.matrixPacks
