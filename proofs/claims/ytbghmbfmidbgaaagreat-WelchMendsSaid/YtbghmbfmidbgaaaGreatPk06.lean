/- Of the program and its document, joined: PolyRef, PolyRef2. -/
import Derived.Test.YtbghmbfmidbgaaaGreatPk05
import Derived.Deep.RegionLaw
import Derived.Deep.RegionHeld3
import Derived.BigQuiet
import Derived.Deep.QuietTactic
/- What the definition's calls on polynomials do. -/
namespace Go.Proofs.YtbghmbfmidbgaaaGreat.Poly
open Go.RowKit F8
open GF (ret_bool ret_int ret_nat val_int refMul_calls refDiv_calls refDiv_zero)

set_option maxRecDepth 100000 in
set_option maxHeartbeats 1600000 in
theorem refTrim_calls (A : Option Addr) (p : List F8) (c : Nat) (w : World) (hb : Bytes w A (bs p)) (hc : p.length ≤ c) (hl : p.length ≤ 1000000000) :
    Calls Tryz.prog 110 #[.slice A p.length c] w fun e w' => Res w w' e (trim p) := by
  have HB := Lib.hid hb
  clear hb
  go_enter Tryz.func110, Tryz.ntmps110
  go_wp2
  go_loop [3] (fun i => ∃ k : Nat, k ≤ p.length ∧ i = .int .i64 k ∧ Hid (∀ i, k ≤ i → i < p.length → coef p i = 0)) (fun i => (intOf i).toNat)
  case atStart => exact ⟨p.length, by omega, rfl, Lib.hid (fun i h1 h2 => by omega)⟩
  case round =>
    obtain ⟨k, hk, rfl, HZ⟩ := hrel
    have fin : ∀ (h1 : k = 0 ∨ coef p (k - 1) ≠ 0), Hid (trim p = p.take k) := fun h1 => Lib.hid (trim_take p k hk HZ.out h1)
    have hlk : (p.take k).length = k := by rw [List.length_take]; omega
    have HL := Lib.hid hlk
    clear hlk
    by_cases k0 : k = 0
    · have HT := fin (.inl k0)
      clear fin
      subst k0
      go_wp2_with (at_builtin; refine wpList_app _ rfl (.tmp 19) (.tmp 22) _ rfl w.heap.size 5 _ 1 Tryz.underlying22 info_u8 rfl (by omega) (.slice none 0 0) [] rfl (Own.nil _ _ _) A 0 c (bv (bs (p.take 0))) rfl (by rw [bvs_length]; exact HL.out) (bytes_take HB.out 0).row (bv_one _) (by simp) (Nat.le_refl _) ?_; intro v1 w1 hown1 hg1 _)
      have hbel := (Own.nil w w.heap.size 5).grew (Nat.le_refl _) hg1
      go_ret
      exact Res.mk (by rw [HT.out]; simpa using hown1) hbel
    · obtain ⟨m, hm⟩ : ∃ m : Nat, (k : Int) - 1 = (m : Int) := ⟨k - 1, by omega⟩
      obtain ⟨b, off, rfl⟩ := where_ HB.out (by omega)
      have hcell := cellAt HB.out m (by omega)
      by_cases hx : coef p m = 0
      · rw [hx] at hcell
        clear fin HL
        go_wp2
        go_round
        case rel => exact ⟨m, by omega, by simp, Lib.hid (fun i h1 h2 => by
          by_cases e : i = m
          · rw [e]; exact hx
          · exact HZ.out i (by omega) h2)⟩
        case measure => simp [intOf]; omega
      · have HT := fin (.inr (by rw [show k - 1 = m by omega]; exact hx))
        have hne := n_beq0 hx
        clear fin hx
        go_wp2_with (at_builtin; refine wpList_app _ rfl (.tmp 19) (.tmp 22) _ rfl w.heap.size 5 _ 1 Tryz.underlying22 info_u8 rfl (by omega) (.slice none 0 0) [] rfl (Own.nil _ _ _) (some ⟨b, off, none⟩) k c (bv (bs (p.take k))) rfl (by rw [bvs_length]; exact HL.out) (bytes_take HB.out k).row (bv_one _) (by simp; omega) (Nat.le_refl _) ?_; intro v1 w1 hown1 hg1 _)
        have hbel := (Own.nil w w.heap.size 5).grew (Nat.le_refl _) hg1
        go_ret
        exact Res.mk (by rw [HT.out]; simpa using hown1) hbel

theorem padd_take (p q : List F8) (k : Nat) (hk : k < p.length ∨ k < q.length) : (padd p q).take (k + 1) = (padd p q).take k ++ [coef p k + coef q k] := by
  have h : k < (padd p q).length := by rw [padd_length]; omega
  rw [take_succ' _ h, ← coef_padd, coef_of_lt h]
theorem xor_u8 (a b : F8) : bits .xor .u8 (a.n : Int) (b.n : Int) = ((a + b).n : Int) := GF.u8_xor' a.n b.n a.h b.h
theorem bvs_snoc (p : List F8) (s : F8) : bv (bs (p ++ [s])) = bv (bs p) ++ bv [s.n] := by rw [bs_append, bv_append]; rfl

set_option maxRecDepth 100000 in
set_option maxHeartbeats 4000000 in
theorem refAdd_calls (A B : Option Addr) (p q : List F8) (c d : Nat) (w : World) (hb : Bytes w A (bs p)) (hb2 : Bytes w B (bs q)) (hl : p.length ≤ 1000000000) (hl2 : q.length ≤ 1000000000) :
    Calls Tryz.prog 74 #[.slice A p.length c, .slice B q.length d] w fun e w' => Res w w' e (trim (padd p q)) := by
  have HB := Lib.hid hb
  have HB2 := Lib.hid hb2
  have hpl := padd_length p q
  have h1l : p.length ≤ (padd p q).length := by omega
  have h2l : q.length ≤ (padd p q).length := by omega
  have h3l : (padd p q).length ≤ p.length ∨ (padd p q).length ≤ q.length := by omega
  have h4l : (padd p q).length ≤ 1000000000 := by omega
  clear hb hb2 hpl
  go_enter Tryz.func74, Tryz.ntmps74
  go_wp2
  go_loopw [5, 6] (fun out i wr => ∃ k : Nat, k ≤ (padd p q).length ∧ i = .int .i64 k ∧ Hid (Own wr w.heap.size 5 out (bv (bs ((padd p q).take k)))) ∧ Below w.heap.size w wr) (fun _ i _ => (padd p q).length - (intOf i).toNat)
  case atStart => exact ⟨0, by omega, rfl, by simp only [List.take_zero]; exact Lib.hid (Own.nil _ _ _), Below.refl _ _⟩
  case round =>
    obtain ⟨k, hk, rfl, HO, HW⟩ := hrel
    have hsz := HW.size
    have hlt : ((padd p q).take k).length = k := by rw [List.length_take]; omega
    have HL := Lib.hid hlt
    clear hlt
    by_cases hkk : k < p.length ∨ k < q.length
    · obtain ⟨s, hs⟩ : ∃ s, coef p k + coef q k = s := ⟨_, rfl⟩
      have HT := Lib.hid (padd_take p q k hkk)
      rw [hs] at HT
      by_cases h1 : k < p.length
      · obtain ⟨b, off, rfl⟩ := where_ HB.out (by omega)
        have hcell := cellAt (HB.out.below HW) k h1
        by_cases h2 : k < q.length
        · obtain ⟨b2, off2, rfl⟩ := where_ HB2.out (by omega)
          have hcell2 := cellAt (HB2.out.below HW) k h2
          have hx : bits .xor .u8 ((coef p k).n : Int) ((coef q k).n : Int) = (s.n : Int) := by rw [xor_u8, hs]
          clear hs hkk
          go_wp2_with (at_builtin; refine wpList_app _ rfl (.tmp 38) (.tmp 40) _ rfl w.heap.size 5 _ 1 Tryz.underlying22 info_u8 rfl (by omega) _ _ rfl (HO.out.alloc _) (some ⟨wr.heap.size, 0, none⟩) 1 1 (bv [s.n]) rfl rfl (Row.byte (by rw [cell_new]; simp)) (bv_one _) (by rw [bvs_length, HL.out]; omega) (by simp; omega) ?_; intro v2 w2 hown2 hg2 _)
          have HO2 := Lib.hid hown2
          have hb2 : Below w.heap.size w w2 := (HW.alloc hsz _).trans ((HO.out.alloc _).grew (by simp; omega) hg2)
          clear hown2 hg2
          go_wp2
          go_roundw
          case rel => exact ⟨k + 1, by omega, by go_num, by rw [HT.out, bvs_snoc]; exact HO2, hb2⟩
          case measure => simp [intOf]; omega
        · have hc2 : coef q k = 0 := coef_of_le (by omega)
          rw [hc2, add_zero] at hs
          rw [hs] at hcell
          clear hs hkk hc2
          go_wp2_with (at_builtin; refine wpList_app _ rfl (.tmp 38) (.tmp 40) _ rfl w.heap.size 5 _ 1 Tryz.underlying22 info_u8 rfl (by omega) _ _ rfl (HO.out.alloc _) (some ⟨wr.heap.size, 0, none⟩) 1 1 (bv [s.n]) rfl rfl (Row.byte (by rw [cell_new]; simp)) (bv_one _) (by rw [bvs_length, HL.out]; omega) (by simp; omega) ?_; intro v2 w2 hown2 hg2 _)
          have HO2 := Lib.hid hown2
          have hb2 : Below w.heap.size w w2 := (HW.alloc hsz _).trans ((HO.out.alloc _).grew (by simp; omega) hg2)
          clear hown2 hg2
          go_wp2
          go_roundw
          case rel => exact ⟨k + 1, by omega, by go_num, by rw [HT.out, bvs_snoc]; exact HO2, hb2⟩
          case measure => simp [intOf]; omega
      · have h2 : k < q.length := by omega
        have hc1 : coef p k = 0 := coef_of_le (by omega)
        rw [hc1, zero_add] at hs
        obtain ⟨b2, off2, rfl⟩ := where_ HB2.out (by omega)
        have hcell2 := cellAt (HB2.out.below HW) k h2
        rw [hs] at hcell2
        have hx : bits .xor .u8 0 (s.n : Int) = (s.n : Int) := by have := xor_u8 0 s; rw [zero_add] at this; exact this
        clear hs hkk hc1
        go_wp2_with (at_builtin; refine wpList_app _ rfl (.tmp 38) (.tmp 40) _ rfl w.heap.size 5 _ 1 Tryz.underlying22 info_u8 rfl (by omega) _ _ rfl (HO.out.alloc _) (some ⟨wr.heap.size, 0, none⟩) 1 1 (bv [s.n]) rfl rfl (Row.byte (by rw [cell_new]; simp)) (bv_one _) (by rw [bvs_length, HL.out]; omega) (by simp; omega) ?_; intro v2 w2 hown2 hg2 _)
        have HO2 := Lib.hid hown2
        have hb2 : Below w.heap.size w w2 := (HW.alloc hsz _).trans ((HO.out.alloc _).grew (by simp; omega) hg2)
        clear hown2 hg2
        go_wp2
        go_roundw
        case rel => exact ⟨k + 1, by omega, by go_num, by rw [HT.out, bvs_snoc]; exact HO2, hb2⟩
        case measure => simp [intOf]; omega
    · have hke : k = (padd p q).length := by omega
      have HT : Hid ((padd p q).take k = padd p q) := Lib.hid (List.take_of_length_le (by omega))
      rw [HT.out] at HO
      obtain ⟨A2, c2, rfl, hc2⟩ := Own.shape HO.out
      subst hke
      clear HT HL
      go_wp2_with (go_at_call 110; (with_reducible refine (refTrim_calls A2 (padd p q) c2 _ (Own.bytes HO.out) hc2 h4l).mono ?_); rintro e w2 ⟨A3, c3, rfl, hc3, hO3, hB3⟩)
      go_ret
      exact ⟨A3, c3, rfl, hc3, hO3.more hsz, HW.trans (hB3.mono hsz)⟩

theorem mul_n (a b : F8) : GF.gm a.n b.n = (a * b).n := rfl
theorem refMul_f (a b : F8) (w : World) : Calls Tryz.prog 55 #[.int .u8 a.n, .int .u8 b.n] w fun e w' => e = .returned (.int .u8 (a * b).n) ∧ w' = w := refMul_calls a.n b.n a.h b.h w

set_option maxRecDepth 100000 in
set_option maxHeartbeats 4000000 in
theorem refPMul_calls (A B : Option Addr) (p q : List F8) (c d : Nat) (w : World) (hb : Bytes w A (bs p)) (hb2 : Bytes w B (bs q)) (hl : p.length ≤ 100000000) (hl2 : q.length ≤ 100000000) :
    Calls Tryz.prog 75 #[.slice A p.length c, .slice B q.length d] w fun e w' => Res w w' e (trim (pmul p q)) := by
  have HB := Lib.hid hb
  have HB2 := Lib.hid hb2
  clear hb hb2
  go_enter Tryz.func75, Tryz.ntmps75
  go_wp2
  go_loopw [5, 6] (fun out i wr => ∃ k : Nat, k ≤ p.length ∧ i = .int .i64 k ∧ Hid (Own wr w.heap.size 5 out (bv (bs (trim (pmul (p.take k) q))))) ∧ Below w.heap.size w wr) (fun _ i _ => p.length - (intOf i).toNat)
  case atStart => exact ⟨0, by omega, rfl, Lib.hid (Own.nil _ _ _), Below.refl _ _⟩
  case round =>
    obtain ⟨k, hk, rfl, HO, HW⟩ := hrel
    have hsz := HW.size
    by_cases hkk : k < p.length
    · obtain ⟨wm, hmk, hOm, hBm⟩ := make_run wr k (by omega)
      have HOm := Lib.hid hOm
      obtain ⟨b, off, rfl⟩ := where_ HB.out (by omega)
      obtain ⟨a, ha⟩ : ∃ a, coef p k = a := ⟨_, rfl⟩
      obtain ⟨wo, rfl⟩ : ∃ wo : World, wo = wr := ⟨_, rfl⟩
      clear hOm
      go_wp2
      go_loopw [7, 8] (fun row i wr => ∃ j : Nat, j ≤ q.length ∧ i = .int .i64 j ∧ Hid (Own wr wo.heap.size 5 row (bv (bs (List.replicate k 0 ++ scale a (q.take j))))) ∧ Below wo.heap.size wo wr) (fun _ i _ => q.length - (intOf i).toNat)
      case atStart => exact ⟨0, by omega, rfl, by simpa [scale] using HOm, hBm⟩
      case round =>
        clear HOm hBm hmk
        obtain ⟨j, hj, rfl, HR, HI⟩ := hrel
        have hsz2 := HI.size
        by_cases hjj : j < q.length
        · obtain ⟨b2, off2, rfl⟩ := where_ HB2.out (by omega)
          obtain ⟨x, hx⟩ : ∃ x, a * coef q j = x := ⟨_, rfl⟩
          have hWI := HW.trans (HI.mono hsz)
          have hc1 := cellAt (HB.out.below hWI) k hkk
          have hc2 := cellAt (HB2.out.below hWI) j hjj
          rw [ha] at hc1
          have hmx : ∀ v, Calls Tryz.prog 55 #[.int .u8 a.n, .int .u8 (coef q j).n] v fun e w' => e = .returned (.int .u8 x.n) ∧ w' = v := fun v => by rw [← hx]; exact refMul_f a (coef q j) v
          have HT := Lib.hid (scale_snoc a q j hjj)
          rw [hx] at HT
          have HN := Lib.hid (Row.new wr #[.int .u8 (x.n : Int)] 5 (0, 0))
          have hb3 : Below wr.heap.size wr (wr.alloc (.cells #[.int .u8 (x.n : Int)] 5)).drew := ((Below.refl _ wr).alloc (Nat.le_refl _) _).drew
          have HR2 := Lib.hid (HR.out.below hb3)
          have hs2 : (wr.alloc (.cells #[.int .u8 (x.n : Int)] 5)).drew.heap.size = wr.heap.size + 1 := by simp
          have hlen : (bv (bs (List.replicate k 0 ++ scale a (q.take j)))).length = k + j := by rw [bvs_length]; simp [scale]; omega
          have HL := Lib.hid hlen
          have Hb3 := Lib.hid hb3
          clear hx hlen hb3
          go_wp2_with fail
          go_region_law (first
            | (refine step_app _ (by rfl) (.tmp 23) (.tmp 33) _ (by rfl) wo.heap.size 5 _ 1 Tryz.underlying22 info_u8 rfl (by omega) u7 _ (by rfl) HR2.out (some ⟨wr.heap.size, 0, none⟩) 1 1 _ (by rfl) rfl HN.out.drew (by simp [Value.oneCell']) (by rw [HL.out]; simp; omega) (by omega) ?_
               intro v1 w1 hown1 hgrow _
               have HW2 := Lib.hid (HI.trans ((Hb3.out.mono hsz2).trans (HR2.out.grew (by omega) hgrow)))
               have HR3 := Lib.hid hown1
               clear hown1 hgrow)
            | (go_simp; go_at_call 55; refine (hmx _).mono ?_; rintro e w' ⟨rfl, rfl⟩))
          all_goals
            go_wp2
            go_roundw
            case rel => exact ⟨j + 1, by omega, by go_num, by rw [HT.out, ← List.append_assoc, bvs_snoc]; exact HR3, HW2.out⟩
            case measure => simp [intOf]; omega
        · obtain rfl : j = q.length := by omega
          have HT : Hid (q.take q.length = q) := Lib.hid (List.take_length)
          rw [HT.out] at HR
          have l1 : (trim (pmul (p.take k) q)).length ≤ 1000000000 := by
            have := trim_le (pmul (p.take k) q)
            have := pmul_length_le (p.take k) q
            have : (p.take k).length ≤ k := List.length_take_le _ _
            omega
          have l2 : (List.replicate k (0 : F8) ++ scale a q).length ≤ 1000000000 := by simp [scale]; omega
          have HE : Hid (trim (padd (trim (pmul (p.take k) q)) (List.replicate k 0 ++ scale a q)) = trim (pmul (p.take (k + 1)) q)) := Lib.hid (by
            refine trim_congr ((padd_congr (trim_eqv _) (Eqv.refl _)).trans ?_)
            rw [take_succ' p hkk, ← coef_of_lt hkk, ha]
            have := pmul_snoc (p.take k) a q
            rw [List.length_take, Nat.min_eq_left hk] at this
            exact this.symm)
          have HO1 := Lib.hid (HO.out.below HI)
          obtain ⟨o, ho⟩ : ∃ o, trim (pmul (p.take k) q) = o := ⟨_, rfl⟩
          obtain ⟨r, hr⟩ : ∃ r, List.replicate k 0 ++ scale a q = r := ⟨_, rfl⟩
          rw [ho] at HO1 l1 HE
          rw [hr] at HR l2 HE
          obtain ⟨A2, c2, rfl, hc2⟩ := Own.shape HO1.out
          obtain ⟨A3, c3, rfl, hc3⟩ := Own.shape HR.out
          have HI2 := Lib.hid HI
          clear HT hj hjj ha HI ho hr HO
          go_wp2_with (go_at_call 74; (with_reducible refine (refAdd_calls A2 A3 o r c2 c3 _ (Own.bytes HO1.out) (Own.bytes HR.out) l1 l2).mono ?_); rintro e w3 ⟨A4, c4, rfl, hc4, hO4, hB4⟩; rw [HE.out] at hO4 hc4 ⊢; have HO4 := Lib.hid (hO4.more (Nat.le_trans hsz hsz2)); have HB4 := Lib.hid (HW.trans ((HI2.out.mono hsz).trans (hB4.mono (Nat.le_trans hsz hsz2)))); clear hO4 hB4)
          go_roundw
          case rel => exact ⟨k + 1, by omega, by go_num, HO4, HB4.out⟩
          case measure => simp [intOf]; omega
    · obtain rfl : k = p.length := by omega
      have HT : Hid (p.take p.length = p) := Lib.hid (List.take_length)
      rw [HT.out] at HO
      clear hkk hk HT
      go_wp2
      go_ret
      exact Res.mk HO.out HW
end Go.Proofs.YtbghmbfmidbgaaaGreat.Poly

/- What the definition's further calls on polynomials do: values, roots. -/
namespace Go.Proofs.YtbghmbfmidbgaaaGreat.Poly
open Go.RowKit F8
open GF (ret_bool ret_int ret_nat val_int refMul_calls refDiv_calls refDiv_zero)

/-- The calls with lengths of a name of their own. -/
theorem refPMul_len (A B : Option Addr) (p q : List F8) (m n c d : Nat) (w : World) (hm : p.length = m) (hn : q.length = n) (hb : Bytes w A (bs p)) (hb2 : Bytes w B (bs q)) (hl : m ≤ 100000000) (hl2 : n ≤ 100000000) :
    Calls Tryz.prog 75 #[.slice A m c, .slice B n d] w fun e w' => Res w w' e (trim (pmul p q)) := by
  subst hm hn; exact refPMul_calls A B p q c d w hb hb2 hl hl2
theorem refAdd_len (A B : Option Addr) (p q : List F8) (m n c d : Nat) (w : World) (hm : p.length = m) (hn : q.length = n) (hb : Bytes w A (bs p)) (hb2 : Bytes w B (bs q)) (hl : m ≤ 1000000000) (hl2 : n ≤ 1000000000) :
    Calls Tryz.prog 74 #[.slice A m c, .slice B n d] w fun e w' => Res w w' e (trim (padd p q)) := by
  subst hm hn; exact refAdd_calls A B p q c d w hb hb2 hl hl2

set_option maxRecDepth 100000 in
set_option maxHeartbeats 1600000 in
theorem refAt_calls (A : Option Addr) (p : List F8) (m c : Nat) (x : F8) (w : World) (hm : p.length = m) (hb : Bytes w A (bs p)) (hl : m ≤ 1000000000) :
    Calls Tryz.prog 39 #[.slice A m c, .int .u8 x.n] w fun e w' => e = .returned (.int .u8 (eval p x).n) ∧ w = w' := by
  subst hm
  have HB := Lib.hid hb
  clear hb
  go_enter Tryz.func39, Tryz.ntmps39
  go_wp2
  go_loop [5, 6, 7] (fun y pw i => ∃ k : Nat, k ≤ p.length ∧ i = .int .i64 k ∧ y = .int .u8 (eval (p.take k) x).n ∧ pw = .int .u8 (xpow x k).n) (fun _ _ i => p.length - (intOf i).toNat)
  case atStart => exact ⟨0, by omega, rfl, rfl, rfl⟩
  case round =>
    obtain ⟨k, hk, rfl, rfl, rfl⟩ := hrel
    by_cases hlt : k < p.length
    · obtain ⟨b, off, rfl⟩ := where_ HB.out (by omega)
      have hc := cellAt HB.out k hlt
      have HX := Lib.hid (xor_u8 (eval (p.take k) x) (coef p k * xpow x k))
      have HE : Hid (eval (p.take k) x + coef p k * xpow x k = eval (p.take (k + 1)) x) := Lib.hid (by
        rw [take_succ' p hlt, ← coef_of_lt hlt, eval_snoc, List.length_take, Nat.min_eq_left hk])
      have HP : Hid (xpow x k * x = xpow x (k + 1)) := Lib.hid (F8.mul_comm _ _)
      have m1 := refMul_f (coef p k) (xpow x k)
      have m2 := refMul_f (xpow x k) x
      go_wp2_with (go_at_call 55; (first | (with_reducible refine (m1 _).mono ?_) | (with_reducible refine (m2 _).mono ?_)); rintro e w' ⟨rfl, rfl⟩)
      go_round
      case rel => exact ⟨k + 1, by omega, by go_num, by rw [HX.out, HE.out], by rw [HP.out]⟩
      case measure => simp [intOf]; omega
    · obtain rfl : k = p.length := by omega
      go_wp2
      go_ret
      exact ⟨rfl, rfl⟩

theorem lit2 (w : World) (x : F8) : Bytes (w.alloc (.cells #[.int .u8 x.n, .int .u8 1] 5)) (some ⟨w.heap.size, 0, none⟩) (bs [x, 1]) :=
  ⟨Row.new w #[.int .u8 (x.n : Int), .int .u8 1] 5 (0, 0), bs_lt _⟩
theorem own1 (w : World) (B : Nat) (hB : B ≤ w.heap.size) : Own (w.alloc (.cells #[.int .u8 1] 5)) B 5 (.slice (some ⟨w.heap.size, 0, none⟩) 1 1) (bv (bs [1])) :=
  Own.lit w B 5 #[.int .u8 1] 1 hB rfl (by simp [maxLen])
theorem trim_one : trim [1] = [1] := trim_snoc [] 1 one_ne_zero
theorem roots_length (xs : List F8) : (trim (roots xs)).length = xs.length + 1 := len_roots xs

set_option maxRecDepth 100000 in
set_option maxHeartbeats 1600000 in
theorem refRoots_calls (A : Option Addr) (p : List F8) (m c : Nat) (w : World) (hm : p.length = m) (hb : Bytes w A (bs p)) (hl : m ≤ 10000000) :
    Calls Tryz.prog 72 #[.slice A m c] w fun e w' => Res w w' e (trim (roots p)) := by
  subst hm
  have HB := Lib.hid hb
  clear hb
  have HO0 := Lib.hid (own1 w w.heap.size (Nat.le_refl _))
  go_enter Tryz.func72, Tryz.ntmps72
  go_wp2
  go_loopw [3, 4] (fun out i wr => ∃ k : Nat, k ≤ p.length ∧ i = .int .i64 k ∧ Hid (Own wr w.heap.size 5 out (bv (bs (trim (roots (p.take k)))))) ∧ Below w.heap.size w wr) (fun _ i _ => p.length - (intOf i).toNat)
  case atStart => exact ⟨0, by omega, rfl, by rw [List.take_zero]; show Hid (Own _ _ _ _ (bv (bs (trim [1])))); rw [trim_one]; exact HO0, (Below.refl _ _).alloc (Nat.le_refl _) _⟩
  case round =>
    clear HO0
    obtain ⟨k, hk, rfl, HO, HW⟩ := hrel
    have hsz := HW.size
    by_cases hlt : k < p.length
    · obtain ⟨b, off, rfl⟩ := where_ HB.out (by omega)
      have hc := cellAt (HB.out.below HW) k hlt
      have HL := Lib.hid (lit2 wr (coef p k))
      have HE : Hid (trim (pmul (trim (roots (p.take k))) [coef p k, 1]) = trim (roots (p.take (k + 1)))) := Lib.hid (by
        rw [take_succ' p hlt, ← coef_of_lt hlt]
        exact trim_congr ((pmul_congr_left _ (trim_eqv _)).trans (roots_snoc _ _).symm))
      have hrl := roots_length (p.take k)
      rw [List.length_take, Nat.min_eq_left hk] at hrl
      have HO1 := Lib.hid (HO.out.alloc (.cells #[.int .u8 (coef p k).n, .int .u8 1] 5))
      obtain ⟨o, ho⟩ : ∃ o, trim (roots (p.take k)) = o := ⟨_, rfl⟩
      rw [ho] at HO1 HE hrl
      obtain ⟨A2, c2, rfl, hc2⟩ := Own.shape HO1.out
      have hol : o.length ≤ 100000000 := by omega
      clear ho HO hrl
      go_wp2_with (go_at_call 75; (with_reducible refine (refPMul_len A2 (some ⟨wr.heap.size, 0, none⟩) o [coef p k, 1] o.length 2 c2 2 _ rfl rfl (Own.bytes HO1.out) HL.out hol (by decide)).mono ?_); rintro e w3 ⟨A4, c4, rfl, hc4, hO4, hB4⟩; rw [HE.out] at hO4 hc4 ⊢; have HO4 := Lib.hid (hO4.more (by simp; omega : w.heap.size ≤ _)); have HB4 := Lib.hid ((HW.alloc hsz _).trans (hB4.mono (by simp; omega))); clear hO4 hB4)
      go_roundw
      case rel => exact ⟨k + 1, by omega, by go_num, HO4, HB4.out⟩
      case measure => simp [intOf]; omega
    · obtain rfl : k = p.length := by omega
      have HT : Hid (p.take p.length = p) := Lib.hid List.take_length
      rw [HT.out] at HO
      clear hlt hk HT
      go_wp2
      go_ret
      exact Res.mk HO.out HW

theorem refDiv_f (a b : F8) (hb : b ≠ 0) (w : World) : Calls Tryz.prog 73 #[.int .u8 a.n, .int .u8 b.n] w fun e w' => e = .returned (.tuple #[.int .u8 (a / b).n, .bool true]) ∧ w' = w :=
  (refDiv_calls a.n b.n a.h b.h (n_ne_zero.2 hb) w).mono fun _ _ ⟨h1, h2⟩ => ⟨h1, h2.symm⟩
theorem refTrim_len (A : Option Addr) (p : List F8) (m c : Nat) (w : World) (hm : p.length = m) (hb : Bytes w A (bs p)) (hc : m ≤ c) (hl : m ≤ 1000000000) :
    Calls Tryz.prog 110 #[.slice A m c] w fun e w' => Res w w' e (trim p) := by
  subst hm; exact refTrim_calls A p c w hb hc hl
/-- Quotient and rest in memory of the call's own. -/
def Res2 (w w' : World) (e : Ending) (q r : List F8) : Prop :=
  ∃ A c B d, e = .returned (.tuple #[.slice A q.length c, .slice B r.length d, .int .i64 0]) ∧ q.length ≤ c ∧ r.length ≤ d ∧ Own w' w.heap.size 5 (.slice A q.length c) (bv (bs q)) ∧ Own w' w.heap.size 5 (.slice B r.length d) (bv (bs r)) ∧ Below w.heap.size w w'

def sl (v : Value) : Nat := match v with
  | .slice _ n _ => n
  | _ => 0
end Go.Proofs.YtbghmbfmidbgaaaGreat.Poly
