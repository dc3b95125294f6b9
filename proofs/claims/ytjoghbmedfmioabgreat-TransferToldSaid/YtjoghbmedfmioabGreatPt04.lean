/- Of the program, joined: PolyRef, PolyRef2, PolyRef3, GfOps, GfSt, Str, PolySame, PolySpec. -/
import Derived.Test.YtjoghbmedfmioabGreatPt03
import Derived.Deep.RegionLaw
import Derived.Deep.RegionHeld3
import Derived.BigQuiet
import Derived.Deep.QuietTactic
import Derived.Test.YtjoghbmedfmioabGreatPt02
import Derived.Laws.BytesArg
import Derived.Lib.ConvBytes
namespace Go.Proofs.YtjoghbmedfmioabGreat.Poly
open Go.RowKit F8
open GF (ret_bool ret_int ret_nat val_int refMul_calls refDiv_calls refDiv_zero)
set_option maxRecDepth 100000 in
set_option maxHeartbeats 1600000 in
theorem refTrim_calls (A : Option Addr) (p : List F8) (c : Nat) (w : World) (hb : Bytes w A (bs p)) (hc : p.length ≤ c) (hl : p.length ≤ 1000000000) :
  Calls Tryz.prog 92 #[.slice A p.length c] w fun e w' => Res w w' e (trim p) := by
 have HB := Lib.hid hb
 clear hb
 go_enter Tryz.func92, Tryz.ntmps92
 go_wp2
 go_loop [3] (fun i => ∃ k : Nat, k ≤ p.length ∧ i = .int .i64 k ∧ Hid (∀ i, k ≤ i → i < p.length → coef p i = 0)) (fun i => (intOf i).toNat)
 case atStart => exact ⟨p.length, by omega, rfl, Lib.hid (fun i h1 h2 => by omega)⟩
 case round =>
  obtain ⟨k, hk, rfl, HZ⟩ := hrel
  have fin : ∀ (h1 : k = 0 ∨ coef p (k - 1) ≠ 0), Hid (trim p = p.take k) := fun h1 => Lib.hid (trim_take p k hk HZ.out h1)
  have hlk : (p.take k).length = k := by rw [List.length_take]; omega
  have HL := Lib.hid hlk
  clear hlk
  by_cases k0 : k = 0
  ·have HT := fin (.inl k0)
   clear fin
   subst k0
   go_wp2_with (at_builtin; refine wpList_app _ rfl (.tmp 19) (.tmp 22) _ rfl w.heap.size 5 _ 1 Tryz.underlying35 info_u8 rfl (by omega) (.slice none 0 0) [] rfl (Own.nil _ _ _) A 0 c (bv (bs (p.take 0))) rfl (by rw [bvs_length]; exact HL.out) (bytes_take HB.out 0).row (bv_one _) (by simp) (Nat.le_refl _) ?_; intro v1 w1 hown1 hg1 _)
   have hbel := (Own.nil w w.heap.size 5).grew (Nat.le_refl _) hg1
   go_ret
   exact Res.mk (by rw [HT.out]; simpa using hown1) hbel
  ·obtain ⟨m, hm⟩ : ∃ m : Nat, (k : Int) - 1 = (m : Int) := ⟨k - 1, by omega⟩
   obtain ⟨b, off, rfl⟩ := where_ HB.out (by omega)
   have hcell := cellAt HB.out m (by omega)
   by_cases hx : coef p m = 0
   ·rw [hx] at hcell
    clear fin HL
    go_wp2
    go_round
    case rel => exact ⟨m, by omega, by simp, Lib.hid (fun i h1 h2 => by
     by_cases e : i = m
     ·rw [e]; exact hx
     ·exact HZ.out i (by omega) h2)⟩
    case measure => simp [intOf]; omega
   ·have HT := fin (.inr (by rw [show k - 1 = m by omega]; exact hx))
    have hne := n_beq0 hx
    clear fin hx
    go_wp2_with (at_builtin; refine wpList_app _ rfl (.tmp 19) (.tmp 22) _ rfl w.heap.size 5 _ 1 Tryz.underlying35 info_u8 rfl (by omega) (.slice none 0 0) [] rfl (Own.nil _ _ _) (some ⟨b, off, none⟩) k c (bv (bs (p.take k))) rfl (by rw [bvs_length]; exact HL.out) (bytes_take HB.out k).row (bv_one _) (by simp; omega) (Nat.le_refl _) ?_; intro v1 w1 hown1 hg1 _)
    have hbel := (Own.nil w w.heap.size 5).grew (Nat.le_refl _) hg1
    go_ret
    exact Res.mk (by rw [HT.out]; simpa using hown1) hbel
theorem padd_take (p q : List F8) (k : Nat) (hk : k < p.length ∨ k < q.length) : (padd p q).take (k + 1) = (padd p q).take k ++ [coef p k + coef q k] := by
 have h : k < (padd p q).length := by rw [padd_length]; omega
 rw [take_succ' _ h, ← coef_padd, coef_of_lt h]
theorem xor_u8 (a b : F8) : bits .xor .u8 (a.n : Int) (b.n : Int) = ((a + b).n : Int) := GF.u8_xor' a.n b.n a.h b.h
theorem bvs_snoc (p : List F8) (s : F8) : bv (bs (p ++ [s])) = bv (bs p) ++ bv [s.n] := by rw [bs_append, bv_append]; rfl
set_option maxRecDepth 100000 in
set_option maxHeartbeats 4000000 in
theorem refAdd_calls (A B : Option Addr) (p q : List F8) (c d : Nat) (w : World) (hb : Bytes w A (bs p)) (hb2 : Bytes w B (bs q)) (hl : p.length ≤ 1000000000) (hl2 : q.length ≤ 1000000000) :
  Calls Tryz.prog 75 #[.slice A p.length c, .slice B q.length d] w fun e w' => Res w w' e (trim (padd p q)) := by
 have HB := Lib.hid hb
 have HB2 := Lib.hid hb2
 have hpl := padd_length p q
 have h1l : p.length ≤ (padd p q).length := by omega
 have h2l : q.length ≤ (padd p q).length := by omega
 have h3l : (padd p q).length ≤ p.length ∨ (padd p q).length ≤ q.length := by omega
 have h4l : (padd p q).length ≤ 1000000000 := by omega
 clear hb hb2 hpl
 go_enter Tryz.func75, Tryz.ntmps75
 go_wp2
 go_loopw [5, 6] (fun out i wr => ∃ k : Nat, k ≤ (padd p q).length ∧ i = .int .i64 k ∧ Hid (Own wr w.heap.size 5 out (bv (bs ((padd p q).take k)))) ∧ Below w.heap.size w wr) (fun _ i _ => (padd p q).length - (intOf i).toNat)
 case atStart => exact ⟨0, by omega, rfl, by simp only [List.take_zero]; exact Lib.hid (Own.nil _ _ _), Below.refl _ _⟩
 case round =>
  obtain ⟨k, hk, rfl, HO, HW⟩ := hrel
  have hsz := HW.size
  have hlt : ((padd p q).take k).length = k := by rw [List.length_take]; omega
  have HL := Lib.hid hlt
  clear hlt
  by_cases hkk : k < p.length ∨ k < q.length
  ·obtain ⟨s, hs⟩ : ∃ s, coef p k + coef q k = s := ⟨_, rfl⟩
   have HT := Lib.hid (padd_take p q k hkk)
   rw [hs] at HT
   by_cases h1 : k < p.length
   ·obtain ⟨b, off, rfl⟩ := where_ HB.out (by omega)
    have hcell := cellAt (HB.out.below HW) k h1
    by_cases h2 : k < q.length
    ·obtain ⟨b2, off2, rfl⟩ := where_ HB2.out (by omega)
     have hcell2 := cellAt (HB2.out.below HW) k h2
     have hx : bits .xor .u8 ((coef p k).n : Int) ((coef q k).n : Int) = (s.n : Int) := by rw [xor_u8, hs]
     clear hs hkk
     go_wp2_with (at_builtin; refine wpList_app _ rfl (.tmp 38) (.tmp 40) _ rfl w.heap.size 5 _ 1 Tryz.underlying35 info_u8 rfl (by omega) _ _ rfl (HO.out.alloc _) (some ⟨wr.heap.size, 0, none⟩) 1 1 (bv [s.n]) rfl rfl (Row.byte (by rw [cell_new]; simp)) (bv_one _) (by rw [bvs_length, HL.out]; omega) (by simp; omega) ?_; intro v2 w2 hown2 hg2 _)
     have HO2 := Lib.hid hown2
     have hb2 : Below w.heap.size w w2 := (HW.alloc hsz _).trans ((HO.out.alloc _).grew (by simp; omega) hg2)
     clear hown2 hg2
     go_wp2
     go_roundw
     case rel => exact ⟨k + 1, by omega, by go_num, by rw [HT.out, bvs_snoc]; exact HO2, hb2⟩
     case measure => simp [intOf]; omega
    ·have hc2 : coef q k = 0 := coef_of_le (by omega)
     rw [hc2, add_zero] at hs
     rw [hs] at hcell
     clear hs hkk hc2
     go_wp2_with (at_builtin; refine wpList_app _ rfl (.tmp 38) (.tmp 40) _ rfl w.heap.size 5 _ 1 Tryz.underlying35 info_u8 rfl (by omega) _ _ rfl (HO.out.alloc _) (some ⟨wr.heap.size, 0, none⟩) 1 1 (bv [s.n]) rfl rfl (Row.byte (by rw [cell_new]; simp)) (bv_one _) (by rw [bvs_length, HL.out]; omega) (by simp; omega) ?_; intro v2 w2 hown2 hg2 _)
     have HO2 := Lib.hid hown2
     have hb2 : Below w.heap.size w w2 := (HW.alloc hsz _).trans ((HO.out.alloc _).grew (by simp; omega) hg2)
     clear hown2 hg2
     go_wp2
     go_roundw
     case rel => exact ⟨k + 1, by omega, by go_num, by rw [HT.out, bvs_snoc]; exact HO2, hb2⟩
     case measure => simp [intOf]; omega
   ·have h2 : k < q.length := by omega
    have hc1 : coef p k = 0 := coef_of_le (by omega)
    rw [hc1, zero_add] at hs
    obtain ⟨b2, off2, rfl⟩ := where_ HB2.out (by omega)
    have hcell2 := cellAt (HB2.out.below HW) k h2
    rw [hs] at hcell2
    have hx : bits .xor .u8 0 (s.n : Int) = (s.n : Int) := by have := xor_u8 0 s; rw [zero_add] at this; exact this
    clear hs hkk hc1
    go_wp2_with (at_builtin; refine wpList_app _ rfl (.tmp 38) (.tmp 40) _ rfl w.heap.size 5 _ 1 Tryz.underlying35 info_u8 rfl (by omega) _ _ rfl (HO.out.alloc _) (some ⟨wr.heap.size, 0, none⟩) 1 1 (bv [s.n]) rfl rfl (Row.byte (by rw [cell_new]; simp)) (bv_one _) (by rw [bvs_length, HL.out]; omega) (by simp; omega) ?_; intro v2 w2 hown2 hg2 _)
    have HO2 := Lib.hid hown2
    have hb2 : Below w.heap.size w w2 := (HW.alloc hsz _).trans ((HO.out.alloc _).grew (by simp; omega) hg2)
    clear hown2 hg2
    go_wp2
    go_roundw
    case rel => exact ⟨k + 1, by omega, by go_num, by rw [HT.out, bvs_snoc]; exact HO2, hb2⟩
    case measure => simp [intOf]; omega
  ·have hke : k = (padd p q).length := by omega
   have HT : Hid ((padd p q).take k = padd p q) := Lib.hid (List.take_of_length_le (by omega))
   rw [HT.out] at HO
   obtain ⟨A2, c2, rfl, hc2⟩ := Own.shape HO.out
   subst hke
   clear HT HL
   go_wp2_with (go_at_call 92; (with_reducible refine (refTrim_calls A2 (padd p q) c2 _ (Own.bytes HO.out) hc2 h4l).mono ?_); rintro e w2 ⟨A3, c3, rfl, hc3, hO3, hB3⟩)
   go_ret
   exact ⟨A3, c3, rfl, hc3, hO3.more hsz, HW.trans (hB3.mono hsz)⟩
theorem refMul_f (a b : F8) (w : World) : Calls Tryz.prog 78 #[.int .u8 a.n, .int .u8 b.n] w fun e w' => e = .returned (.int .u8 (a * b).n) ∧ w' = w := refMul_calls a.n b.n a.h b.h w
set_option maxRecDepth 100000 in
set_option maxHeartbeats 4000000 in
theorem refPMul_calls (A B : Option Addr) (p q : List F8) (c d : Nat) (w : World) (hb : Bytes w A (bs p)) (hb2 : Bytes w B (bs q)) (hl : p.length ≤ 100000000) (hl2 : q.length ≤ 100000000) :
    Calls Tryz.prog 76 #[.slice A p.length c, .slice B q.length d] w fun e w' => Res w w' e (trim (pmul p q)) := by
  have HB := Lib.hid hb
  have HB2 := Lib.hid hb2
  clear hb hb2
  go_enter Tryz.func76, Tryz.ntmps76
  go_wp2
  go_loopw [5, 6] (fun out i wr => ∃ k : Nat, k ≤ p.length ∧ i = .int .i64 k ∧ Hid (Own wr w.heap.size 5 out (bv (bs (trim (pmul (p.take k) q))))) ∧ Below w.heap.size w wr) (fun _ i _ => p.length - (intOf i).toNat)
  case atStart => exact ⟨0, by omega, rfl, Lib.hid (Own.nil _ _ _), Below.refl _ _⟩
  case round =>
    obtain ⟨k, hk, rfl, HO, HW⟩ := hrel
    have hsz := HW.size
    by_cases hkk : k < p.length
    · obtain ⟨wm, hmk, hOm, hBm⟩ := make_run wr k (by omega)
      have HOm := Lib.hid hOm
      obtain ⟨b, off, rfl⟩ := where_ HB.out (by omega)
      obtain ⟨a, ha⟩ : ∃ a, coef p k = a := ⟨_, rfl⟩
      obtain ⟨wo, rfl⟩ : ∃ wo : World, wo = wr := ⟨_, rfl⟩
      clear hOm
      go_wp2
      go_loopw [7, 8] (fun row i wr => ∃ j : Nat, j ≤ q.length ∧ i = .int .i64 j ∧ Hid (Own wr wo.heap.size 5 row (bv (bs (List.replicate k 0 ++ scale a (q.take j))))) ∧ Below wo.heap.size wo wr) (fun _ i _ => q.length - (intOf i).toNat)
      case atStart => exact ⟨0, by omega, rfl, by simpa [scale] using HOm, hBm⟩
      case round =>
        clear HOm hBm hmk
        obtain ⟨j, hj, rfl, HR, HI⟩ := hrel
        have hsz2 := HI.size
        by_cases hjj : j < q.length
        · obtain ⟨b2, off2, rfl⟩ := where_ HB2.out (by omega)
          obtain ⟨x, hx⟩ : ∃ x, a * coef q j = x := ⟨_, rfl⟩
          have hWI := HW.trans (HI.mono hsz)
          have hc1 := cellAt (HB.out.below hWI) k hkk
          have hc2 := cellAt (HB2.out.below hWI) j hjj
          rw [ha] at hc1
          have hmx : ∀ v, Calls Tryz.prog 78 #[.int .u8 a.n, .int .u8 (coef q j).n] v fun e w' => e = .returned (.int .u8 x.n) ∧ w' = v := fun v => by rw [← hx]; exact refMul_f a (coef q j) v
          have HT := Lib.hid (scale_snoc a q j hjj)
          rw [hx] at HT
          have HN := Lib.hid (Row.new wr #[.int .u8 (x.n : Int)] 5 (0, 0))
          have hb3 : Below wr.heap.size wr (wr.alloc (.cells #[.int .u8 (x.n : Int)] 5)).drew := ((Below.refl _ wr).alloc (Nat.le_refl _) _).drew
          have HR2 := Lib.hid (HR.out.below hb3)
          have hs2 : (wr.alloc (.cells #[.int .u8 (x.n : Int)] 5)).drew.heap.size = wr.heap.size + 1 := by simp
          have hlen : (bv (bs (List.replicate k 0 ++ scale a (q.take j)))).length = k + j := by rw [bvs_length]; simp [scale]; omega
          have HL := Lib.hid hlen
          have Hb3 := Lib.hid hb3
          clear hx hlen hb3
          go_wp2_with fail
          go_region_law (first
            | (refine step_app _ (by rfl) (.tmp 23) (.tmp 33) _ (by rfl) wo.heap.size 5 _ 1 Tryz.underlying35 info_u8 rfl (by omega) u7 _ (by rfl) HR2.out (some ⟨wr.heap.size, 0, none⟩) 1 1 _ (by rfl) rfl HN.out.drew (by simp [Value.oneCell']) (by rw [HL.out]; simp; omega) (by omega) ?_
               intro v1 w1 hown1 hgrow _
               have HW2 := Lib.hid (HI.trans ((Hb3.out.mono hsz2).trans (HR2.out.grew (by omega) hgrow)))
               have HR3 := Lib.hid hown1
               clear hown1 hgrow)
            | (go_simp; go_at_call 78; refine (hmx _).mono ?_; rintro e w' ⟨rfl, rfl⟩))
          all_goals
            go_wp2
            go_roundw
            case rel => exact ⟨j + 1, by omega, by go_num, by rw [HT.out, ← List.append_assoc, bvs_snoc]; exact HR3, HW2.out⟩
            case measure => simp [intOf]; omega
        · obtain rfl : j = q.length := by omega
          have HT : Hid (q.take q.length = q) := Lib.hid (List.take_length)
          rw [HT.out] at HR
          have l1 : (trim (pmul (p.take k) q)).length ≤ 1000000000 := by
            have := trim_le (pmul (p.take k) q)
            have := pmul_length_le (p.take k) q
            have : (p.take k).length ≤ k := List.length_take_le _ _
            omega
          have l2 : (List.replicate k (0 : F8) ++ scale a q).length ≤ 1000000000 := by simp [scale]; omega
          have HE : Hid (trim (padd (trim (pmul (p.take k) q)) (List.replicate k 0 ++ scale a q)) = trim (pmul (p.take (k + 1)) q)) := Lib.hid (by
            refine trim_congr ((padd_congr (trim_eqv _) (Eqv.refl _)).trans ?_)
            rw [take_succ' p hkk, ← coef_of_lt hkk, ha]
            have := pmul_snoc (p.take k) a q
            rw [List.length_take, Nat.min_eq_left hk] at this
            exact this.symm)
          have HO1 := Lib.hid (HO.out.below HI)
          obtain ⟨o, ho⟩ : ∃ o, trim (pmul (p.take k) q) = o := ⟨_, rfl⟩
          obtain ⟨r, hr⟩ : ∃ r, List.replicate k 0 ++ scale a q = r := ⟨_, rfl⟩
          rw [ho] at HO1 l1 HE
          rw [hr] at HR l2 HE
          obtain ⟨A2, c2, rfl, hc2⟩ := Own.shape HO1.out
          obtain ⟨A3, c3, rfl, hc3⟩ := Own.shape HR.out
          have HI2 := Lib.hid HI
          clear HT hj hjj ha HI ho hr HO
          go_wp2_with (go_at_call 75; (with_reducible refine (refAdd_calls A2 A3 o r c2 c3 _ (Own.bytes HO1.out) (Own.bytes HR.out) l1 l2).mono ?_); rintro e w3 ⟨A4, c4, rfl, hc4, hO4, hB4⟩; rw [HE.out] at hO4 hc4 ⊢; have HO4 := Lib.hid (hO4.more (Nat.le_trans hsz hsz2)); have HB4 := Lib.hid (HW.trans ((HI2.out.mono hsz).trans (hB4.mono (Nat.le_trans hsz hsz2)))); clear hO4 hB4)
          go_roundw
          case rel => exact ⟨k + 1, by omega, by go_num, HO4, HB4.out⟩
          case measure => simp [intOf]; omega
    · obtain rfl : k = p.length := by omega
      have HT : Hid (p.take p.length = p) := Lib.hid (List.take_length)
      rw [HT.out] at HO
      clear hkk hk HT
      go_wp2
      go_ret
      exact Res.mk HO.out HW
end Go.Proofs.YtjoghbmedfmioabGreat.Poly

namespace Go.Proofs.YtjoghbmedfmioabGreat.Poly
open Go.RowKit F8
open GF (ret_bool ret_int ret_nat val_int refMul_calls refDiv_calls refDiv_zero)
theorem refPMul_len (A B : Option Addr) (p q : List F8) (m n c d : Nat) (w : World) (hm : p.length = m) (hn : q.length = n) (hb : Bytes w A (bs p)) (hb2 : Bytes w B (bs q)) (hl : m ≤ 100000000) (hl2 : n ≤ 100000000) :
  Calls Tryz.prog 76 #[.slice A m c, .slice B n d] w fun e w' => Res w w' e (trim (pmul p q)) := by
 subst hm hn; exact refPMul_calls A B p q c d w hb hb2 hl hl2
theorem refAdd_len (A B : Option Addr) (p q : List F8) (m n c d : Nat) (w : World) (hm : p.length = m) (hn : q.length = n) (hb : Bytes w A (bs p)) (hb2 : Bytes w B (bs q)) (hl : m ≤ 1000000000) (hl2 : n ≤ 1000000000) :
  Calls Tryz.prog 75 #[.slice A m c, .slice B n d] w fun e w' => Res w w' e (trim (padd p q)) := by
 subst hm hn; exact refAdd_calls A B p q c d w hb hb2 hl hl2
set_option maxRecDepth 100000 in
set_option maxHeartbeats 1600000 in
theorem refAt_calls (A : Option Addr) (p : List F8) (m c : Nat) (x : F8) (w : World) (hm : p.length = m) (hb : Bytes w A (bs p)) (hl : m ≤ 1000000000) :
  Calls Tryz.prog 66 #[.slice A m c, .int .u8 x.n] w fun e w' => e = .returned (.int .u8 (eval p x).n) ∧ w = w' := by
 subst hm
 have HB := Lib.hid hb
 clear hb
 go_enter Tryz.func66, Tryz.ntmps66
 go_wp2
 go_loop [5, 6, 7] (fun y pw i => ∃ k : Nat, k ≤ p.length ∧ i = .int .i64 k ∧ y = .int .u8 (eval (p.take k) x).n ∧ pw = .int .u8 (xpow x k).n) (fun _ _ i => p.length - (intOf i).toNat)
 case atStart => exact ⟨0, by omega, rfl, rfl, rfl⟩
 case round =>
  obtain ⟨k, hk, rfl, rfl, rfl⟩ := hrel
  by_cases hlt : k < p.length
  ·obtain ⟨b, off, rfl⟩ := where_ HB.out (by omega)
   have hc := cellAt HB.out k hlt
   have HX := Lib.hid (xor_u8 (eval (p.take k) x) (coef p k * xpow x k))
   have HE : Hid (eval (p.take k) x + coef p k * xpow x k = eval (p.take (k + 1)) x) := Lib.hid (by
    rw [take_succ' p hlt, ← coef_of_lt hlt, eval_snoc, List.length_take, Nat.min_eq_left hk])
   have HP : Hid (xpow x k * x = xpow x (k + 1)) := Lib.hid (F8.mul_comm _ _)
   have m1 := refMul_f (coef p k) (xpow x k)
   have m2 := refMul_f (xpow x k) x
   go_wp2_with (go_at_call 78; (first | (with_reducible refine (m1 _).mono ?_) | (with_reducible refine (m2 _).mono ?_)); rintro e w' ⟨rfl, rfl⟩)
   go_round
   case rel => exact ⟨k + 1, by omega, by go_num, by rw [HX.out, HE.out], by rw [HP.out]⟩
   case measure => simp [intOf]; omega
  ·obtain rfl : k = p.length := by omega
   go_wp2
   go_ret
   exact ⟨rfl, rfl⟩
theorem lit2 (w : World) (x : F8) : Bytes (w.alloc (.cells #[.int .u8 x.n, .int .u8 1] 5)) (some ⟨w.heap.size, 0, none⟩) (bs [x, 1]) :=
 ⟨Row.new w #[.int .u8 (x.n : Int), .int .u8 1] 5 (0, 0), bs_lt _⟩
theorem own1 (w : World) (B : Nat) (hB : B ≤ w.heap.size) : Own (w.alloc (.cells #[.int .u8 1] 5)) B 5 (.slice (some ⟨w.heap.size, 0, none⟩) 1 1) (bv (bs [1])) :=
 Own.lit w B 5 #[.int .u8 1] 1 hB rfl (by simp [maxLen])
theorem trim_one : trim [1] = [1] := trim_snoc [] 1 one_ne_zero
theorem roots_length (xs : List F8) : (trim (roots xs)).length = xs.length + 1 := len_roots xs
set_option maxRecDepth 100000 in
set_option maxHeartbeats 1600000 in
theorem refRoots_calls (A : Option Addr) (p : List F8) (m c : Nat) (w : World) (hm : p.length = m) (hb : Bytes w A (bs p)) (hl : m ≤ 10000000) :
  Calls Tryz.prog 73 #[.slice A m c] w fun e w' => Res w w' e (trim (roots p)) := by
 subst hm
 have HB := Lib.hid hb
 clear hb
 have HO0 := Lib.hid (own1 w w.heap.size (Nat.le_refl _))
 go_enter Tryz.func73, Tryz.ntmps73
 go_wp2
 go_loopw [3, 4] (fun out i wr => ∃ k : Nat, k ≤ p.length ∧ i = .int .i64 k ∧ Hid (Own wr w.heap.size 5 out (bv (bs (trim (roots (p.take k)))))) ∧ Below w.heap.size w wr) (fun _ i _ => p.length - (intOf i).toNat)
 case atStart => exact ⟨0, by omega, rfl, by rw [List.take_zero]; show Hid (Own _ _ _ _ (bv (bs (trim [1])))); rw [trim_one]; exact HO0, (Below.refl _ _).alloc (Nat.le_refl _) _⟩
 case round =>
  clear HO0
  obtain ⟨k, hk, rfl, HO, HW⟩ := hrel
  have hsz := HW.size
  by_cases hlt : k < p.length
  ·obtain ⟨b, off, rfl⟩ := where_ HB.out (by omega)
   have hc := cellAt (HB.out.below HW) k hlt
   have HL := Lib.hid (lit2 wr (coef p k))
   have HE : Hid (trim (pmul (trim (roots (p.take k))) [coef p k, 1]) = trim (roots (p.take (k + 1)))) := Lib.hid (by
    rw [take_succ' p hlt, ← coef_of_lt hlt]
    exact trim_congr ((pmul_congr_left _ (trim_eqv _)).trans (roots_snoc _ _).symm))
   have hrl := roots_length (p.take k)
   rw [List.length_take, Nat.min_eq_left hk] at hrl
   have HO1 := Lib.hid (HO.out.alloc (.cells #[.int .u8 (coef p k).n, .int .u8 1] 5))
   obtain ⟨o, ho⟩ : ∃ o, trim (roots (p.take k)) = o := ⟨_, rfl⟩
   rw [ho] at HO1 HE hrl
   obtain ⟨A2, c2, rfl, hc2⟩ := Own.shape HO1.out
   have hol : o.length ≤ 100000000 := by omega
   clear ho HO hrl
   go_wp2_with (go_at_call 76; (with_reducible refine (refPMul_len A2 (some ⟨wr.heap.size, 0, none⟩) o [coef p k, 1] o.length 2 c2 2 _ rfl rfl (Own.bytes HO1.out) HL.out hol (by decide)).mono ?_); rintro e w3 ⟨A4, c4, rfl, hc4, hO4, hB4⟩; rw [HE.out] at hO4 hc4 ⊢; have HO4 := Lib.hid (hO4.more (by simp; omega : w.heap.size ≤ _)); have HB4 := Lib.hid ((HW.alloc hsz _).trans (hB4.mono (by simp; omega))); clear hO4 hB4)
   go_roundw
   case rel => exact ⟨k + 1, by omega, by go_num, HO4, HB4.out⟩
   case measure => simp [intOf]; omega
  ·obtain rfl : k = p.length := by omega
   have HT : Hid (p.take p.length = p) := Lib.hid List.take_length
   rw [HT.out] at HO
   clear hlt hk HT
   go_wp2
   go_ret
   exact Res.mk HO.out HW
theorem refDiv_f (a b : F8) (hb : b ≠ 0) (w : World) : Calls Tryz.prog 74 #[.int .u8 a.n, .int .u8 b.n] w fun e w' => e = .returned (.tuple #[.int .u8 (a / b).n, .bool true]) ∧ w' = w :=
 (refDiv_calls a.n b.n a.h b.h (n_ne_zero.2 hb) w).mono fun _ _ ⟨h1, h2⟩ => ⟨h1, h2.symm⟩
end Go.Proofs.YtjoghbmedfmioabGreat.Poly

namespace Go.Proofs.YtjoghbmedfmioabGreat.Poly
open Go.RowKit F8
open GF (ret_bool ret_int ret_nat val_int refMul_calls refDiv_calls refDiv_zero)
def rest (xs : List F8) (k : Nat) : List F8 := xs.take k ++ xs.drop (k + 1)
theorem rest_length (xs : List F8) (k : Nat) (hk : k < xs.length) : (rest xs k).length + 1 = xs.length := by
 simp [rest]; omega
theorem mem_rest {xs : List F8} {j k : Nat} (hj : j < xs.length) (hne : j ≠ k) : xs[j] ∈ rest xs k := by
 unfold rest
 rw [List.mem_append]
 rcases Nat.lt_or_ge j k with h | h
 ·exact .inl (List.mem_iff_getElem.2 ⟨j, by rw [List.length_take]; omega, by rw [List.getElem_take]⟩)
 ·refine .inr (List.mem_iff_getElem.2 ⟨j - (k + 1), by rw [List.length_drop]; omega, ?_⟩)
  rw [List.getElem_drop]; congr 1; omega
theorem of_mem_rest {xs : List F8} {k : Nat} {x : F8} (h : x ∈ rest xs k) : ∃ j, ∃ hj : j < xs.length, j ≠ k ∧ xs[j] = x := by
 unfold rest at h
 rw [List.mem_append] at h
 rcases h with h | h
 ·obtain ⟨j, hj, rfl⟩ := List.mem_iff_getElem.1 h
  rw [List.length_take] at hj
  exact ⟨j, by omega, by omega, by rw [List.getElem_take]⟩
 ·obtain ⟨j, hj, rfl⟩ := List.mem_iff_getElem.1 h
  rw [List.length_drop] at hj
  exact ⟨k + 1 + j, by omega, by omega, by rw [List.getElem_drop]⟩
theorem nodup_of {xs : List F8} (h : ∀ k (hk : k < xs.length), xs[k] ∉ rest xs k) : xs.Nodup := by
 rw [List.nodup_iff_pairwise_ne, List.pairwise_iff_getElem]
 intro i j hi hj hij e
 exact h i hi (by rw [e]; exact mem_rest hj (by omega))
theorem not_nodup {xs : List F8} {k : Nat} (hk : k < xs.length) (h : xs[k] ∈ rest xs k) : ¬ xs.Nodup := by
 intro hn
 obtain ⟨j, hj, hne, e⟩ := of_mem_rest h
 exact hne ((List.getElem_inj hn).1 e)
structure Upto (xs ys : List F8) (k : Nat) (O : List F8) : Prop where
 tr : trim O = O
 bdd : Bdd O xs.length
 val : ∀ j (h : j < xs.length) (h' : j < ys.length), eval O xs[j] = if j < k then ys[j] else 0
 ne : ∀ j (h : j < xs.length), j < k → xs[j] ∉ rest xs j
theorem Upto.zero (xs ys : List F8) : Upto xs ys 0 [] := ⟨rfl, fun i _ => coef_nil i, fun j _ _ => by simp [eval], fun j _ h => by omega⟩
theorem Upto.len {xs ys O : List F8} {k : Nat} (h : Upto xs ys k O) : O.length ≤ xs.length := by
 have := len_le_of_bdd h.bdd
 unfold Poly.len at this
 rwa [h.tr] at this
theorem Upto.next {xs ys O : List F8} {k : Nat} (h : Upto xs ys k O) (hk : k < xs.length) (hk' : k < ys.length) (hr : xs[k] ∉ rest xs k) (t : F8) (ht : t = ys[k] / eval (trim (roots (rest xs k))) xs[k]) :
  Upto xs ys (k + 1) (trim (padd O (trim (pmul (trim (roots (rest xs k))) [t])))) := by
 have hz : ∀ x, eval (trim (roots (rest xs k))) x = 0 ↔ x ∈ rest xs k := fun x => by rw [eval_trim, eval_roots]
 have e1 : ∀ x, eval (trim (padd O (trim (pmul (trim (roots (rest xs k))) [t])))) x = eval O x + eval (trim (roots (rest xs k))) x * t := fun x => by
  rw [eval_trim, eval_padd, eval_trim, eval_pmul]
  have : eval [t] x = t := by show t + x * 0 = t; rw [mul_zero, add_zero]
  rw [this]
 refine ⟨trim_trim _, ?_, fun j hj hj' => ?_, fun j hj hjk => ?_⟩
 ·refine Bdd.congr (bdd_padd h.bdd ?_) (trim_eqv _).symm
  refine Bdd.congr (p := pmul (trim (roots (rest xs k))) [t]) (fun i hi => ?_) (trim_eqv _).symm
  have hb : Bdd (trim (roots (rest xs k))) xs.length := by
   have := bdd_length (trim (roots (rest xs k)))
   rwa [roots_length, rest_length xs k hk] at this
  exact bdd_pmul hb (bdd_length [t]) i (by simp; omega)
 ·rw [e1, h.val j hj hj']
  by_cases e : j = k
  ·subst e
   rw [if_neg (by omega), if_pos (by omega), zero_add, ht, mul_div' _ (fun e => hr ((hz _).1 e))]
  ·rw [(hz _).2 (mem_rest hj e), zero_mul, add_zero]
   by_cases h2 : j < k
   ·rw [if_pos h2, if_pos (by omega)]
   ·rw [if_neg h2, if_neg (by omega)]
 ·by_cases e : j = k
  ·subst e; exact hr
  ·exact h.ne j hj (by omega)
theorem Upto.thru {xs ys O : List F8} (h : Upto xs ys xs.length O) : xs.Nodup ∧ Thru xs ys O :=
 ⟨nodup_of fun k hk => h.ne k hk hk, ⟨h.tr, h.bdd, fun i hi hi' => by rw [h.val i hi hi', if_pos hi]⟩⟩
theorem refAt_f (A : Option Addr) (p : List F8) (m c : Nat) (x : F8) (w : World) (hm : p.length = m) (hb : Bytes w A (bs p)) (hl : m ≤ 1000000000) :
  Calls Tryz.prog 66 #[.slice A m c, .int .u8 x.n] w fun e w' => e = .returned (.int .u8 (eval p x).n) ∧ w' = w :=
 (refAt_calls A p m c x w hm hb hl).mono fun _ _ ⟨h1, h2⟩ => ⟨h1, h2.symm⟩
theorem lit1 (w : World) (x : F8) : Bytes (w.alloc (.cells #[.int .u8 x.n] 5)) (some ⟨w.heap.size, 0, none⟩) (bs [x]) :=
 ⟨Row.new w #[.int .u8 (x.n : Int)] 5 (0, 0), bs_lt _⟩
def ThruRes (xs ys : List F8) (w w' : World) (e : Ending) : Prop :=
 (xs.Nodup ∧ ∃ r A c, Thru xs ys r ∧ e = .returned (.tuple #[.slice A r.length c, .int .i64 0]) ∧ r.length ≤ c ∧ Own w' w.heap.size 5 (.slice A r.length c) (bv (bs r)) ∧ Below w.heap.size w w') ∨
 (¬ xs.Nodup ∧ e = .returned (.tuple #[.slice none 0 0, .int .i64 2]) ∧ Below w.heap.size w w')
set_option maxRecDepth 100000 in
set_option maxHeartbeats 4000000 in
theorem refThrough_calls (A B : Option Addr) (xs ys : List F8) (m n c d : Nat) (w : World) (hm : xs.length = m) (hn : ys.length = n) (hmn : m = n) (hb : Bytes w A (bs xs)) (hb2 : Bytes w B (bs ys)) (hc : m ≤ c) (hl : m ≤ 10000000) :
  Calls Tryz.prog 62 #[.slice A m c, .slice B n d] w fun e w' => ThruRes xs ys w w' e := by
 subst hm
 subst hmn
 have HB := Lib.hid hb
 have HB2 := Lib.hid hb2
 have HYL := Lib.hid hn
 clear hb hb2 hn
 have h1 : ((xs.length : Int) != (xs.length : Int)) = false := by simp
 go_enter Tryz.func62, Tryz.ntmps62
 go_wp2
 go_loopw [6, 7] (fun out i wr => ∃ k : Nat, ∃ O Ao co, k ≤ xs.length ∧ i = .int .i64 k ∧ out = .slice Ao O.length co ∧ O.length ≤ co ∧ Hid (Upto xs ys k O) ∧ Hid (Own wr w.heap.size 5 (.slice Ao O.length co) (bv (bs O))) ∧ Below w.heap.size w wr) (fun _ i _ => xs.length - (intOf i).toNat)
 case atStart => exact ⟨0, [], none, 0, by omega, rfl, rfl, by simp, Lib.hid (Upto.zero xs ys), Lib.hid (Own.nil _ _ _), Below.refl _ _⟩
 case round =>
  obtain ⟨k, O, Ao, co, hk, rfl, rfl, hco, HU, HO, HW⟩ := hrel
  have hsz := HW.size
  by_cases hlt : k < xs.length
  ·have hlt' : k < ys.length := by rw [HYL.out]; exact hlt
   obtain ⟨b, off, rfl⟩ := where_ HB.out (by omega)
   obtain ⟨b2, off2, rfl⟩ := where_ HB2.out (by omega)
   obtain ⟨A5, hsl, hb5, hblk⟩ := slice_from (HB.out.below HW) c (k + 1) (by omega) hc
   simp only [show ((k + 1 : Nat) : Int) = (k : Int) + 1 by omega] at hsl
   have HB5 := Lib.hid hb5
   have HT1 := Lib.hid (bytes_take (HB.out.below HW) k)
   have HTL : Hid ((xs.take k).length = k) := Lib.hid (by rw [List.length_take]; omega)
   have hz : ((xs.length : Int) - ((k : Int) + 1)).toNat = xs.length - (k + 1) := by omega
   clear hb5 hblk hz
   have HRV : Hid (bv (bs (xs.take k)) ++ bv (bs (xs.drop (k + 1))) = bv (bs (rest xs k))) := Lib.hid (by rw [rest, bs_append, bv_append])
   have HRL := Lib.hid (rest_length xs k hlt)
   obtain ⟨L, hL⟩ : ∃ L, rest xs k = L := ⟨_, rfl⟩
   rw [hL] at HRV HRL
   have HLL := Lib.hid hL
   have HTv := Lib.hid (bvs_length (xs.take k))
   have HDv : Hid ((bv (bs (xs.drop (k + 1)))).length = xs.length - (k + 1)) := Lib.hid (by rw [bvs_length, List.length_drop])
   clear hL
   go_wp2_with (first
    | (at_builtin; refine wpList_app _ rfl (.tmp 23) (.tmp 26) _ rfl wr.heap.size 5 _ 1 Tryz.underlying35 info_u8 rfl (by omega) (.slice none 0 0) [] rfl (Own.nil _ _ _) (some ⟨b, off, none⟩) k c (bv (bs (xs.take k))) rfl (by rw [HTv.out]; exact HTL.out) HT1.out.row (bv_one _) (by simp; omega) (Nat.le_refl _) ?_; intro v1 w1 hown1 hg1 _; have B1 := (Own.nil wr wr.heap.size 5).grew (Nat.le_refl _) hg1; have HO1 := Lib.hid hown1; clear hown1 hg1)
    | (at_builtin; refine wpList_app _ rfl (.tmp 28) (.tmp 32) _ rfl wr.heap.size 5 _ 1 Tryz.underlying35 info_u8 rfl (by omega) v1 ([] ++ bv (bs (xs.take k))) rfl HO1.out A5 (xs.length - (k + 1)) (c - (k + 1)) (bv (bs (xs.drop (k + 1)))) rfl HDv.out (HB5.out.below B1).row (bv_one _) (by rw [List.nil_append, HTv.out, HTL.out]; omega) B1.size ?_; intro v2 w2 hown2 hg2 _; have B2 := B1.trans ((HO1.out.grew B1.size hg2)); rw [List.nil_append, HRV.out] at hown2; obtain ⟨A3, c3, rfl, hc3⟩ := Own.shape hown2; have HO2 := Lib.hid hown2; clear hown2 hg2 HO1 B1))
   have hL1 := HRL.out
   obtain ⟨G, hG⟩ : ∃ G, trim (roots L) = G := ⟨_, rfl⟩
   have hGl : G.length ≤ 10000000 := by rw [← hG, roots_length]; omega
   have HG := Lib.hid hG
   have hx1 : xs[k] = coef xs k := (coef_of_lt hlt).symm
   have hy1 : ys[k] = coef ys k := (coef_of_lt hlt').symm
   have hzero : eval G (coef xs k) = 0 ↔ coef xs k ∈ rest xs k := by rw [← hG, eval_trim, eval_roots, HLL.out]
   have HZero := Lib.hid hzero
   have HX1 := Lib.hid hx1
   have HY1 := Lib.hid hy1
   replace HO := Lib.hid (HO.out.below B2)
   replace HW := HW.trans (B2.mono hsz)
   clear hG hL1 HRV HTv HDv HT1 HTL hsl HB5 hx1 hy1 hzero
   go_wp2_with fail
   refine (refRoots_calls A3 L L.length c3 _ rfl (Own.bytes HO2.out) (by have := HRL.out; omega)).mono ?_
   rintro e w3 ⟨A4, c4, rfl, hc4, hO4, hB4⟩
   rw [HG.out] at hO4 hc4 ⊢
   have HG4 := Lib.hid hO4
   replace HO := Lib.hid (HO.out.below hB4)
   replace HW := HW.trans (hB4.mono HW.size)
   clear hO4 hB4 HO2
   have hcx := cellAt (HB.out.below HW) k hlt
   have hcy := cellAt (HB2.out.below HW) k hlt'
   have hat : ∀ nq, Calls Tryz.prog 66 #[.slice A4 G.length c4, .int .u8 (coef xs k).n] (w3.drewN nq) fun e w' => e = .returned (.int .u8 (eval G (coef xs k)).n) ∧ w' = w3.drewN nq := fun nq => refAt_f A4 G G.length c4 _ _ rfl ((Own.bytes HG4.out).drewN nq) (by omega)
   by_cases hin : coef xs k ∈ rest xs k
   ·rw [HZero.out.2 hin] at hat
    have hdv : ∀ v, Calls Tryz.prog 74 #[.int .u8 (coef ys k).n, .int .u8 0] v fun e w' => e = .returned (.tuple #[.int .u8 0, .bool false]) ∧ w' = v := fun v => (refDiv_zero _ v).mono fun _ _ ⟨h1, h2⟩ => ⟨h1, h2.symm⟩
    have hat0 : ∀ nq, Calls Tryz.prog 66 #[.slice A4 G.length c4, .int .u8 (coef xs k).n] (w3.drewN nq) fun e w' => e = .returned (.int .u8 0) ∧ w' = w3.drewN nq := hat
    have HND : Hid (¬ xs.Nodup) := Lib.hid (not_nodup hlt (by rw [HX1.out]; exact hin))
    clear hat hin HZero
    go_wp2_with fail
    go_quiet ((first | (go_at_call 66; exact Calls.quiet_of_same (hat0 _)) | (go_at_call 74; exact Calls.quiet_of_same (hdv _))))
    go_wp2
    go_ret2
    exact .inr ⟨HND.out, rfl, Below.drewN' HW nq⟩
   ·have hne : eval G (coef xs k) ≠ 0 := fun e => hin (HZero.out.1 e)
    obtain ⟨t, ht⟩ : ∃ t, coef ys k / eval G (coef xs k) = t := ⟨_, rfl⟩
    have hdv := refDiv_f (coef ys k) (eval G (coef xs k)) hne
    rw [ht] at hdv
    obtain ⟨S, hS⟩ : ∃ S, trim (pmul G [t]) = S := ⟨_, rfl⟩
    obtain ⟨O', hO'⟩ : ∃ O', trim (padd O S) = O' := ⟨_, rfl⟩
    have HU' : Hid (Upto xs ys (k + 1) O') := Lib.hid (by
     have := HU.out.next hlt hlt' (by rw [HX1.out]; exact hin) t (by rw [HLL.out, HG.out, HX1.out, HY1.out, ht])
     rw [HLL.out, HG.out, hS, hO'] at this
     exact this)
    have hSl : S.length ≤ 100000000 := by
     rw [← hS]
     have := trim_le (pmul G [t])
     have h2 := pmul_length_le G [t]
     rw [show ([t] : List F8).length = 1 from rfl] at h2
     omega
    have hOl : O.length ≤ xs.length := HU.out.len
    have HS := Lib.hid hS
    have HO1 := Lib.hid hO'
    clear hS hO' ht hne hin HZero
    go_wp2_with fail
    go_quiet ((first | (go_at_call 66; exact Calls.quiet_of_same (hat _)) | (go_at_call 74; exact Calls.quiet_of_same (hdv _))))
    have HOd := Lib.hid (HO.out.drewN nq)
    have HGd := Lib.hid (HG4.out.drewN nq)
    have HWd := Below.drewN' HW nq
    clear hat hdv hcx hcy HO HG4 HW hsz B2
    generalize w3.drewN nq = wq at *
    have hsz := HWd.size
    have HL1 := Lib.hid (lit1 wq t)
    have HG5 := Lib.hid (Own.bytes (HGd.out.alloc (.cells #[.int .u8 t.n] 5)))
    replace HOd := Lib.hid (HOd.out.alloc (.cells #[.int .u8 t.n] 5))
    go_wp2_with fail
    refine (refPMul_len A4 (some ⟨wq.heap.size, 0, none⟩) G [t] G.length 1 c4 1 _ rfl rfl HG5.out HL1.out (by omega) (by decide)).mono ?_
    rintro e w5 ⟨A5', c5, rfl, hc5, hO5, hB5⟩
    rw [HS.out] at hO5 hc5 ⊢
    have HS5 := Lib.hid hO5
    replace HOd := Lib.hid (HOd.out.below hB5)
    replace HWd := (HWd.alloc hsz (.cells #[.int .u8 t.n] 5)).trans (hB5.mono (by simp; omega))
    clear hO5 hB5 HGd HG5 HL1
    go_wp2_with fail
    refine (refAdd_len Ao A5' O S O.length S.length co c5 _ rfl rfl (Own.bytes HOd.out) (Own.bytes HS5.out) (by omega) (by omega)).mono ?_
    rintro e w6 ⟨A6, c6, rfl, hc6, hO6, hB6⟩
    rw [HO1.out] at hO6 hc6 ⊢
    have HO6 := Lib.hid (hO6.more HWd.size)
    replace HWd := HWd.trans (hB6.mono HWd.size)
    clear hO6 hB6
    go_wp2_with fail
    go_roundw
    case rel => exact ⟨k + 1, O', A6, c6, by omega, by go_num, rfl, hc6, HU', HO6, HWd⟩
    case measure => simp [intOf]; omega
  ·obtain rfl : k = xs.length := by omega
   have HTh := Lib.hid HU.out.thru
   clear hlt hk HU
   go_wp2
   refine bodyPost_ret (v := .tuple #[.slice Ao O.length co, .int .i64 0]) (by simp [results, Tryz.results62, go_sem]) rfl ?_
   exact .inl ⟨HTh.out.1, O, Ao, co, HTh.out.2, rfl, hco, HO.out, HW⟩
end Go.Proofs.YtjoghbmedfmioabGreat.Poly

namespace Go.Proofs.YtjoghbmedfmioabGreat.GF
open Go.RowKit
theorem add_calls (a b : Nat) (ha : a < 256) (hb : b < 256) (w : World) :
  Calls Tryz.prog 89 #[.int .u8 a, .int .u8 b] w fun e w' => e = .returned (.int .u8 (a ^^^ b : Nat)) ∧ w = w' := by
 have HX := Lib.hid (u8_xor' a b ha hb)
 go_enter Tryz.func89, Tryz.ntmps89
 go_wp2
 go_ret
 exact ⟨ret_int HX.out, rfl⟩
set_option maxHeartbeats 1600000 in
theorem mul_calls (p : Option Addr) (a b : Nat) (ha : a < 256) (hb : b < 256) (w : World) (hp : FldP w p) :
  Calls Tryz.prog 90 #[.pointer p, .int .u8 a, .int .u8 b] w fun e w' => e = .returned (.int .u8 (gm a b : Nat)) ∧ FldP w' p ∧ Past w.heap.size (rb w p) w w' := by
 by_cases a0 : a = 0
 ·subst a0
  rw [zero_gm]
  go_enter Tryz.func90, Tryz.ntmps90
  go_wp2
  go_ret
  exact ⟨rfl, hp, Past.refl _ _ _⟩
 by_cases b0 : b = 0
 ·subst b0
  rw [gm_zero]
  have h1 : ((a : Int) == 0) = false := by simp; omega
  go_enter Tryz.func90, Tryz.ntmps90
  go_wp2
  go_ret
  exact ⟨rfl, hp, Past.refl _ _ _⟩
 have h1 : ((a : Int) == 0) = false := by simp; omega
 have h2 : ((b : Int) == 0) = false := by simp; omega
 have hl1 := gl_lt ha
 have hl2 := gl_lt hb
 have HG : Hid (gm a b = gp ((gl a + gl b) % 255)) := Lib.hid (by unfold gm; rw [if_neg a0, if_neg b0])
 go_enter Tryz.func90, Tryz.ntmps90
 go_wp2_with (go_at_call 51; refine (ready_any p _ hp).mono ?_; rintro e w' ⟨g, rfl, hM, hp', hP, hg⟩)
 have c1 := hM.log a ha
 have c2 := hM.log b hb
 have c3 := hM.pow ((gl a + gl b) % 255) (by omega)
 go_region
 all_goals
  go_wp2
  go_ret
  exact ⟨ret_nat HG.out.symm, hp'.drewN 1, hP.drew⟩
set_option maxHeartbeats 1600000 in
theorem div_calls (p : Option Addr) (a b : Nat) (ha : a < 256) (hb : b < 256) (b0 : b ≠ 0) (w : World) (hp : FldP w p) :
  Calls Tryz.prog 85 #[.pointer p, .int .u8 a, .int .u8 b] w fun e w' => e = .returned (.tuple #[.int .u8 (gq a b : Nat), .bool true]) ∧ FldP w' p ∧ Past w.heap.size (rb w p) w w' := by
 have h2 : ((b : Int) == 0) = false := by simp; omega
 by_cases a0 : a = 0
 ·subst a0
  rw [show gq 0 b = 0 from rfl]
  go_enter Tryz.func85, Tryz.ntmps85
  go_wp2
  go_ret2
  exact ⟨rfl, hp, Past.refl _ _ _⟩
 have h1 : ((a : Int) == 0) = false := by simp; omega
 have hl1 := gl_lt ha
 have hl2 := gl_lt hb
 have HG : Hid (gq a b = gp ((gl a + (255 - gl b)) % 255)) := Lib.hid (by unfold gq; rw [if_neg a0])
 obtain ⟨k, hk⟩ : ∃ k : Nat, k = (gl a + (255 - gl b)) % 255 := ⟨_, rfl⟩
 have hki : ((gl a : Int) - gl b + 255) % 255 = (k : Int) := by omega
 have hk5 : k < 255 := by omega
 rw [← hk] at HG
 clear hk
 go_enter Tryz.func85, Tryz.ntmps85
 go_wp2_with (go_at_call 51; refine (ready_any p _ hp).mono ?_; rintro e w' ⟨g, rfl, hM, hp', hP, hg⟩)
 have c1 := hM.log a ha
 have c2 := hM.log b hb
 have c3 := hM.pow k hk5
 go_region
 all_goals
  go_wp2
  go_ret2
  exact ⟨ret_pair HG.out.symm, hp'.drewN 1, hP.drew⟩
set_option maxHeartbeats 1600000 in
theorem exp_calls (p : Option Addr) (n : Int) (hl : -9223372036854775808 ≤ n) (hh : n < 9223372036854775808) (w : World) (hp : FldP w p) :
  Calls Tryz.prog 27 #[.pointer p, .int .i64 n] w fun e w' => e = .returned (.int .u8 (ge n : Nat)) ∧ FldP w' p ∧ Past w.heap.size (rb w p) w w' := by
 have ht := tmod255 n
 have hm : IntKind.i64.wrap (n.tmod 255) = n.tmod 255 := IntWalk.i64_in _ (by omega)
 obtain ⟨k, hk⟩ : ∃ k : Nat, k = (n % 255).toNat := ⟨_, rfl⟩
 have hk5 : k < 255 := by omega
 have HG : Hid (ge n = gp k) := Lib.hid (by unfold ge; rw [hk])
 obtain ⟨m, hmm⟩ : ∃ m : Int, n.tmod 255 = m := ⟨_, rfl⟩
 rw [hmm] at hm ht
 by_cases hneg : m < 0
 ·have hm2 : m + 255 = (k : Int) := by omega
  clear hk ht
  go_enter Tryz.func27, Tryz.ntmps27
  go_wp2_with (go_at_call 51; refine (ready_any p _ hp).mono ?_; rintro e w' ⟨g, rfl, hM, hp', hP, hg⟩; have c3 := hM.pow k hk5)
  go_ret
  exact ⟨ret_nat HG.out.symm, hp', hP⟩
 ·obtain rfl : m = (k : Int) := by omega
  clear hk ht
  go_enter Tryz.func27, Tryz.ntmps27
  go_wp2_with (go_at_call 51; refine (ready_any p _ hp).mono ?_; rintro e w' ⟨g, rfl, hM, hp', hP, hg⟩; have c3 := hM.pow k hk5)
  go_ret
  exact ⟨ret_nat HG.out.symm, hp', hP⟩
end Go.Proofs.YtjoghbmedfmioabGreat.GF

namespace Go.Proofs.YtjoghbmedfmioabGreat
open Go.RowKit
def str (l : List Nat) : ByteArray := ⟨(l.map UInt8.ofNat).toArray⟩
theorem str_size (l : List Nat) : (str l).size = l.length := by simp [str, ByteArray.size]
theorem str_data (l : List Nat) : (str l).data.toList = l.map UInt8.ofNat := rfl
theorem str_inj {a b : List Nat} (ha : ∀ c ∈ a, c < 256) (hb : ∀ c ∈ b, c < 256) (h : str a = str b) : a = b := by
 have h1 : a.map UInt8.ofNat = b.map UInt8.ofNat := by rw [← str_data, ← str_data, h]
 have back : ∀ l : List Nat, (∀ c ∈ l, c < 256) → (l.map UInt8.ofNat).map UInt8.toNat = l := by
  intro l hl
  rw [List.map_map]
  conv => rhs; rw [← List.map_id l]
  apply List.map_congr_left
  intro c hc
  have := hl c hc
  simp [Nat.mod_eq_of_lt this]
 rw [← back a ha, ← back b hb, h1]
theorem str_nil : str [] = ByteArray.empty := rfl
section
variable {P : Program}
theorem conv_str {w : World} {A : Option Addr} {l : List Nat} (hb : Bytes w A l) (c : Nat) (src dst e : TypeId) (hs : P.underlying src = some (.slice e)) (he : P.underlying e = some (.int .u8)) (hd : P.underlying dst = some .string) :
  (convert src dst (.slice A l.length c)).run P w = .ok (.string (str l)) w := by
 cases A with
 | none =>
  have hl : l = [] := by
   cases l with
   | nil => rfl
   | cons x l => obtain ⟨b, off, h, _⟩ := hb.row 0 (.int .u8 x) rfl; cases h
  subst hl
  exact run_convert_bytes_nil w src e hs he _ _ dst hd
 | some a =>
  by_cases hl : l = []
  ·subst hl
   rw [run_convert_bytes_string w src dst e (some a) _ c hs he hd]
   have := run_bytesToString (P := P) w a 0 c [] (by simp [loadCells, loadCellsFrom])
   rw [str_nil]
   simpa using this
  ·have h0 : 0 < l.length := by cases l <;> simp_all
   obtain ⟨b, off, h, _⟩ := hb.at_ h0
   obtain rfl : a = ⟨b, off, none⟩ := by injection h
   have h1 := run_convert_bytes_arg (P := P) w src e hs he b off l.length c (l.map fun n : Nat => (n : Int)) (by simp) (fun i hi => by
    obtain ⟨b', off', h', hc, _⟩ := hb.at_ hi
    simp only [Option.some.injEq, Addr.mk.injEq] at h'
    obtain ⟨rfl, rfl, _⟩ := h'
    rw [hc]; simp [List.getD, List.getElem?_eq_getElem hi]) dst hd
   rw [h1]
   have : strOfNums (l.map fun n : Nat => (n : Int)) = str l := by
    unfold strOfNums str; simp
   rw [this]
theorem conv_bytes (w : World) (l : List Nat) (src dst e : TypeId) (hs : P.underlying src = some .string) (hd : P.underlying dst = some (.slice e)) (he : P.underlying e = some (.int .u8)) :
  (convert src dst (.string (str l))).run P w = .ok (.slice (some ⟨w.heap.size, 0, none⟩) l.length (grownCap w l.length 0 e)) (Lib.bytesWorld w e (str l)) := by
 have := Lib.run_convert_string_bytes (P := P) w src dst e (str l) hs hd he
 rw [str_size] at this
 exact this
theorem bytesWorld_bytes (w : World) (e : TypeId) (l : List Nat) (hl : ∀ c ∈ l, c < 256) : Bytes (Lib.bytesWorld w e (str l)) (some ⟨w.heap.size, 0, none⟩) l := by
 refine ⟨fun k u hu => ⟨w.heap.size, 0, rfl, ?_⟩, hl⟩
 have hk : k < l.length := by have := (List.getElem?_eq_some_iff.1 hu).1; rwa [bv_length] at this
 rw [Nat.zero_add, Lib.bytesWorld_cell w e (str l) k (by rw [str_size]; exact hk), str_data]
 simp only [bv, List.getElem?_map, List.getElem?_eq_getElem hk, Option.map_some, Option.some.injEq] at hu
 rw [← hu]
 simp [List.getD, List.getElem?_eq_getElem hk, Nat.mod_eq_of_lt (hl _ (List.getElem_mem hk))]
theorem bytesWorld_below (w : World) (e : TypeId) (s : ByteArray) : Below w.heap.size w (Lib.bytesWorld w e s) :=
 ⟨by simp [Lib.bytesWorld, World.freeze]; rfl, by simp [Lib.bytesWorld, World.freeze], by simp [Lib.bytesWorld, World.freeze]; rfl, by rw [Lib.bytesWorld_size]; omega, fun k hk => Lib.bytesWorld_at_old w e s k hk⟩
end
end Go.Proofs.YtjoghbmedfmioabGreat

namespace Go.Proofs.YtjoghbmedfmioabGreat.Poly
open Go.RowKit F8 GF
theorem conv_f {w : World} {A : Option Addr} {p : List F8} (hb : Bytes w A (bs p)) (m c : Nat) (hm : p.length = m) : (convert 35 9 (.slice A m c)).run Tryz.prog w = .ok (.string (str (bs p))) w := by
 have h := conv_str (P := Tryz.prog) hb c 35 9 5 Tryz.underlying35 Tryz.underlying5 Tryz.underlying9
 rw [bs_length, hm] at h; exact h
set_option maxHeartbeats 1000000 in
theorem same_calls (A B : Option Addr) (p q : List F8) (m n c d : Nat) (w : World) (hm : p.length = m) (hn : q.length = n) (hb : Bytes w A (bs p)) (hb2 : Bytes w B (bs q)) :
  Calls Tryz.prog 15 #[.slice A m c, .slice B n d] w fun e w' => e = .returned (.bool (decide (p = q))) ∧ w = w' := by
 have c1 := conv_f hb m c hm
 have c2 := conv_f hb2 n d hn
 have HE : Hid (((str (bs p)).toList == (str (bs q)).toList) = decide (p = q)) := Lib.hid (by
  rw [Bool.eq_iff_iff, beq_iff_eq, decide_eq_true_iff, ByteArray.toList_eq, ByteArray.toList_eq, str_data, str_data]
  constructor
  ·intro h
   refine bs_inj.1 (str_inj (bs_lt p) (bs_lt q) ?_)
   unfold str; rw [h]
  ·intro h; rw [h])
 clear hb hb2
 go_enter Tryz.func15, Tryz.ntmps15
 go_wp2
 go_ret
 exact ⟨GF.ret_bool HE.out, rfl⟩
end Go.Proofs.YtjoghbmedfmioabGreat.Poly

namespace Go.Proofs.YtjoghbmedfmioabGreat.Poly
open Go.RowKit F8 GF
def PolyRes (pf : Option Addr) (w w' : World) (e : Ending) (r : List F8) : Prop :=
 ∃ A c, e = .returned (.slice A r.length c) ∧ r.length ≤ c ∧ Own w' w.heap.size 5 (.slice A r.length c) (bv (bs r)) ∧ FldP w' pf ∧ Past w.heap.size (rb w pf) w w'
def PolyRes2 (pf : Option Addr) (w w' : World) (e : Ending) (q r : List F8) (n : Int) : Prop :=
 ∃ A c B d, e = .returned (.tuple #[.slice A q.length c, .slice B r.length d, .int .i64 n]) ∧ q.length ≤ c ∧ r.length ≤ d ∧ Own w' w.heap.size 5 (.slice A q.length c) (bv (bs q)) ∧ Own w' w.heap.size 5 (.slice B r.length d) (bv (bs r)) ∧ FldP w' pf ∧ Past w.heap.size (rb w pf) w w'
def PolyResE (pf : Option Addr) (w w' : World) (e : Ending) (r : List F8) (n : Int) : Prop :=
 ∃ A c, e = .returned (.tuple #[.slice A r.length c, .int .i64 n]) ∧ r.length ≤ c ∧ Own w' w.heap.size 5 (.slice A r.length c) (bv (bs r)) ∧ FldP w' pf ∧ Past w.heap.size (rb w pf) w w'
def Far (pf A : Option Addr) (p : List F8) : Prop := p ≠ [] → ∀ a g, A = some a → pf = some g → a.block ≠ g.block
structure Spec : Prop where
 trimP : ∀ (A : Option Addr) (p : List F8) (m c : Nat) (w : World) (_ : p.length = m) (_ : Bytes w A (bs p)) (_ : m ≤ c) (_ : m ≤ 1000),
  Calls Tryz.prog 99 #[.slice A m c] w fun e w' => Res w w' e (trim p)
 degreeP : ∀ (A : Option Addr) (p : List F8) (m c : Nat) (w : World) (_ : p.length = m) (_ : Bytes w A (bs p)) (_ : m ≤ c) (_ : m ≤ 1000),
  Calls Tryz.prog 98 #[.slice A m c] w fun e w' => e = .returned (.int .i64 ((len p : Int) - 1)) ∧ Below w.heap.size w w'
 mulP : ∀ (A B : Option Addr) (p q : List F8) (m n c d : Nat) (w : World) (_ : p.length = m) (_ : q.length = n) (_ : Bytes w A (bs p)) (_ : Bytes w B (bs q)) (_ : m ≤ c) (_ : n ≤ d) (_ : m ≤ 1000) (_ : n ≤ 1000) (pf : Option Addr) (_ : FldP w pf) (_ : Far pf A p) (_ : Far pf B q),
  Calls Tryz.prog 97 #[.pointer pf, .slice A m c, .slice B n d] w fun e w' => PolyRes pf w w' e (trim (pmul p q))
 divP_zero : ∀ (A B : Option Addr) (p q : List F8) (m n c d : Nat) (w : World) (_ : p.length = m) (_ : q.length = n) (_ : Bytes w A (bs p)) (_ : Bytes w B (bs q)) (_ : m ≤ c) (_ : n ≤ d) (_ : m ≤ 1000) (_ : n ≤ 1000) (pf : Option Addr) (_ : FldP w pf) (_ : Far pf A p) (_ : Far pf B q) (_ : trim q = []),
  Calls Tryz.prog 84 #[.pointer pf, .slice A m c, .slice B n d] w fun e w' => PolyRes2 pf w w' e [] [] 30
 divP : ∀ (A B : Option Addr) (p q : List F8) (m n c d : Nat) (w : World) (_ : p.length = m) (_ : q.length = n) (_ : Bytes w A (bs p)) (_ : Bytes w B (bs q)) (_ : m ≤ c) (_ : n ≤ d) (_ : m ≤ 1000) (_ : n ≤ 1000) (pf : Option Addr) (_ : FldP w pf) (_ : Far pf A p) (_ : Far pf B q) (_ : 0 < len q),
  Calls Tryz.prog 84 #[.pointer pf, .slice A m c, .slice B n d] w fun e w' => ∃ u v, DivBy p q u v ∧ PolyRes2 pf w w' e u v 0
 atP : ∀ (A : Option Addr) (p : List F8) (m c : Nat) (w : World) (_ : p.length = m) (_ : Bytes w A (bs p)) (_ : m ≤ c) (_ : m ≤ 1000) (pf : Option Addr) (_ : FldP w pf) (_ : Far pf A p) (x : F8),
  Calls Tryz.prog 72 #[.pointer pf, .slice A m c, .int .u8 x.n] w fun e w' => e = .returned (.int .u8 (eval p x).n) ∧ FldP w' pf ∧ Past w.heap.size (rb w pf) w w'
 rootsP : ∀ (A : Option Addr) (p : List F8) (m c : Nat) (w : World) (_ : p.length = m) (_ : Bytes w A (bs p)) (_ : m ≤ c) (_ : m ≤ 1000) (pf : Option Addr) (_ : FldP w pf) (_ : Far pf A p),
  Calls Tryz.prog 83 #[.pointer pf, .slice A m c] w fun e w' => PolyRes pf w w' e (trim (roots p))
 throughP_bad : ∀ (A B : Option Addr) (p q : List F8) (m n c d : Nat) (w : World) (_ : p.length = m) (_ : q.length = n) (_ : Bytes w A (bs p)) (_ : Bytes w B (bs q)) (_ : m ≤ c) (_ : n ≤ d) (_ : m ≤ 1000) (_ : n ≤ 1000) (pf : Option Addr) (_ : FldP w pf) (_ : Far pf A p) (_ : Far pf B q) (_ : m ≠ n ∨ ¬ p.Nodup),
  Calls Tryz.prog 71 #[.pointer pf, .slice A m c, .slice B n d] w fun e w' => PolyResE pf w w' e [] 2
 throughP : ∀ (A B : Option Addr) (p q : List F8) (m n c d : Nat) (w : World) (_ : p.length = m) (_ : q.length = n) (_ : Bytes w A (bs p)) (_ : Bytes w B (bs q)) (_ : m ≤ c) (_ : n ≤ d) (_ : m ≤ 1000) (_ : n ≤ 1000) (pf : Option Addr) (_ : FldP w pf) (_ : Far pf A p) (_ : Far pf B q) (_ : m = n) (_ : p.Nodup),
  Calls Tryz.prog 71 #[.pointer pf, .slice A m c, .slice B n d] w fun e w' => ∃ r, Thru p q r ∧ PolyResE pf w w' e r 0
end Go.Proofs.YtjoghbmedfmioabGreat.Poly
