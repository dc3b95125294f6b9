/- Of the program, joined: WcFault, WcSym, WcRed, WcInt. -/
import Derived.Test.YtjoghbmedfmioaaGreatPb05
import Derived.Test.YtjoghbmedfmioaaGreatPb17
import Derived.Test.YtjoghbmedfmioaaGreatPb06
import Derived.Test.YtjoghbmedfmioaaGreatPb07
import Derived.Test.YtjoghbmedfmioaaGreatPb11
import Derived.Deep.RegionHeld
import Derived.Test.YtjoghbmedfmioaaGreatPb20
namespace Go.Proofs.YtjoghbmedfmioaaGreat.Wl
open Go.RowKit Go.Shelf F8 Poly GF Rd
attribute [local go_sem] Oper.semAt_some
def Nxt (n : Nat) (s : List Int) (k : Nat) : Prop := ∀ j, j < k → (0 ≤ s.getD j 0 ∧ s.getD j 0 < (n : Int)) ∧ (0 < j → s.getD j 0 ≠ s.getD (j - 1) 0)
theorem nxt_succ {n : Nat} {s : List Int} {k : Nat} (h : Nxt n s k) : Nxt n s (k + 1) ↔ (0 ≤ s.getD k 0 ∧ s.getD k 0 < (n : Int)) ∧ (0 < k → s.getD k 0 ≠ s.getD (k - 1) 0) := by
 refine ⟨fun h2 => h2 k (by omega), fun h2 j hj => ?_⟩
 rcases Nat.lt_or_ge j k with h3 | h3
 ·exact h j h3
 ·obtain rfl : j = k := by omega
  exact h2
theorem nxt_ok (n : Nat) (pl : List Int) : Nxt n (srt pl) pl.length ↔ OkP n pl := by
 have hp := srt_perm pl
 have hs := srt_sorted pl
 have hl := srt_length pl
 obtain ⟨s, hse⟩ : ∃ s, srt pl = s := ⟨_, rfl⟩
 rw [hse] at hp hs hl ⊢
 have hg : ∀ j (h : j < s.length), s.getD j 0 = s[j] := fun j h => by simp [List.getD_eq_getElem?_getD, h]
 rw [← hl]
 constructor
 ·intro h
  refine ⟨fun i hi => ?_, hp.nodup_iff.1 ?_⟩
  ·obtain ⟨j, hj, rfl⟩ := List.getElem_of_mem (hp.mem_iff.2 hi)
   have := (h j hj).1
   rwa [hg j hj] at this
  ·
   have hlt : ∀ i j (hi : i < s.length) (hj : j < s.length), i < j → s[i] < s[j] := by
    intro i j
    induction j with
    | zero => intro _ _ h; omega
    | succ j ih =>
     intro hi hj hij
     have h1 := (h (j + 1) hj).2 (by omega)
     rw [hg _ hj, Nat.add_sub_cancel, hg j (by omega)] at h1
     have h2 := List.pairwise_iff_getElem.1 hs j (j + 1) (by omega) hj (by omega)
     rcases Nat.lt_or_ge i j with h3 | h3
     ·have := ih hi (by omega) h3
      omega
     ·obtain rfl : i = j := by omega
      omega
   exact List.nodup_iff_pairwise_ne.2 (List.pairwise_iff_getElem.2 fun i j hi hj hij => by have := hlt i j hi hj hij; omega)
 ·intro h j hj
  have hnd : s.Nodup := hp.nodup_iff.2 h.2
  refine ⟨?_, fun h0 => ?_⟩
  ·rw [hg j hj]
   exact h.1 _ (hp.mem_iff.1 (List.getElem_mem hj))
  ·rw [hg j hj, hg (j - 1) (by omega)]
   intro e
   have := (List.getElem_inj hnd).1 e
   omega
theorem nxt_mono {n : Nat} {s : List Int} {k m : Nat} (h : Nxt n s m) (hk : k ≤ m) : Nxt n s k := fun j hj => h j (by omega)
set_option maxRecDepth 100000 in
set_option maxHeartbeats 4000000 in
theorem areIndices_calls (P : Option Addr) (pl : List Int) (m d n : Nat) (w : World) (hl : pl.length = m) (hr : Row w P (zs pl)) (hm : m ≤ 1000000) :
  Calls Tryz.prog 127 #[.slice P m d, .int .i64 n] w fun e w' => e = .returned (.bool (decide (OkP n pl))) ∧ Below w.heap.size w w' := by
 have hv : Vls (w.heap.size + 1) w.heap.size P m d pl (w.alloc (.cells #[.slice P m d] 44)) :=
  ⟨Block.new _ _ _, hr.alloc _, by omega, fun hne a ha => by
   obtain ⟨u, us, hu⟩ : ∃ u us, zs pl = u :: us := by
    cases hz : zs pl with
    | nil => exact absurd hz hne
    | cons u us => exact ⟨u, us, rfl⟩
   obtain ⟨b, off, hb, hc⟩ := hr 0 u (by rw [hu]; rfl)
   have := cell_lt hc
   rw [ha] at hb
   injection hb with hb
   subst hb
   simp only at this ⊢
   omega⟩
 have hv2 := sorted_calls w.heap.size P m d pl hl hm (w.alloc (.cells #[.slice P m d] 44)) (by simpa using hv)
 have HV := Lib.hid hv2
 have HN := Lib.hid (nxt_ok n pl)
 rw [hl] at HN
 have HSL : Hid ((srt pl).length = m) := Lib.hid ((srt_length pl).trans hl)
 obtain ⟨s, hs⟩ : ∃ s, srt pl = s := ⟨_, rfl⟩
 rw [hs] at HN HSL HV
 clear hv hv2 hs hr hl
 go_enter Tryz.func127, Tryz.ntmps127
 go_wp2_with (first
  | (go_at_call 155; refine (values_calls P m d w).mono ?_; rintro e w1 ⟨rfl, rfl⟩)
  | (go_at_call 154; (with_reducible refine HV.out.mono ?_); rintro e w2 ⟨A, c, rfl, hc, hO, hB⟩; have HO := Lib.hid hO; have HB : Hid (Below w.heap.size w w2) := Lib.hid (((Below.refl _ w).alloc (Nat.le_refl _) _).trans (hB.mono (by simp))); have HR : Hid (Row w2 A (zs s)) := Lib.hid (own_row hO); clear hO hB HV))
 go_loopw [13] (fun i wr => ∃ k : Nat, k ≤ m ∧ i = .int .i64 k ∧ Hid (Nxt n s k) ∧ Hid (Below w2.heap.size w2 wr)) (fun i _ => m - (intOf i).toNat)
 case atStart => exact ⟨0, by omega, rfl, Lib.hid (fun j hj => by omega), Lib.hid (Below.refl _ _)⟩
 case round =>
  obtain ⟨k, hk, rfl, HX, HW⟩ := hrel
  have HWB : Hid (Below w.heap.size w wr) := Lib.hid (HB.out.trans (HW.out.mono HB.out.size))
  by_cases hlt : k < m
  ·have hks : k < s.length := by rw [HSL.out]; exact hlt
   obtain ⟨b, off, rfl, hcell⟩ := zs_at (HR.out.below HW.out) (k := k) hks
   have hsucc := nxt_succ HX.out
   have hget : s.getD k 0 = s[k] := by simp [List.getD_eq_getElem?_getD, hks]
   have hout : ¬ Nxt n s (k + 1) → decide (OkP n pl) = false := fun h => decide_eq_false fun h2 => h (nxt_mono (HN.out.2 h2) (by omega))
   have hprev : 0 < k → wr.cell? ⟨b, off + (k - 1), none⟩ = some (.int .i64 (s.getD (k - 1) 0)) := fun h0 => by
    have h1 : k - 1 < s.length := by omega
    obtain ⟨b', off', he, hc'⟩ := zs_at (HR.out.below HW.out) (k := k - 1) h1
    injection he with he
    injection he with e1 e2
    subst e1 e2
    rw [hc']
    simp [List.getD_eq_getElem?_getD, h1]
   rw [hget] at hsucc
   obtain ⟨z, hz⟩ : ∃ z, s[k] = z := ⟨_, rfl⟩
   obtain ⟨y, hy⟩ : ∃ y, s.getD (k - 1) 0 = y := ⟨_, rfl⟩
   rw [hz, hy] at hsucc
   rw [hz] at hcell
   rw [hy] at hprev
   clear hget hz hy
   by_cases h0 : z < 0
   ·have HNO : Hid (decide (OkP n pl) = false) := Lib.hid (hout (by rw [hsucc]; rintro ⟨⟨h, _⟩, _⟩; omega))
    clear hsucc hout hprev
    go_wp2
    go_ret
    exact ⟨by rw [HNO.out]; rfl, HWB.out⟩
   by_cases h1 : (n : Int) ≤ z
   ·have HNO : Hid (decide (OkP n pl) = false) := Lib.hid (hout (by rw [hsucc]; rintro ⟨⟨_, h⟩, _⟩; omega))
    clear hsucc hout hprev
    go_wp2
    go_ret
    exact ⟨by rw [HNO.out]; rfl, HWB.out⟩
   by_cases h2 : k = 0
   ·have HX2 : Hid (Nxt n s (k + 1)) := Lib.hid (hsucc.2 ⟨⟨by omega, by omega⟩, fun h => by omega⟩)
    clear hsucc hout hprev
    subst h2
    rw [Nat.add_zero] at hcell
    go_wp2
    go_roundw
    case rel => exact ⟨1, by omega, by go_num, HX2, HW⟩
    case measure => simp [intOf]; omega
   ·obtain ⟨q, rfl⟩ : ∃ q, k = q + 1 := ⟨k - 1, by omega⟩
    have hpr := hprev (by omega)
    rw [Nat.add_sub_cancel] at hpr
    by_cases h3 : z = y
    ·have HNO : Hid (decide (OkP n pl) = false) := Lib.hid (hout (by rw [hsucc]; rintro ⟨_, h⟩; exact h (by omega) h3))
     have hbz : ((z : Int) == y) = true := by simp [h3]
     clear hsucc hout hprev h3
     go_wp2
     go_ret
     exact ⟨by rw [HNO.out]; rfl, HWB.out⟩
    ·have HX2 : Hid (Nxt n s (q + 1 + 1)) := Lib.hid (hsucc.2 ⟨⟨by omega, by omega⟩, fun _ => h3⟩)
     have hbz : ((z : Int) == y) = false := by simp [h3]
     clear hsucc hout hprev h3
     go_wp2
     go_roundw
     case rel => exact ⟨q + 1 + 1, by omega, by go_num, HX2, HW⟩
     case measure => simp [intOf]; omega
  ·obtain rfl : k = m := by omega
   have HY : Hid (decide (OkP n pl) = true) := Lib.hid (decide_eq_true (HN.out.1 HX.out))
   go_wp2
   go_ret
   exact ⟨by rw [HY.out]; rfl, HWB.out⟩
set_option maxRecDepth 100000 in
set_option maxHeartbeats 2000000 in
theorem wat_calls (A : Option Addr) (p : List F8) (n c : Nat) (B : Option Addr) (pl : List Int) (m d : Nat) (w : World) (hn : p.length = n) (hb : Bytes w A (bs p)) (hn2 : n ≤ 1000000) (hl : pl.length = m) (hr : Row w B (zs pl)) (hm : m ≤ 1000000) (hok : OkP n pl) :
  Calls Tryz.prog 86 #[.slice A n c, .slice B m d] w (ROwn w (ptsAt p pl) m) := by
 have HB := Lib.hid hb
 have HR := Lib.hid hr
 have HM := Lib.hid hl
 have HN := Lib.hid hn
 have HK := Lib.hid hok
 obtain ⟨w1, hmk, hO1, hB1⟩ := make_room w m (by omega)
 have HO1 := Lib.hid hO1
 clear hb hl hr hok hn hO1
 go_enter Tryz.func86, Tryz.ntmps86
 go_wp2
 go_loopw [5, 13] (fun out i wr => ∃ k : Nat, k ≤ m ∧ i = .int .i64 k ∧ Hid (Own wr w.heap.size 5 out (bv (bs (ptsAt p (pl.take k))))) ∧ Below w.heap.size w wr) (fun _ i _ => m - (intOf i).toNat)
 case atStart => exact ⟨0, by omega, rfl, HO1, hB1⟩
 case round =>
  obtain ⟨k, hk, rfl, HO, HW⟩ := hrel
  have hsz := HW.size
  by_cases hlt : k < m
  ·have hkp : k < pl.length := by rw [HM.out]; exact hlt
   obtain ⟨b, off, rfl, hcell⟩ := zs_at (HR.out.below HW) (k := k) hkp
   have HT := Lib.hid (ptsAt_snoc (p := p) hkp)
   have hin := HK.out.1 pl[k] (List.getElem_mem hkp)
   have HL : Hid ((bv (bs (ptsAt p (pl.take k)))).length = k) := Lib.hid (by rw [bvs_length, ptsAt_length, List.length_take]; omega)
   obtain ⟨z, hz⟩ : ∃ z, pl[k] = z := ⟨_, rfl⟩
   rw [hz] at hcell hin HT
   obtain ⟨x, rfl⟩ : ∃ x : Nat, z = (x : Int) := ⟨z.toNat, by omega⟩
   obtain ⟨y, hy⟩ : ∃ y, coef p x = y := ⟨_, rfl⟩
   have hxn : (x : Int) < (n : Int) := hin.2
   have hxp : x < p.length := by rw [HN.out]; omega
   obtain ⟨b2, o2, rfl⟩ := where_ HB.out (by omega)
   have hc2 := cellAt (HB.out.below HW) x hxp
   rw [Int.toNat_natCast] at HT
   rw [hy] at hc2 HT
   clear hz hy hin hxp
   go_wp2_with (at_builtin; refine wpList_app _ rfl _ _ _ rfl w.heap.size 5 _ 1 Tryz.underlying34 info_u8 rfl (by omega) _ _ rfl (HO.out.alloc _) (some ⟨wr.heap.size, 0, none⟩) 1 1 (bv [y.n]) rfl rfl (Row.new _ _ _ _) (bv_one _) (by rw [HL.out]; omega) (by simp; omega) ?_; rintro v2 w2 hown hg3 -)
   rw [← HT.out] at hown
   have HO2 := Lib.hid hown
   have hB2 := (HW.alloc hsz _).trans ((HO.out.alloc _).grew (by simp; omega) hg3)
   clear hown hg3
   go_roundw
   case rel => exact ⟨k + 1, by omega, by go_num, HO2, hB2⟩
   case measure => simp [intOf]; omega
  ·obtain rfl : k = m := by omega
   have ht : pl.take k = pl := List.take_of_length_le (by rw [HM.out]; exact Nat.le_refl _)
   rw [ht] at HO
   obtain ⟨A1, c1, rfl, hc1⟩ := Own.shape HO.out
   have HPL : Hid ((ptsAt p pl).length = k) := Lib.hid (by rw [ptsAt_length, HM.out])
   rw [HPL.out] at HO hc1 ⊢
   go_wp2
   go_ret
   exact ⟨A1, c1, rfl, hc1, HO.out, HW⟩
def Flt (xs : List F8) (k : Nat) (pl : List Int) (ys : List F8) (t z : Int) : Prop :=
 (z = 2 ∧ ¬ ((pl.length = ys.length ∧ OkP xs.length pl) ∧ 0 ≤ t)) ∨ (z = 70 ∧ ((pl.length = ys.length ∧ OkP xs.length pl) ∧ 0 ≤ t) ∧ (pl.length : Int) < k + 2 * t) ∨ (z = 0 ∧ ((pl.length = ys.length ∧ OkP xs.length pl) ∧ 0 ≤ t) ∧ k + 2 * t ≤ (pl.length : Int))
def RFlt (xs : List F8) (k : Nat) (pl : List Int) (ys : List F8) (t : Int) (w : World) (e : Ending) (w' : World) : Prop := ∃ z, e = .returned (.int .i64 z) ∧ Flt xs k pl ys t z ∧ Below w.heap.size w w'
set_option maxRecDepth 100000 in
set_option maxHeartbeats 4000000 in
theorem fault_calls {w : World} {b g : Nat} {A : Option Addr} {xs : List F8} {n c k : Nat} (h : Cd w b g A xs n c k) (P : Option Addr) (pl : List Int) (m d : Nat) (hl : pl.length = m) (hr : Row w P (zs pl)) (hm : m ≤ 1000) (B : Option Addr) (ys : List F8) (o e : Nat) (ho : ys.length = o) (ho2 : o ≤ 1000) (t : Int) :
  Calls Tryz.prog 85 #[.pointer (some ⟨b, 0, none⟩), .slice P m d, .slice B o e, .int .i64 t] w (RFlt xs k pl ys t w) := by
 have HC := Lib.hid h
 have HR := Lib.hid hr
 have hk1 := h.k1
 have hk0 : (((k : Int)) == 0) = false := by simp; omega
 have hkn : k ≤ 256 := Nat.le_trans h.kn h.n256
 have HK := Lib.hid (k_calls h)
 have HL := Lib.hid hl
 have hxl := h.len
 by_cases hmo : m = o
 ·have e1 : ((m : Int) != (o : Int)) = false := by simp; omega
  by_cases hok : OkP n pl
  ·have HD : Hid (decide (OkP n pl) = true) := Lib.hid (decide_eq_true hok)
   by_cases ht : t < 0
   ·have HX : Hid (Flt xs k pl ys t 2) := Lib.hid (.inl ⟨rfl, fun h => by have := h.2; omega⟩)
    clear h hr hok hl ho hmo hxl
    go_enter Tryz.func85, Tryz.ntmps85
    go_wp2_with (first
   | (go_at_call 126; (with_reducible refine HK.out.mono ?_); rintro e w1 ⟨rfl, rfl⟩)
   | (go_at_call 87; (with_reducible refine (points_calls HC.out).mono ?_); rintro e w2 ⟨A2, c2, rfl, hc2, hO2, hB2⟩; clear hc2 hO2; have HA := Lib.hid (areIndices_calls P pl m d n w2 HL.out (HR.out.below hB2) (by omega)); rw [HD.out] at HA)
   | (go_at_call 127; (with_reducible refine HA.out.mono ?_); rintro e w3 ⟨rfl, hB3⟩))
    go_ret
    exact ⟨2, rfl, HX.out, hB2.trans (hB3.mono hB2.size)⟩
   ·have HA0 : (pl.length = ys.length ∧ OkP xs.length pl) ∧ 0 ≤ t := ⟨⟨by omega, by rw [hxl]; exact hok⟩, by omega⟩
    have hlen : (pl.length : Int) = o := by omega
    by_cases hkt : (o : Int) < k + 2 * t
    ·have HX : Hid (Flt xs k pl ys t 70) := Lib.hid (.inr (.inl ⟨rfl, HA0, by omega⟩))
     clear h hr hok hl ho hmo hxl HA0 hlen
     go_enter Tryz.func85, Tryz.ntmps85
     go_wp2_with (first
   | (go_at_call 126; (with_reducible refine HK.out.mono ?_); rintro e w1 ⟨rfl, rfl⟩)
   | (go_at_call 87; (with_reducible refine (points_calls HC.out).mono ?_); rintro e w2 ⟨A2, c2, rfl, hc2, hO2, hB2⟩; clear hc2 hO2; have HA := Lib.hid (areIndices_calls P pl m d n w2 HL.out (HR.out.below hB2) (by omega)); rw [HD.out] at HA)
   | (go_at_call 127; (with_reducible refine HA.out.mono ?_); rintro e w3 ⟨rfl, hB3⟩))
     all_goals
      first
      | (exfalso; omega)
      | (go_ret; exact ⟨70, rfl, HX.out, hB2.trans (hB3.mono hB2.size)⟩)
    ·have HX : Hid (Flt xs k pl ys t 0) := Lib.hid (.inr (.inr ⟨rfl, HA0, by omega⟩))
     clear h hr hok hl ho hmo hxl HA0 hlen
     go_enter Tryz.func85, Tryz.ntmps85
     go_wp2_with (first
   | (go_at_call 126; (with_reducible refine HK.out.mono ?_); rintro e w1 ⟨rfl, rfl⟩)
   | (go_at_call 87; (with_reducible refine (points_calls HC.out).mono ?_); rintro e w2 ⟨A2, c2, rfl, hc2, hO2, hB2⟩; clear hc2 hO2; have HA := Lib.hid (areIndices_calls P pl m d n w2 HL.out (HR.out.below hB2) (by omega)); rw [HD.out] at HA)
   | (go_at_call 127; (with_reducible refine HA.out.mono ?_); rintro e w3 ⟨rfl, hB3⟩))
     all_goals
      first
      | (exfalso; omega)
      | (go_ret; exact ⟨0, rfl, HX.out, hB2.trans (hB3.mono hB2.size)⟩)
  ·have HD : Hid (decide (OkP n pl) = false) := Lib.hid (decide_eq_false hok)
   have HX : Hid (Flt xs k pl ys t 2) := Lib.hid (.inl ⟨rfl, fun h => hok (by have := h.1.2; rwa [hxl] at this)⟩)
   clear h hr hok hl ho hmo hxl
   go_enter Tryz.func85, Tryz.ntmps85
   go_wp2_with (first
   | (go_at_call 126; (with_reducible refine HK.out.mono ?_); rintro e w1 ⟨rfl, rfl⟩)
   | (go_at_call 87; (with_reducible refine (points_calls HC.out).mono ?_); rintro e w2 ⟨A2, c2, rfl, hc2, hO2, hB2⟩; clear hc2 hO2; have HA := Lib.hid (areIndices_calls P pl m d n w2 HL.out (HR.out.below hB2) (by omega)); rw [HD.out] at HA)
   | (go_at_call 127; (with_reducible refine HA.out.mono ?_); rintro e w3 ⟨rfl, hB3⟩))
   go_ret
   exact ⟨2, rfl, HX.out, hB2.trans (hB3.mono hB2.size)⟩
 ·have e1 : ((m : Int) != (o : Int)) = true := by simp; omega
  have HX : Hid (Flt xs k pl ys t 2) := Lib.hid (.inl ⟨rfl, fun h => hmo (by have := h.1.1; omega)⟩)
  clear h hr hl ho hmo hxl
  go_enter Tryz.func85, Tryz.ntmps85
  go_wp2_with (go_at_call 126; (with_reducible refine HK.out.mono ?_); rintro e w1 ⟨rfl, rfl⟩)
  go_ret
  exact ⟨2, rfl, HX.out, Below.refl _ _⟩
end Go.Proofs.YtjoghbmedfmioaaGreat.Wl

namespace Go.Proofs.YtjoghbmedfmioaaGreat.Wl
open Go.RowKit Go.Shelf F8 Poly GF Rd
attribute [local go_sem] Oper.semAt_some
structure Sym where
 s : Nat
 b : Nat
 g : Nat
 A : Option Addr
 xs : List F8
 n : Nat
 c : Nat
 k : Nat
 P : Option Addr
 pl : List Int
 m : Nat
 d : Nat
 X : Option Addr
 c1 : Nat
 Y : Option Addr
 ys : List F8
 e : Nat
 B0 : Nat
def Sym.cs (S : Sym) (T N : Value) : Array Value := #[.pointer (some ⟨S.b, 0, none⟩), .slice S.P S.m S.d, .slice S.X S.m S.c1, .slice S.Y S.m S.e, T, N]
def Sym.pts (S : Sym) : List F8 := ptsAt S.xs S.pl
structure Sym.Ok (S : Sym) : Prop where
 sb : S.s ≠ S.b
 sg : S.s ≠ S.g
 sB : S.B0 ≤ S.s
 gB : S.g < S.B0
 ml : S.pl.length = S.m
 yl : S.ys.length = S.m
 m2 : S.m ≤ 900
 ok : OkP S.xs.length S.pl
 mc : S.m ≤ S.c1
 me : S.m ≤ S.e
 nd : S.pts.Nodup
 fx : ∀ a, S.X = some a → a.block ≠ S.g ∧ a.block ≠ S.s
 fy : ∀ a, S.Y = some a → a.block ≠ S.g ∧ a.block ≠ S.s
 fp : ∀ a, S.P = some a → a.block ≠ S.g ∧ a.block ≠ S.s
 fa : ∀ a, S.A = some a → a.block ≠ S.s
theorem Sym.Ok.pl_ {S : Sym} (h : S.Ok) : S.pts.length = S.m := by unfold Sym.pts; rw [ptsAt_length, h.ml]
structure Sym.At (S : Sym) (T N : Value) (w : World) : Prop where
 blk : Block w S.s 154 (S.cs T N)
 cd : Cd w S.b S.g S.A S.xs S.n S.c S.k
 row : Row w S.P (zs S.pl)
 bx : Bytes w S.X (bs S.pts)
 by_ : Bytes w S.Y (bs S.ys)
theorem row_past {B g : Nat} {W W' : World} {P : Option Addr} {xs : List Value} (h : Row W P xs) (hp : Past B g W W') (hB : W.heap.size ≤ B) (hf : ∀ a, P = some a → a.block ≠ g) : Row W' P xs := fun k u hk => by
 obtain ⟨b, off, rfl, hc⟩ := h k u hk
 refine ⟨b, off, rfl, ?_⟩
 have hlt : b < W.heap.size := cell_lt hc
 have hb := hp.block b (by omega) (hf _ rfl)
 simp only [World.cell?] at hc ⊢
 rw [hb]
 exact hc
theorem bytes_past {B g : Nat} {W W' : World} {P : Option Addr} {p : List F8} (h : Bytes W P (bs p)) (hp : Past B g W W') (hB : W.heap.size ≤ B) (hf : ∀ a, P = some a → a.block ≠ g) : Bytes W' P (bs p) := ⟨row_past h.row hp hB hf, bs_lt p⟩
section
variable {S : Sym} {T N : Value} {w w' : World}
theorem Sym.At.past (h : S.At T N w) (ok : S.Ok) (hf : FldP w' (some ⟨S.g, 0, none⟩)) (hp : Past w.heap.size S.g w w') : S.At T N w' :=
 ⟨h.blk.past hp h.blk.lt ok.sg, h.cd.past hf hp, row_past h.row hp (Nat.le_refl _) fun a ha => (ok.fp a ha).1, bytes_past h.bx hp (Nat.le_refl _) fun a ha => (ok.fx a ha).1, bytes_past h.by_ hp (Nat.le_refl _) fun a ha => (ok.fy a ha).1⟩
theorem Sym.At.below (h : S.At T N w) (hb : Below w.heap.size w w') : S.At T N w' :=
 ⟨h.blk.below hb h.blk.lt, h.cd.below hb, h.row.below hb, h.bx.below hb, h.by_.below hb⟩
theorem Sym.At.turn (h : S.At T N w) (ok : S.Ok) {T' N' : Value} (hb : Block w' S.s 154 (S.cs T' N')) (hp : Past w.heap.size S.s w w') : S.At T' N' w' :=
 ⟨hb, h.cd.turn hp (Nat.le_refl _) ok.sb.symm ok.sg.symm ok.fa, row_past h.row hp (Nat.le_refl _) fun a ha => (ok.fp a ha).2, bytes_past h.bx hp (Nat.le_refl _) fun a ha => (ok.fx a ha).2, bytes_past h.by_ hp (Nat.le_refl _) fun a ha => (ok.fy a ha).2⟩
theorem Sym.At.put4 (h : S.At T N w) (ok : S.Ok) (v : Value) : S.At v N (w.setCell ⟨S.s, 4, none⟩ v) := h.turn ok (h.blk.set_ 4 v) ((Past.refl _ _ _).setCell (p := ⟨S.s, 4, none⟩) (.inl rfl) v)
theorem Sym.At.put5 (h : S.At T N w) (ok : S.Ok) (v : Value) : S.At T v (w.setCell ⟨S.s, 5, none⟩ v) := h.turn ok (h.blk.set_ 5 v) ((Past.refl _ _ _).setCell (p := ⟨S.s, 5, none⟩) (.inl rfl) v)
theorem Sym.At.farx (_h : S.At T N w) (ok : S.Ok) : Far (some ⟨S.g, 0, none⟩) S.X S.pts := fun _ a g ha hg => by cases hg; exact (ok.fx a ha).1
theorem Sym.At.fary (_h : S.At T N w) (ok : S.Ok) : Far (some ⟨S.g, 0, none⟩) S.Y S.ys := fun _ a g ha hg => by cases hg; exact (ok.fy a ha).1
theorem Sym.At.cells (h : S.At T N w) : w.cell? ⟨S.s, 0, none⟩ = some (.pointer (some ⟨S.b, 0, none⟩)) ∧ w.cell? ⟨S.s, 1, none⟩ = some (.slice S.P S.m S.d) ∧ w.cell? ⟨S.s, 2, none⟩ = some (.slice S.X S.m S.c1) ∧ w.cell? ⟨S.s, 3, none⟩ = some (.slice S.Y S.m S.e) ∧ w.cell? ⟨S.s, 4, none⟩ = some T ∧ w.cell? ⟨S.s, 5, none⟩ = some N :=
 ⟨h.blk.cell 0, h.blk.cell 1, h.blk.cell 2, h.blk.cell 3, h.blk.cell 4, h.blk.cell 5⟩
end
structure Sym.Has (S : Sym) (w : World) (v : Value) (p : List F8) (A : Option Addr) (c : Nat) : Prop where
 v_ : v = .slice A p.length c
 le : p.length ≤ c
 by_ : Bytes w A (bs p)
 far : ∀ a, A = some a → a.block ≠ S.g ∧ a.block ≠ S.s
def Sym.Made (S : Sym) (T N : Value) (w : World) : Prop := ∃ th A c A2 c2, S.Has w T th A c ∧ Thru S.pts S.ys th ∧ S.Has w N (trim (roots S.pts)) A2 c2
def Sym.St (S : Sym) (T N : Value) (w : World) : Prop := (T = .slice none 0 0 ∧ N = .slice none 0 0) ∨ S.Made T N w
section
variable {S : Sym} {T N v : Value} {w w' : World} {p : List F8} {A : Option Addr} {c : Nat}
theorem Sym.Has.past (h : S.Has w v p A c) (hp : Past w.heap.size S.g w w') : S.Has w' v p A c := ⟨h.v_, h.le, bytes_past h.by_ hp (Nat.le_refl _) fun a ha => (h.far a ha).1, h.far⟩
theorem Sym.Has.turn (h : S.Has w v p A c) (hp : Past w.heap.size S.s w w') : S.Has w' v p A c := ⟨h.v_, h.le, bytes_past h.by_ hp (Nat.le_refl _) fun a ha => (h.far a ha).2, h.far⟩
theorem Sym.Has.below (h : S.Has w v p A c) (hp : Below w.heap.size w w') : S.Has w' v p A c := ⟨h.v_, h.le, h.by_.below hp, h.far⟩
theorem Sym.Made.past (h : S.Made T N w) (hp : Past w.heap.size S.g w w') : S.Made T N w' := by
 obtain ⟨th, A, c, A2, c2, h1, h2, h3⟩ := h
 exact ⟨th, A, c, A2, c2, h1.past hp, h2, h3.past hp⟩
theorem Sym.St.past (h : S.St T N w) (hp : Past w.heap.size S.g w w') : S.St T N w' := h.imp id fun h => h.past hp
theorem Sym.has_own {B : Nat} (ok : S.Ok) (h : Own w B 5 (.slice A p.length c) (bv (bs p))) (hc : p.length ≤ c) (hB : S.s < B) : S.Has w (.slice A p.length c) p A c :=
 ⟨rfl, hc, Own.bytes h, fun a ha => by
  subst ha
  have h1 : B ≤ a.block := (h.lt a.block rfl).1
  have := ok.sB
  have := ok.gB
  exact ⟨by omega, by omega⟩⟩
end
def up (p : List F8) (m size : Nat) : List F8 := (full p m).drop size
theorem up_length (p : List F8) (m size : Nat) : (up p m size).length = m - size := by unfold up; rw [List.length_drop, full_length]
theorem coef_up {p : List F8} {m size i : Nat} (hp : p.length ≤ m) : coef (up p m size) i = coef p (size + i) := by
 have h := full_eqv hp (size + i)
 rw [← h]
 unfold up coef
 rw [List.getD_eq_getElem?_getD, List.getD_eq_getElem?_getD, List.getElem?_drop]
def RUp (w : World) (u : List F8) (n : Nat) (e : Ending) (w' : World) : Prop :=
 ∃ A c, e = .returned (.slice A n c) ∧ n ≤ c ∧ Bytes w' A (bs u) ∧ (∀ a, A = some a → w.heap.size ≤ a.block) ∧ Below w.heap.size w w'
set_option maxRecDepth 100000 in
set_option maxHeartbeats 4000000 in
theorem above_calls {S : Sym} {T N : Value} {w : World} (h : S.At T N w) (ok : S.Ok) (size : Nat) (hs : size ≤ S.m) (Q : Option Addr) (p : List F8) (l c : Nat) (hl : p.length = l) (hb : Bytes w Q (bs p)) :
  Calls Tryz.prog 157 #[.pointer (some ⟨S.s, 0, none⟩), .int .i64 size, .slice Q l c] w (RUp w (up p S.m size) (S.m - size)) := by
 obtain ⟨_, _, h2, _, _, _⟩ := h.cells
 have hm2 := ok.m2
 obtain ⟨w1, hmk, hO1, hB1⟩ := make_run w S.m (by omega)
 have hBlk := Own.block hO1
 have HBl := Lib.hid hBlk
 have HB := Lib.hid (hb.below hB1)
 have HL := Lib.hid hl
 have hglt := hBlk.lt
 clear hb hl hO1 hBlk h ok
 go_enter Tryz.func157, Tryz.ntmps157
 go_wp2_with ((with_reducible refine wpList_copy_cut rfl (.tmp 14) (.tmp 15) rfl w.heap.size S.m S.m Q l c rfl rfl _ p HBl.out HL.out HB.out (by simp) ?_); intro w2 q hb2 hp2 _; have hf : p.take S.m ++ (List.replicate S.m (0 : F8)).drop (min l S.m) = full p S.m := (by unfold full; rw [List.drop_replicate, HL.out]; congr 2; omega); rw [hf] at hb2; have hO2 : Own w2 w.heap.size 5 (.slice (some ⟨w.heap.size, 0, none⟩) S.m S.m) (bv (bs (full p S.m))) := Own.of_block hb2 (Nat.le_refl _) (by rw [bvs_length, full_length]) (by simp only [maxLen]; omega); have hFL : (full p S.m).length = S.m := full_length p S.m; obtain ⟨P1, hs1, hp1, hk1⟩ := slice_from (Own.bytes hO2) S.m size (by rw [hFL]; exact hs) (by omega); rw [hFL] at hs1; have HP1 := Lib.hid hp1; have HP2 := Lib.hid hp2; have HK := Lib.hid hk1; clear hb2 hp2 hp1 hf hO2 hk1 hFL)
 go_ret
 exact ⟨P1, S.m - size, rfl, Nat.le_refl _, HP1.out, fun a ha => by obtain ⟨a0, h1, h2⟩ := HK.out a ha; cases h1; rw [← h2]; exact Nat.le_refl _, hB1.trans ((HP2.out.mono hB1.size).below (Nat.le_refl _))⟩
end Go.Proofs.YtjoghbmedfmioaaGreat.Wl

namespace Go.Proofs.YtjoghbmedfmioaaGreat.Wl
open Go.RowKit Go.Shelf F8 Poly GF Rd
attribute [local go_sem] Oper.semAt_some
set_option maxRecDepth 100000 in
set_option maxHeartbeats 4000000 in
theorem reduced_calls (PS : Poly.Spec) {S : Sym} {T N : Value} {w : World} (h : S.At T N w) (ok : S.Ok) {NA : Option Addr} {nc : Nat} (hN : S.Has w N (trim (roots S.pts)) NA nc) (Q : Option Addr) (p : List F8) (l c : Nat) (hl : p.length = l) (hb : Bytes w Q (bs p)) (hc : l ≤ c) (hl2 : l ≤ 1000) (hfar : Far (some ⟨S.g, 0, none⟩) Q p) :
  Calls Tryz.prog 158 #[.pointer (some ⟨S.s, 0, none⟩), .slice Q l c] w fun e w' => ∃ u v, DivBy p (trim (roots S.pts)) u v ∧ PolyRes (some ⟨S.g, 0, none⟩) w w' e v := by
 have hpl := ok.pl_
 have hm2 := ok.m2
 have hrl : (trim (roots S.pts)).length = S.m + 1 := by rw [trim_length, len_roots, hpl]
 obtain ⟨hv, hle, hby, hfr⟩ := hN
 rw [hrl] at hv hle
 subst hv
 have HT := Lib.hid (PS.divP Q NA p (trim (roots S.pts)) l (S.m + 1) c nc w.drew hl hrl hb.drew hby.drew hc hle hl2 (by omega) (some ⟨S.g, 0, none⟩) h.cd.fld hfar (fun _ a g ha hg => by cases hg; exact (hfr a ha).1) (by rw [len_trim, len_roots]; omega))
 have HC := Lib.hid h.cd.drew
 have HS := Lib.hid (h.below (Below.refl _ w).drew)
 have d0 := HS.out.cells.1
 have d5 := HS.out.cells.2.2.2.2.2
 clear h hl hb hfar hby hfr hrl hpl
 go_enter Tryz.func158, Tryz.ntmps158
 go_wp2_with fail
 go_region_held (fun wz => wz.cell? ⟨S.s, 0, none⟩ = some (.pointer (some ⟨S.b, 0, none⟩)) ∧ wz.cell? ⟨S.s, 5, none⟩ = some (.slice NA (S.m + 1) nc)) (exact ⟨d0, d5⟩)
  ((first
   | (go_at_call 130; (with_reducible refine (field_calls HC.out).mono ?_); rintro e w1 ⟨rfl, rfl⟩)
   | (go_at_call 177; (with_reducible refine HT.out.mono ?_); rintro e w4 ⟨u, v, hd, A4, c4, A5, c5, rfl, hc4, hc5, hO4, hO5, hF4, hP4⟩; have hp4 : Past w.drew.heap.size S.g w.drew w4 := hP4; replace HS := Lib.hid (HS.out.past ok hF4 hp4); have d0 := HS.out.cells.1; have d5 := HS.out.cells.2.2.2.2.2)))
 all_goals
  go_wp2
  go_ret
  exact ⟨u, v, hd, A5, c5, rfl, hc5, hO5, hF4, ((Past.refl w.heap.size S.g w).drew).trans hp4⟩
theorem row2 {w : World} {D : Option Addr} {a b : Value} (h : Row w D [a, b]) : ∃ k o, D = some ⟨k, o, none⟩ ∧ w.cell? ⟨k, o, none⟩ = some a ∧ w.cell? ⟨k, o + 1, none⟩ = some b := by
 obtain ⟨k, o, rfl, h0⟩ := h 0 a rfl
 obtain ⟨k', o', e, h1⟩ := h 1 b rfl
 injection e with e
 injection e with e1 e2
 subst e1 e2
 exact ⟨k, o, rfl, h0, h1⟩
set_option maxRecDepth 100000 in
set_option maxHeartbeats 4000000 in
theorem grow_calls (n : Nat) (h1 : 1 ≤ n) (hn : n ≤ 1000000) (w : World) :
  Calls Tryz.prog 109 #[.slice none 0 0, .int .i64 n] w (ROwn w [] 0) := by
 obtain ⟨v2, w2, hrun, hO2, hg2⟩ := run_app_zeros w 34 w.heap.size _ [] (Own.nil w _ _) n (by omega) (by simp) (Nat.le_refl _)
 have hxl : ([] ++ bv (List.replicate n 0)).length = n := by rw [List.nil_append, bv_length, List.length_replicate]
 have hB : Below w.heap.size w w2 := (Own.nil w w.heap.size 5).grew (Nat.le_refl _) hg2
 rcases hO2.2 with ⟨rfl, h0⟩ | ⟨g, cap, cur, rfl, r0, r1, r2, r3, r4, _⟩
 ·omega
 rw [hxl] at hrun r2
 have HO : Hid (Own w2 w.heap.size 5 (.slice (some ⟨g, 0, none⟩) 0 cap) (bv (bs []))) := Lib.hid ⟨rfl, .inr ⟨g, cap, cur, rfl, r0, r1, Nat.zero_le _, r3, r4, rfl⟩⟩
 clear hO2 r1 r4 hg2 hxl
 go_enter Tryz.func109, Tryz.ntmps109
 go_wp2_with (at_builtin; refine Lib.wpList_append_run _ rfl _ _ _ _ rfl _ _ rfl rfl _ _ hrun ?_)
 go_ret
 exact ⟨_, cap, rfl, Nat.zero_le _, HO.out, hB⟩
set_option maxRecDepth 100000 in
set_option maxHeartbeats 4000000 in
theorem concat_calls (D : Option Addr) (dc : Nat) (A B : Option Addr) (p q : List F8) (m n c d : Nat) (w : World) (hr : Row w D [.slice A m c, .slice B n d]) (hm : p.length = m) (hn : q.length = n) (hb : Bytes w A (bs p)) (hb2 : Bytes w B (bs q)) (h1 : 1 ≤ m) (hm2 : m ≤ 1000) (hn2 : n ≤ 1000) :
  Calls Tryz.prog 75 #[.slice D 2 dc] w (ROwn w (p ++ q) (m + n)) := by
 obtain ⟨k, o, rfl, e0, e1⟩ := row2 hr
 have hklt : k < w.heap.size := cell_lt e0
 have HB := Lib.hid hb
 have HB2 := Lib.hid hb2
 have HM := Lib.hid hm
 have HN := Lib.hid hn
 obtain ⟨N, hN⟩ : ∃ N, m + n = N := ⟨_, rfl⟩
 have HS := Lib.hid hN
 rw [hN]
 have hN1 : 1 ≤ N ∧ N ≤ 2000 := by omega
 clear hb hb2 hr hN
 go_enter Tryz.func75, Tryz.ntmps75
 go_wp2
 go_loopw [3, 11] (fun v i wr => wr = w ∧ ((i = .int .i64 0 ∧ v = .int .i64 0) ∨ (i = .int .i64 1 ∧ v = .int .i64 (m : Nat)) ∨ (i = .int .i64 2 ∧ v = .int .i64 (N : Nat)))) (fun _ i _ => 2 - (intOf i).toNat)
 case atStart => exact ⟨rfl, .inl ⟨rfl, rfl⟩⟩
 case round =>
  obtain ⟨rfl, ⟨rfl, rfl⟩ | ⟨rfl, rfl⟩ | ⟨rfl, rfl⟩⟩ := hrel
  ·go_wp2
   go_roundw
   case rel => exact ⟨by trivial, .inr (.inl ⟨by go_num, by go_num⟩)⟩
   case measure => simp [intOf]
  ·go_wp2
   go_roundw
   case rel => exact ⟨by trivial, .inr (.inr ⟨by go_num, by have := HS.out; congr 1; omega⟩)⟩
   case measure => simp [intOf]
  ·have HG := Lib.hid (grow_calls N (by omega) (by omega) wr)
   go_wp2_with (go_at_call 109; (with_reducible refine HG.out.mono ?_); rintro e w2 ⟨A2, c2, rfl, hc2, hO2, hB2⟩; have HO2 := Lib.hid hO2; have HB3 := Lib.hid hB2; have f0 := (hB2.cell (p := ⟨k, o, none⟩) hklt).trans e0; have f1 := (hB2.cell (p := ⟨k, o + 1, none⟩) hklt).trans e1; clear hO2 hB2 e0 e1)
   go_loopw [6, 27] (fun v i wz => Hid (Below wr.heap.size wr wz) ∧ ((i = .int .i64 0 ∧ Hid (Own wz wr.heap.size 5 v (bv (bs [])))) ∨ (i = .int .i64 1 ∧ Hid (Own wz wr.heap.size 5 v (bv (bs p)))) ∨ (i = .int .i64 2 ∧ Hid (Own wz wr.heap.size 5 v (bv (bs (p ++ q))))))) (fun _ i _ => 2 - (intOf i).toNat)
   case atStart => exact ⟨HB3, .inl ⟨rfl, HO2⟩⟩
   case round =>
    obtain ⟨HZ, ⟨rfl, HO⟩ | ⟨rfl, HO⟩ | ⟨rfl, HO⟩⟩ := hrel
    ·have g0 := (HZ.out.cell (p := ⟨k, o, none⟩) hklt).trans ((HB3.out.cell (p := ⟨k, o, none⟩) hklt).symm.trans f0)
     go_wp2_with (at_builtin; refine wpList_app _ rfl _ _ _ rfl _ 5 _ 1 Tryz.underlying34 info_u8 rfl (by omega) _ _ rfl HO.out A m c (bv (bs p)) rfl (by rw [bvs_length, HM.out]) (HB.out.below HZ.out).row (bv_one _) (by rw [bvs_length]; simp; omega) HZ.out.size ?_; rintro v2 w3 hown hg3 -)
     have HO3 : Hid (Own w3 _ 5 v2 (bv (bs p))) := Lib.hid (by first | exact hown | (rw [bs_append, bv_append]; exact hown))
     have HZ3 := Lib.hid (HZ.out.trans (HO.out.grew HZ.out.size hg3))
     clear hown hg3
     go_roundw
     case rel => exact ⟨HZ3, .inr (.inl ⟨by go_num, HO3⟩)⟩
     case measure => simp [intOf]
    ·have g1 := (HZ.out.cell (p := ⟨k, o + 1, none⟩) hklt).trans ((HB3.out.cell (p := ⟨k, o + 1, none⟩) hklt).symm.trans f1)
     go_wp2_with (at_builtin; refine wpList_app _ rfl _ _ _ rfl _ 5 _ 1 Tryz.underlying34 info_u8 rfl (by omega) _ _ rfl HO.out B n d (bv (bs q)) rfl (by rw [bvs_length, HN.out]) (HB2.out.below HZ.out).row (bv_one _) (by rw [bvs_length]; rw [HM.out]; omega) HZ.out.size ?_; rintro v2 w3 hown hg3 -)
     have HO3 : Hid (Own w3 _ 5 v2 (bv (bs (p ++ q)))) := Lib.hid (by first | exact hown | (rw [bs_append, bv_append]; exact hown))
     have HZ3 := Lib.hid (HZ.out.trans (HO.out.grew HZ.out.size hg3))
     clear hown hg3
     go_roundw
     case rel => exact ⟨HZ3, .inr (.inr ⟨by go_num, HO3⟩)⟩
     case measure => simp [intOf]
    ·obtain ⟨A1, c1, rfl, hc1⟩ := Own.shape HO.out
     have HPL : Hid ((p ++ q).length = N) := Lib.hid (by rw [List.length_append, HM.out, HN.out, HS.out])
     rw [HPL.out] at HO hc1 ⊢
     go_wp2
     go_ret
     exact ⟨A1, c1, rfl, hc1, HO.out, HZ.out⟩
end Go.Proofs.YtjoghbmedfmioaaGreat.Wl

namespace Go.Proofs.YtjoghbmedfmioaaGreat.Wl
open Go.RowKit Go.Shelf F8 Poly GF Rd
attribute [local go_sem] Oper.semAt_some
theorem Sym.At.frozen {S : Sym} {T N : Value} {w : World} (h : S.At T N w) (i : Nat) : w.frozen? ⟨S.s, i, none⟩ = false := h.blk.frozen i
def RInt (S : Sym) (w : World) (e : Ending) (w' : World) : Prop := ∃ T N, e = .returned (.tuple #[]) ∧ S.At T N w' ∧ S.Made T N w' ∧ Past S.B0 S.g w w'
set_option maxRecDepth 100000 in
set_option maxHeartbeats 4000000 in
theorem interpolate_made {S : Sym} {T N : Value} {w : World} (h : S.At T N w) (ok : S.Ok) (hm : S.Made T N w) :
  Calls Tryz.prog 156 #[.pointer (some ⟨S.s, 0, none⟩)] w (RInt S w) := by
 have HM := Lib.hid hm
 obtain ⟨th, A, c, A2, c2, h1, h2, h3⟩ := hm
 have hrl : (trim (roots S.pts)).length = S.m + 1 := by rw [trim_length, len_roots, ok.pl_]
 obtain ⟨b0, o0, hA2⟩ := where_ h3.by_ (by omega)
 have hN := h3.v_
 rw [hA2] at hN
 have hq := Mat.eql_nil (some ⟨b0, o0, none⟩) (trim (roots S.pts)).length c2 w
 obtain ⟨l, hl⟩ : ∃ l, (trim (roots S.pts)).length = l := ⟨_, rfl⟩
 rw [hl] at hN hq
 subst hN
 have HS := Lib.hid h
 have d5 := h.cells.2.2.2.2.2
 clear h1 h2 h3 hrl hA2 hl h
 go_enter Tryz.func156, Tryz.ntmps156
 go_wp2
 go_end0
 exact ⟨_, _, rfl, HS.out, HM.out, Past.refl _ _ _⟩
set_option maxRecDepth 100000 in
set_option maxHeartbeats 8000000 in
theorem interpolate_new (PS : Poly.Spec) {S : Sym} {w : World} (h : S.At (.slice none 0 0) (.slice none 0 0) w) (ok : S.Ok) :
  Calls Tryz.prog 156 #[.pointer (some ⟨S.s, 0, none⟩)] w (RInt S w) := by
 have hq := Mat.eql_nil none 0 0 w
 have hpl := ok.pl_
 have HT := Lib.hid (PS.throughP S.X S.Y S.pts S.ys S.m S.m S.c1 S.e w.drew hpl ok.yl h.bx.drew h.by_.drew ok.mc ok.me (by have := ok.m2; omega) (by have := ok.m2; omega) (some ⟨S.g, 0, none⟩) h.cd.fld (h.farx ok) (h.fary ok) rfl ok.nd)
 have HS0 := Lib.hid h
 have HS := Lib.hid (h.below (Below.refl _ w).drew)
 have e5 := h.cells.2.2.2.2.2
 have d0 := HS.out.cells.1
 have d2 := HS.out.cells.2.2.1
 have d3 := HS.out.cells.2.2.2.1
 have d4 := HS.out.cells.2.2.2.2.1
 have df := HS.out.frozen 4
 clear h hpl
 go_enter Tryz.func156, Tryz.ntmps156
 go_wp2_with fail
 go_region_held (fun wz => wz.cell? ⟨S.s, 0, none⟩ = some (.pointer (some ⟨S.b, 0, none⟩)) ∧ wz.cell? ⟨S.s, 2, none⟩ = some (.slice S.X S.m S.c1) ∧ wz.cell? ⟨S.s, 3, none⟩ = some (.slice S.Y S.m S.e)) (first | exact ⟨d0, d2, d3⟩ | exact ⟨(HS.out.put4 ok _).cells.1, (HS.out.put4 ok _).cells.2.2.1, (HS.out.put4 ok _).cells.2.2.2.1⟩)
  ((first
   | (go_at_call 130; (with_reducible refine (field_calls HS.out.cd).mono ?_); rintro e w1 ⟨rfl, rfl⟩)
   | (go_at_call 176; (with_reducible refine HT.out.mono ?_); rintro e w4 ⟨r, ht, A4, c4, rfl, hc4, hO4, hF4, hP4⟩; have hp4 : Past w.drew.heap.size S.g w.drew w4 := hP4; have HS1 := HS; replace HS := Lib.hid (HS1.out.past ok hF4 hp4); have d0 := HS.out.cells.1; have d2 := HS.out.cells.2.2.1; have d3 := HS.out.cells.2.2.2.1; have d4 := HS.out.cells.2.2.2.2.1; have df := HS.out.frozen 4)))
 obtain ⟨w5, hw5⟩ : ∃ w5, w4.setCell ⟨S.s, 4, none⟩ (.slice A4 r.length c4) = w5 := ⟨_, rfl⟩
 have hsl : S.s < w.heap.size := HS0.out.blk.lt
 have HO4 : Hid (Own w5 w.heap.size 5 (.slice A4 r.length c4) (bv (bs r))) := Lib.hid (by
  rw [← hw5]
  refine Own.far (p := ⟨S.s, 4, none⟩) hO4 ?_ _
  intro e
  have : w.drew.heap.size ≤ S.s := (hO4.lt S.s e).1
  exact absurd hsl (Nat.not_lt.2 this))
 have HS5 : Hid (S.At (.slice A4 r.length c4) (.slice none 0 0) w5) := Lib.hid (by rw [← hw5]; exact HS.out.put4 ok _)
 have hB0 : S.B0 ≤ w.heap.size := by have := ok.sB; omega
 have HP5 : Hid (Past S.B0 S.g w w5) := Lib.hid (by rw [← hw5]; exact (((Past.refl S.B0 S.g w).drew).trans (hp4.mono hB0)).setCell (p := ⟨S.s, 4, none⟩) (.inr ok.sB) _)
 have HThr := Lib.hid ht
 have HH := Lib.hid (Sym.has_own ok HO4.out hc4 hsl)
 rw [hw5]
 have HR := Lib.hid (PS.rootsP S.X S.pts S.m S.c1 w5.drew ok.pl_ HS5.out.bx.drew ok.mc (by have := ok.m2; omega) (some ⟨S.g, 0, none⟩) HS5.out.cd.fld (HS5.out.farx ok))
 have hrl : (trim (roots S.pts)).length = S.m + 1 := by rw [trim_length, len_roots, ok.pl_]
 have hrt : trim (trim (roots S.pts)) = trim (roots S.pts) := trim_trim _
 obtain ⟨nt, hnt⟩ : ∃ nt, trim (roots S.pts) = nt := ⟨_, rfl⟩
 rw [hnt] at HR
 have HNT := Lib.hid hnt
 replace HS := Lib.hid (HS5.out.below (Below.refl _ w5).drew)
 have g0 := HS.out.cells.1
 have g2 := HS.out.cells.2.2.1
 have g5 := HS.out.cells.2.2.2.2.2
 have gf := HS.out.frozen 5
 clear hw5 ht hO4 hc4 hF4 hP4 hp4 HS1 d0 d2 d3 d4 df HT hq hnt hrt hrl e5
 go_wp2_with fail
 go_region_held (fun wz => wz.cell? ⟨S.s, 0, none⟩ = some (.pointer (some ⟨S.b, 0, none⟩)) ∧ wz.cell? ⟨S.s, 2, none⟩ = some (.slice S.X S.m S.c1)) (first | exact ⟨g0, g2⟩ | exact ⟨(HS.out.put5 ok _).cells.1, (HS.out.put5 ok _).cells.2.2.1⟩)
  ((first
   | (go_at_call 130; (with_reducible refine (field_calls HS.out.cd).mono ?_); rintro e w1 ⟨rfl, rfl⟩)
   | (go_at_call 54; (with_reducible refine HR.out.mono ?_); rintro e w6 ⟨A6, c6, rfl, hc6, hO6, hF6, hP6⟩; have hp6 : Past w5.drew.heap.size S.g w5.drew w6 := hP6; have HS1 := HS; replace HS := Lib.hid (HS1.out.past ok hF6 hp6); have g0 := HS.out.cells.1; have g2 := HS.out.cells.2.2.1; have g5 := HS.out.cells.2.2.2.2.2; have gf := HS.out.frozen 5)))
 all_goals
  have hsl5 : S.s < w5.heap.size := HS5.out.blk.lt
  have hH6 : S.Has w6 (.slice A4 r.length c4) r A4 c4 := HH.out.past (((Past.refl w5.heap.size S.g w5).drew).trans hp6)
  have hpt : Past w6.heap.size S.s w6 (w6.setCell ⟨S.s, 5, none⟩ (.slice A6 nt.length c6)) := (Past.refl _ _ _).setCell (p := ⟨S.s, 5, none⟩) (.inl rfl) _
  have hO7 : Own (w6.setCell ⟨S.s, 5, none⟩ (.slice A6 nt.length c6)) w5.heap.size 5 (.slice A6 nt.length c6) (bv (bs nt)) := by
   refine Own.far (p := ⟨S.s, 5, none⟩) hO6 ?_ _
   intro e
   have : w5.drew.heap.size ≤ S.s := (hO6.lt S.s e).1
   exact absurd hsl5 (Nat.not_lt.2 this)
  have hX : RInt S w (.returned (.tuple #[])) (w6.setCell ⟨S.s, 5, none⟩ (.slice A6 nt.length c6)) :=
   ⟨_, _, rfl, HS.out.put5 ok _, ⟨r, A4, c4, A6, c6, hH6.turn hpt, HThr.out, by rw [HNT.out]; exact Sym.has_own ok hO7 hc6 hsl5⟩, ((HP5.out.drew).trans (hp6.mono (Nat.le_trans hB0 HP5.out.size))).setCell (p := ⟨S.s, 5, none⟩) (.inr ok.sB) _⟩
  clear hH6 hpt hO7
  go_wp2
  go_end0
  exact hX
theorem interpolate_calls (PS : Poly.Spec) {S : Sym} {T N : Value} {w : World} (h : S.At T N w) (ok : S.Ok) (hst : S.St T N w) :
  Calls Tryz.prog 156 #[.pointer (some ⟨S.s, 0, none⟩)] w (RInt S w) := by
 rcases hst with ⟨rfl, rfl⟩ | hm
 ·exact interpolate_new PS h ok
 ·exact interpolate_made h ok hm
end Go.Proofs.YtjoghbmedfmioaaGreat.Wl
