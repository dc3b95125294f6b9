/- Of the program, joined: WcFault, MatMath. -/
import Derived.Test.YtofihklinkpbiaaGreatPl06
import Derived.Test.YtofihklinkpbiaaGreatPl13
import Derived.Test.YtofihklinkpbiaaGreatPl07
import Derived.Test.YtofihklinkpbiaaGreatPl05
namespace Go.Proofs.YtofihklinkpbiaaGreat.Wl
open Go.RowKit Go.Shelf F8 Poly GF Rd
attribute [local go_sem] Oper.semAt_some
def Nxt (n : Nat) (s : List Int) (k : Nat) : Prop := ∀ j, j < k → (0 ≤ s.getD j 0 ∧ s.getD j 0 < (n : Int)) ∧ (0 < j → s.getD j 0 ≠ s.getD (j - 1) 0)
theorem nxt_succ {n : Nat} {s : List Int} {k : Nat} (h : Nxt n s k) : Nxt n s (k + 1) ↔ (0 ≤ s.getD k 0 ∧ s.getD k 0 < (n : Int)) ∧ (0 < k → s.getD k 0 ≠ s.getD (k - 1) 0) := by
 refine ⟨fun h2 => h2 k (by omega), fun h2 j hj => ?_⟩
 rcases Nat.lt_or_ge j k with h3 | h3
 ·exact h j h3
 ·obtain rfl : j = k := by omega
  exact h2
theorem nxt_ok (n : Nat) (pl : List Int) : Nxt n (srt pl) pl.length ↔ OkP n pl := by
 have hp := srt_perm pl
 have hs := srt_sorted pl
 have hl := srt_length pl
 obtain ⟨s, hse⟩ : ∃ s, srt pl = s := ⟨_, rfl⟩
 rw [hse] at hp hs hl ⊢
 have hg : ∀ j (h : j < s.length), s.getD j 0 = s[j] := fun j h => by simp [List.getD_eq_getElem?_getD, h]
 rw [← hl]
 constructor
 ·intro h
  refine ⟨fun i hi => ?_, hp.nodup_iff.1 ?_⟩
  ·obtain ⟨j, hj, rfl⟩ := List.getElem_of_mem (hp.mem_iff.2 hi)
   have := (h j hj).1
   rwa [hg j hj] at this
  ·
   have hlt : ∀ i j (hi : i < s.length) (hj : j < s.length), i < j → s[i] < s[j] := by
    intro i j
    induction j with
    | zero => intro _ _ h; omega
    | succ j ih =>
     intro hi hj hij
     have h1 := (h (j + 1) hj).2 (by omega)
     rw [hg _ hj, Nat.add_sub_cancel, hg j (by omega)] at h1
     have h2 := List.pairwise_iff_getElem.1 hs j (j + 1) (by omega) hj (by omega)
     rcases Nat.lt_or_ge i j with h3 | h3
     ·have := ih hi (by omega) h3
      omega
     ·obtain rfl : i = j := by omega
      omega
   exact List.nodup_iff_pairwise_ne.2 (List.pairwise_iff_getElem.2 fun i j hi hj hij => by have := hlt i j hi hj hij; omega)
 ·intro h j hj
  have hnd : s.Nodup := hp.nodup_iff.2 h.2
  refine ⟨?_, fun h0 => ?_⟩
  ·rw [hg j hj]
   exact h.1 _ (hp.mem_iff.1 (List.getElem_mem hj))
  ·rw [hg j hj, hg (j - 1) (by omega)]
   intro e
   have := (List.getElem_inj hnd).1 e
   omega
theorem nxt_mono {n : Nat} {s : List Int} {k m : Nat} (h : Nxt n s m) (hk : k ≤ m) : Nxt n s k := fun j hj => h j (by omega)
set_option maxRecDepth 100000 in
set_option maxHeartbeats 4000000 in
theorem areIndices_calls (P : Option Addr) (pl : List Int) (m d n : Nat) (w : World) (hl : pl.length = m) (hr : Row w P (zs pl)) (hm : m ≤ 1000000) :
  Calls Tryz.prog 158 #[.slice P m d, .int .i64 n] w fun e w' => e = .returned (.bool (decide (OkP n pl))) ∧ Below w.heap.size w w' := by
 have hv : Vls (w.heap.size + 1) w.heap.size P m d pl (w.alloc (.cells #[.slice P m d] 38)) :=
  ⟨Block.new _ _ _, hr.alloc _, by omega, fun hne a ha => by
   obtain ⟨u, us, hu⟩ : ∃ u us, zs pl = u :: us := by
    cases hz : zs pl with
    | nil => exact absurd hz hne
    | cons u us => exact ⟨u, us, rfl⟩
   obtain ⟨b, off, hb, hc⟩ := hr 0 u (by rw [hu]; rfl)
   have := cell_lt hc
   rw [ha] at hb
   injection hb with hb
   subst hb
   simp only at this ⊢
   omega⟩
 have hv2 := sorted_calls w.heap.size P m d pl hl hm (w.alloc (.cells #[.slice P m d] 38)) (by simpa using hv)
 have HV := Lib.hid hv2
 have HN := Lib.hid (nxt_ok n pl)
 rw [hl] at HN
 have HSL : Hid ((srt pl).length = m) := Lib.hid ((srt_length pl).trans hl)
 obtain ⟨s, hs⟩ : ∃ s, srt pl = s := ⟨_, rfl⟩
 rw [hs] at HN HSL HV
 clear hv hv2 hs hr hl
 go_enter Tryz.func158, Tryz.ntmps158
 go_wp2_with (first
  | (go_at_call 189; refine (values_calls P m d w).mono ?_; rintro e w1 ⟨rfl, rfl⟩)
  | (go_at_call 188; (with_reducible refine HV.out.mono ?_); rintro e w2 ⟨A, c, rfl, hc, hO, hB⟩; have HO := Lib.hid hO; have HB : Hid (Below w.heap.size w w2) := Lib.hid (((Below.refl _ w).alloc (Nat.le_refl _) _).trans (hB.mono (by simp))); have HR : Hid (Row w2 A (zs s)) := Lib.hid (own_row hO); clear hO hB HV))
 go_loopw [13] (fun i wr => ∃ k : Nat, k ≤ m ∧ i = .int .i64 k ∧ Hid (Nxt n s k) ∧ Hid (Below w2.heap.size w2 wr)) (fun i _ => m - (intOf i).toNat)
 case atStart => exact ⟨0, by omega, rfl, Lib.hid (fun j hj => by omega), Lib.hid (Below.refl _ _)⟩
 case round =>
  obtain ⟨k, hk, rfl, HX, HW⟩ := hrel
  have HWB : Hid (Below w.heap.size w wr) := Lib.hid (HB.out.trans (HW.out.mono HB.out.size))
  by_cases hlt : k < m
  ·have hks : k < s.length := by rw [HSL.out]; exact hlt
   obtain ⟨b, off, rfl, hcell⟩ := zs_at (HR.out.below HW.out) (k := k) hks
   have hsucc := nxt_succ HX.out
   have hget : s.getD k 0 = s[k] := by simp [List.getD_eq_getElem?_getD, hks]
   have hout : ¬ Nxt n s (k + 1) → decide (OkP n pl) = false := fun h => decide_eq_false fun h2 => h (nxt_mono (HN.out.2 h2) (by omega))
   have hprev : 0 < k → wr.cell? ⟨b, off + (k - 1), none⟩ = some (.int .i64 (s.getD (k - 1) 0)) := fun h0 => by
    have h1 : k - 1 < s.length := by omega
    obtain ⟨b', off', he, hc'⟩ := zs_at (HR.out.below HW.out) (k := k - 1) h1
    injection he with he
    injection he with e1 e2
    subst e1 e2
    rw [hc']
    simp [List.getD_eq_getElem?_getD, h1]
   rw [hget] at hsucc
   obtain ⟨z, hz⟩ : ∃ z, s[k] = z := ⟨_, rfl⟩
   obtain ⟨y, hy⟩ : ∃ y, s.getD (k - 1) 0 = y := ⟨_, rfl⟩
   rw [hz, hy] at hsucc
   rw [hz] at hcell
   rw [hy] at hprev
   clear hget hz hy
   by_cases h0 : z < 0
   ·have HNO : Hid (decide (OkP n pl) = false) := Lib.hid (hout (by rw [hsucc]; rintro ⟨⟨h, _⟩, _⟩; omega))
    clear hsucc hout hprev
    go_wp2
    go_ret
    exact ⟨by rw [HNO.out]; rfl, HWB.out⟩
   by_cases h1 : (n : Int) ≤ z
   ·have HNO : Hid (decide (OkP n pl) = false) := Lib.hid (hout (by rw [hsucc]; rintro ⟨⟨_, h⟩, _⟩; omega))
    clear hsucc hout hprev
    go_wp2
    go_ret
    exact ⟨by rw [HNO.out]; rfl, HWB.out⟩
   by_cases h2 : k = 0
   ·have HX2 : Hid (Nxt n s (k + 1)) := Lib.hid (hsucc.2 ⟨⟨by omega, by omega⟩, fun h => by omega⟩)
    clear hsucc hout hprev
    subst h2
    rw [Nat.add_zero] at hcell
    go_wp2
    go_roundw
    case rel => exact ⟨1, by omega, by go_num, HX2, HW⟩
    case measure => simp [intOf]; omega
   ·obtain ⟨q, rfl⟩ : ∃ q, k = q + 1 := ⟨k - 1, by omega⟩
    have hpr := hprev (by omega)
    rw [Nat.add_sub_cancel] at hpr
    by_cases h3 : z = y
    ·have HNO : Hid (decide (OkP n pl) = false) := Lib.hid (hout (by rw [hsucc]; rintro ⟨_, h⟩; exact h (by omega) h3))
     have hbz : ((z : Int) == y) = true := by simp [h3]
     clear hsucc hout hprev h3
     go_wp2
     go_ret
     exact ⟨by rw [HNO.out]; rfl, HWB.out⟩
    ·have HX2 : Hid (Nxt n s (q + 1 + 1)) := Lib.hid (hsucc.2 ⟨⟨by omega, by omega⟩, fun _ => h3⟩)
     have hbz : ((z : Int) == y) = false := by simp [h3]
     clear hsucc hout hprev h3
     go_wp2
     go_roundw
     case rel => exact ⟨q + 1 + 1, by omega, by go_num, HX2, HW⟩
     case measure => simp [intOf]; omega
  ·obtain rfl : k = m := by omega
   have HY : Hid (decide (OkP n pl) = true) := Lib.hid (decide_eq_true (HN.out.1 HX.out))
   go_wp2
   go_ret
   exact ⟨by rw [HY.out]; rfl, HWB.out⟩
set_option maxRecDepth 100000 in
set_option maxHeartbeats 2000000 in
theorem wat_calls (A : Option Addr) (p : List F8) (n c : Nat) (B : Option Addr) (pl : List Int) (m d : Nat) (w : World) (hn : p.length = n) (hb : Bytes w A (bs p)) (hn2 : n ≤ 1000000) (hl : pl.length = m) (hr : Row w B (zs pl)) (hm : m ≤ 1000000) (hok : OkP n pl) :
  Calls Tryz.prog 116 #[.slice A n c, .slice B m d] w (ROwn w (ptsAt p pl) m) := by
 have HB := Lib.hid hb
 have HR := Lib.hid hr
 have HM := Lib.hid hl
 have HN := Lib.hid hn
 have HK := Lib.hid hok
 obtain ⟨w1, hmk, hO1, hB1⟩ := make_room w m (by omega)
 have HO1 := Lib.hid hO1
 clear hb hl hr hok hn hO1
 go_enter Tryz.func116, Tryz.ntmps116
 go_wp2
 go_loopw [5, 13] (fun out i wr => ∃ k : Nat, k ≤ m ∧ i = .int .i64 k ∧ Hid (Own wr w.heap.size 5 out (bv (bs (ptsAt p (pl.take k))))) ∧ Below w.heap.size w wr) (fun _ i _ => m - (intOf i).toNat)
 case atStart => exact ⟨0, by omega, rfl, HO1, hB1⟩
 case round =>
  obtain ⟨k, hk, rfl, HO, HW⟩ := hrel
  have hsz := HW.size
  by_cases hlt : k < m
  ·have hkp : k < pl.length := by rw [HM.out]; exact hlt
   obtain ⟨b, off, rfl, hcell⟩ := zs_at (HR.out.below HW) (k := k) hkp
   have HT := Lib.hid (ptsAt_snoc (p := p) hkp)
   have hin := HK.out.1 pl[k] (List.getElem_mem hkp)
   have HL : Hid ((bv (bs (ptsAt p (pl.take k)))).length = k) := Lib.hid (by rw [bvs_length, ptsAt_length, List.length_take]; omega)
   obtain ⟨z, hz⟩ : ∃ z, pl[k] = z := ⟨_, rfl⟩
   rw [hz] at hcell hin HT
   obtain ⟨x, rfl⟩ : ∃ x : Nat, z = (x : Int) := ⟨z.toNat, by omega⟩
   obtain ⟨y, hy⟩ : ∃ y, coef p x = y := ⟨_, rfl⟩
   have hxn : (x : Int) < (n : Int) := hin.2
   have hxp : x < p.length := by rw [HN.out]; omega
   obtain ⟨b2, o2, rfl⟩ := where_ HB.out (by omega)
   have hc2 := cellAt (HB.out.below HW) x hxp
   rw [Int.toNat_natCast] at HT
   rw [hy] at hc2 HT
   clear hz hy hin hxp
   go_wp2_with (at_builtin; refine wpList_app _ rfl _ _ _ rfl w.heap.size 5 _ 1 Tryz.underlying22 info_u8 rfl (by omega) _ _ rfl (HO.out.alloc _) (some ⟨wr.heap.size, 0, none⟩) 1 1 (bv [y.n]) rfl rfl (Row.new _ _ _ _) (bv_one _) (by rw [HL.out]; omega) (by simp; omega) ?_; rintro v2 w2 hown hg3 -)
   rw [← HT.out] at hown
   have HO2 := Lib.hid hown
   have hB2 := (HW.alloc hsz _).trans ((HO.out.alloc _).grew (by simp; omega) hg3)
   clear hown hg3
   go_roundw
   case rel => exact ⟨k + 1, by omega, by go_num, HO2, hB2⟩
   case measure => simp [intOf]; omega
  ·obtain rfl : k = m := by omega
   have ht : pl.take k = pl := List.take_of_length_le (by rw [HM.out]; exact Nat.le_refl _)
   rw [ht] at HO
   obtain ⟨A1, c1, rfl, hc1⟩ := Own.shape HO.out
   have HPL : Hid ((ptsAt p pl).length = k) := Lib.hid (by rw [ptsAt_length, HM.out])
   rw [HPL.out] at HO hc1 ⊢
   go_wp2
   go_ret
   exact ⟨A1, c1, rfl, hc1, HO.out, HW⟩
def Flt (xs : List F8) (k : Nat) (pl : List Int) (ys : List F8) (t z : Int) : Prop :=
 (z = 2 ∧ ¬ ((pl.length = ys.length ∧ OkP xs.length pl) ∧ 0 ≤ t)) ∨ (z = 70 ∧ ((pl.length = ys.length ∧ OkP xs.length pl) ∧ 0 ≤ t) ∧ (pl.length : Int) < k + 2 * t) ∨ (z = 0 ∧ ((pl.length = ys.length ∧ OkP xs.length pl) ∧ 0 ≤ t) ∧ k + 2 * t ≤ (pl.length : Int))
def RFlt (xs : List F8) (k : Nat) (pl : List Int) (ys : List F8) (t : Int) (w : World) (e : Ending) (w' : World) : Prop := ∃ z, e = .returned (.int .i64 z) ∧ Flt xs k pl ys t z ∧ Below w.heap.size w w'
set_option maxRecDepth 100000 in
set_option maxHeartbeats 4000000 in
theorem fault_calls {w : World} {b g : Nat} {A : Option Addr} {xs : List F8} {n c k : Nat} (h : Cd w b g A xs n c k) (P : Option Addr) (pl : List Int) (m d : Nat) (hl : pl.length = m) (hr : Row w P (zs pl)) (hm : m ≤ 1000) (B : Option Addr) (ys : List F8) (o e : Nat) (ho : ys.length = o) (ho2 : o ≤ 1000) (t : Int) :
  Calls Tryz.prog 115 #[.pointer (some ⟨b, 0, none⟩), .slice P m d, .slice B o e, .int .i64 t] w (RFlt xs k pl ys t w) := by
 have HC := Lib.hid h
 have HR := Lib.hid hr
 have hk1 := h.k1
 have hk0 : (((k : Int)) == 0) = false := by simp; omega
 have hkn : k ≤ 256 := Nat.le_trans h.kn h.n256
 have HK := Lib.hid (k_calls h)
 have HL := Lib.hid hl
 have hxl := h.len
 by_cases hmo : m = o
 ·have e1 : ((m : Int) != (o : Int)) = false := by simp; omega
  by_cases hok : OkP n pl
  ·have HD : Hid (decide (OkP n pl) = true) := Lib.hid (decide_eq_true hok)
   by_cases ht : t < 0
   ·have HX : Hid (Flt xs k pl ys t 2) := Lib.hid (.inl ⟨rfl, fun h => by have := h.2; omega⟩)
    clear h hr hok hl ho hmo hxl
    go_enter Tryz.func115, Tryz.ntmps115
    go_wp2_with (first
   | (go_at_call 68; (with_reducible refine HK.out.mono ?_); rintro e w1 ⟨rfl, rfl⟩)
   | (go_at_call 117; (with_reducible refine (points_calls HC.out).mono ?_); rintro e w2 ⟨A2, c2, rfl, hc2, hO2, hB2⟩; clear hc2 hO2; have HA := Lib.hid (areIndices_calls P pl m d n w2 HL.out (HR.out.below hB2) (by omega)); rw [HD.out] at HA)
   | (go_at_call 158; (with_reducible refine HA.out.mono ?_); rintro e w3 ⟨rfl, hB3⟩))
    go_ret
    exact ⟨2, rfl, HX.out, hB2.trans (hB3.mono hB2.size)⟩
   ·have HA0 : (pl.length = ys.length ∧ OkP xs.length pl) ∧ 0 ≤ t := ⟨⟨by omega, by rw [hxl]; exact hok⟩, by omega⟩
    have hlen : (pl.length : Int) = o := by omega
    by_cases hkt : (o : Int) < k + 2 * t
    ·have HX : Hid (Flt xs k pl ys t 70) := Lib.hid (.inr (.inl ⟨rfl, HA0, by omega⟩))
     clear h hr hok hl ho hmo hxl HA0 hlen
     go_enter Tryz.func115, Tryz.ntmps115
     go_wp2_with (first
   | (go_at_call 68; (with_reducible refine HK.out.mono ?_); rintro e w1 ⟨rfl, rfl⟩)
   | (go_at_call 117; (with_reducible refine (points_calls HC.out).mono ?_); rintro e w2 ⟨A2, c2, rfl, hc2, hO2, hB2⟩; clear hc2 hO2; have HA := Lib.hid (areIndices_calls P pl m d n w2 HL.out (HR.out.below hB2) (by omega)); rw [HD.out] at HA)
   | (go_at_call 158; (with_reducible refine HA.out.mono ?_); rintro e w3 ⟨rfl, hB3⟩))
     all_goals
      first
      | (exfalso; omega)
      | (go_ret; exact ⟨70, rfl, HX.out, hB2.trans (hB3.mono hB2.size)⟩)
    ·have HX : Hid (Flt xs k pl ys t 0) := Lib.hid (.inr (.inr ⟨rfl, HA0, by omega⟩))
     clear h hr hok hl ho hmo hxl HA0 hlen
     go_enter Tryz.func115, Tryz.ntmps115
     go_wp2_with (first
   | (go_at_call 68; (with_reducible refine HK.out.mono ?_); rintro e w1 ⟨rfl, rfl⟩)
   | (go_at_call 117; (with_reducible refine (points_calls HC.out).mono ?_); rintro e w2 ⟨A2, c2, rfl, hc2, hO2, hB2⟩; clear hc2 hO2; have HA := Lib.hid (areIndices_calls P pl m d n w2 HL.out (HR.out.below hB2) (by omega)); rw [HD.out] at HA)
   | (go_at_call 158; (with_reducible refine HA.out.mono ?_); rintro e w3 ⟨rfl, hB3⟩))
     all_goals
      first
      | (exfalso; omega)
      | (go_ret; exact ⟨0, rfl, HX.out, hB2.trans (hB3.mono hB2.size)⟩)
  ·have HD : Hid (decide (OkP n pl) = false) := Lib.hid (decide_eq_false hok)
   have HX : Hid (Flt xs k pl ys t 2) := Lib.hid (.inl ⟨rfl, fun h => hok (by have := h.1.2; rwa [hxl] at this)⟩)
   clear h hr hok hl ho hmo hxl
   go_enter Tryz.func115, Tryz.ntmps115
   go_wp2_with (first
   | (go_at_call 68; (with_reducible refine HK.out.mono ?_); rintro e w1 ⟨rfl, rfl⟩)
   | (go_at_call 117; (with_reducible refine (points_calls HC.out).mono ?_); rintro e w2 ⟨A2, c2, rfl, hc2, hO2, hB2⟩; clear hc2 hO2; have HA := Lib.hid (areIndices_calls P pl m d n w2 HL.out (HR.out.below hB2) (by omega)); rw [HD.out] at HA)
   | (go_at_call 158; (with_reducible refine HA.out.mono ?_); rintro e w3 ⟨rfl, hB3⟩))
   go_ret
   exact ⟨2, rfl, HX.out, hB2.trans (hB3.mono hB2.size)⟩
 ·have e1 : ((m : Int) != (o : Int)) = true := by simp; omega
  have HX : Hid (Flt xs k pl ys t 2) := Lib.hid (.inl ⟨rfl, fun h => hmo (by have := h.1.1; omega)⟩)
  clear h hr hl ho hmo hxl
  go_enter Tryz.func115, Tryz.ntmps115
  go_wp2_with (go_at_call 68; (with_reducible refine HK.out.mono ?_); rintro e w1 ⟨rfl, rfl⟩)
  go_ret
  exact ⟨2, rfl, HX.out, Below.refl _ _⟩
end Go.Proofs.YtofihklinkpbiaaGreat.Wl

namespace Go.Proofs.YtofihklinkpbiaaGreat.Mat
open F8 Poly
def sum : Nat → (Nat → F8) → F8
 | 0, _ => 0
 | n + 1, f => sum n f + f n
theorem sum_congr {n : Nat} {f g : Nat → F8} (h : ∀ i, i < n → f i = g i) : sum n f = sum n g := by
 induction n with
 | zero => rfl
 | succ n ih => simp only [sum]; rw [ih (fun i hi => h i (by omega)), h n (by omega)]
theorem sum_zero (n : Nat) : sum n (fun _ => 0) = 0 := by
 induction n with
 | zero => rfl
 | succ n ih => simp only [sum]; rw [ih, add_zero]
theorem sum_zero' {n : Nat} {f : Nat → F8} (h : ∀ i, i < n → f i = 0) : sum n f = 0 := by rw [sum_congr h, sum_zero]
theorem sum_add (n : Nat) (f g : Nat → F8) : sum n (fun i => f i + g i) = sum n f + sum n g := by
 induction n with
 | zero => simp only [sum]; rw [add_zero]
 | succ n ih => simp only [sum]; rw [ih]; ac_rfl
theorem mul_sum (n : Nat) (c : F8) (f : Nat → F8) : sum n (fun i => c * f i) = c * sum n f := by
 induction n with
 | zero => simp only [sum]; rw [mul_zero]
 | succ n ih => simp only [sum]; rw [ih, mul_add]
theorem sum_comm (m n : Nat) (f : Nat → Nat → F8) : sum m (fun i => sum n (f i)) = sum n (fun j => sum m (fun i => f i j)) := by
 induction m with
 | zero => simp only [sum]; rw [sum_zero]
 | succ m ih => simp only [sum]; rw [ih, ← sum_add]
theorem sum_one {n k : Nat} (a : F8) (hk : k < n) : sum n (fun i => if i = k then a else 0) = a := by
 induction n with
 | zero => omega
 | succ n ih =>
  simp only [sum]
  by_cases e : n = k
  ·subst e
   rw [if_pos rfl, sum_zero' (fun i hi => if_neg (by omega)), zero_add]
  ·rw [if_neg e, ih (by omega), add_zero]
theorem sum_at {n k : Nat} (f : Nat → F8) (hk : k < n) (h : ∀ i, i < n → i ≠ k → f i = 0) : sum n f = f k := by
 rw [← sum_one (f k) hk]
 refine sum_congr fun i hi => ?_
 by_cases e : i = k
 ·rw [if_pos e, e]
 ·rw [if_neg e, h i hi e]
theorem sum_split (m n : Nat) (f : Nat → F8) : sum (m + n) f = sum m f + sum n (fun i => f (m + i)) := by
 induction n with
 | zero => simp only [sum]; rw [add_zero]; rfl
 | succ n ih => rw [← Nat.add_assoc]; simp only [sum]; rw [ih, add_assoc]
def ent (s : List F8) (c i j : Nat) : F8 := coef s (i * c + j)
def flat (r c : Nat) (f : Nat → Nat → F8) : List F8 := (List.range (r * c)).map fun k => f (k / c) (k % c)
theorem flat_length (r c : Nat) (f : Nat → Nat → F8) : (flat r c f).length = r * c := by simp [flat]
theorem idx_lt {r c i j : Nat} (hi : i < r) (hj : j < c) : i * c + j < r * c := by
 have := Nat.mul_le_mul_right c (show i + 1 ≤ r by omega)
 rw [Nat.succ_mul] at this
 omega
theorem idx_div {c i j : Nat} (hj : j < c) : (i * c + j) / c = i := by
 rw [Nat.mul_comm, Nat.mul_add_div (by omega), Nat.div_eq_of_lt hj, Nat.add_zero]
theorem idx_mod {c i j : Nat} (hj : j < c) : (i * c + j) % c = j := by
 rw [Nat.mul_comm, Nat.mul_add_mod, Nat.mod_eq_of_lt hj]
theorem idx_inj {c i j i' j' : Nat} (hj : j < c) (hj' : j' < c) : i * c + j = i' * c + j' ↔ i = i' ∧ j = j' := by
 constructor
 ·intro h
  exact ⟨by rw [← idx_div (i := i) hj, h, idx_div hj'], by rw [← idx_mod (i := i) hj, h, idx_mod hj']⟩
 ·rintro ⟨rfl, rfl⟩; rfl
theorem idx_row {c i i' j : Nat} (hj : j < c) : (i * c ≤ i' * c + j ∧ i' * c + j < i * c + c) ↔ i' = i := by
 constructor
 ·rintro ⟨h1, h2⟩
  have e1 : i' * c + j = i * c + (i' * c + j - i * c) := by omega
  exact ((idx_inj hj (show i' * c + j - i * c < c by omega)).1 e1).1
 ·rintro rfl; omega
theorem ent_flat {r c i j : Nat} {f : Nat → Nat → F8} (hi : i < r) (hj : j < c) : ent (flat r c f) c i j = f i j := by
 unfold ent
 rw [coef_of_lt (by rw [flat_length]; exact idx_lt hi hj)]
 simp only [flat, List.getElem_map, List.getElem_range]
 rw [idx_div hj, idx_mod hj]
structure IsM (r c : Nat) (s : List F8) (f : Nat → Nat → F8) : Prop where
 len : s.length = r * c
 ent : ∀ i j, i < r → j < c → ent s c i j = f i j
theorem isM_flat (r c : Nat) (f : Nat → Nat → F8) : IsM r c (flat r c f) f := ⟨flat_length r c f, fun _ _ hi hj => ent_flat hi hj⟩
theorem IsM.congr {r c : Nat} {s : List F8} {f g : Nat → Nat → F8} (h : IsM r c s f) (hg : ∀ i j, i < r → j < c → f i j = g i j) : IsM r c s g :=
 ⟨h.len, fun i j hi hj => (h.ent i j hi hj).trans (hg i j hi hj)⟩
theorem list_ext {s t : List F8} (hl : s.length = t.length) (h : ∀ k, k < s.length → coef s k = coef t k) : s = t := by
 refine List.ext_getElem hl fun k h1 h2 => ?_
 have := h k h1
 rwa [coef_of_lt h1, coef_of_lt h2] at this
theorem IsM.only {r c : Nat} {s t : List F8} {f g : Nat → Nat → F8} (h : IsM r c s f) (k : IsM r c t g) (hfg : ∀ i j, i < r → j < c → f i j = g i j) : s = t := by
 refine list_ext (by rw [h.len, k.len]) fun x hx => ?_
 rw [h.len] at hx
 have hc : 0 < c := by rcases Nat.eq_zero_or_pos c with rfl | hc; simp at hx; exact hc
 have h1 : x / c < r := Nat.div_lt_of_lt_mul (by rw [Nat.mul_comm]; exact hx)
 have h2 := Nat.mod_lt x hc
 have e : x = x / c * c + x % c := by rw [Nat.mul_comm]; exact (Nat.div_add_mod x c).symm
 have a := h.ent _ _ h1 h2
 have b := k.ent _ _ h1 h2
 unfold Mat.ent at a b
 rw [← e] at a b
 rw [a, b, hfg _ _ h1 h2]
theorem IsM.flat {r c : Nat} {s : List F8} {f : Nat → Nat → F8} (h : IsM r c s f) : s = flat r c f := h.only (isM_flat r c f) (fun _ _ _ _ => rfl)
theorem ent_replicate (n c i j : Nat) : ent (List.replicate n 0) c i j = 0 := by
 unfold ent
 by_cases h : i * c + j < n
 ·rw [coef_of_lt (by simpa using h)]; simp
 ·rw [coef_of_le (by simpa using h)]
theorem coef_set' (l : List F8) (k : Nat) (x : F8) (hk : k < l.length) (i : Nat) : coef (l.set k x) i = if i = k then x else coef l i := by
 unfold coef
 rw [List.getD_eq_getElem?_getD, List.getD_eq_getElem?_getD, List.getElem?_set]
 by_cases e : k = i
 ·subst e; rw [if_pos rfl, if_pos rfl, if_pos hk]; rfl
 ·rw [if_neg e, if_neg (fun h => e h.symm)]
theorem ent_set {r c i j : Nat} {s : List F8} (hs : s.length = r * c) (hi : i < r) (hj : j < c) (x : F8) (i' j' : Nat) (hj' : j' < c) : ent (s.set (i * c + j) x) c i' j' = if i' = i ∧ j' = j then x else ent s c i' j' := by
 unfold ent
 rw [coef_set' _ _ _ (by rw [hs]; exact idx_lt hi hj)]
 by_cases e : i' = i ∧ j' = j
 ·rw [if_pos e, if_pos ((idx_inj hj' hj).2 e)]
 ·rw [if_neg e, if_neg (fun h => e ((idx_inj hj' hj).1 h))]
def mulF (n : Nat) (a b : Nat → Nat → F8) (i k : Nat) : F8 := sum n fun j => a i j * b j k
def tr (a : Nat → Nat → F8) (i j : Nat) : F8 := a j i
theorem mulF_congr {n i k : Nat} {a a' b b' : Nat → Nat → F8} (ha : ∀ j, j < n → a i j = a' i j) (hb : ∀ j, j < n → b j k = b' j k) : mulF n a b i k = mulF n a' b' i k :=
 sum_congr fun j hj => by rw [ha j hj, hb j hj]
def app (C : Nat) (M : Nat → Nat → F8) (x : Nat → F8) (i : Nat) : F8 := sum C fun j => M i j * x j
def Ker (r C : Nat) (M : Nat → Nat → F8) (x : Nat → F8) : Prop := ∀ i, i < r → app C M x i = 0
def Piv (r C : Nat) (M : Nat → Nat → F8) (c : Nat) : Prop := ¬ ∃ x : Nat → F8, x c = 1 ∧ (∀ j, c < j → x j = 0) ∧ Ker r C M x
theorem app_congr {C i : Nat} {M M' : Nat → Nat → F8} (x : Nat → F8) (h : ∀ j, j < C → M i j = M' i j) : app C M x i = app C M' x i := sum_congr fun j hj => by rw [h j hj]
theorem ker_congr {r C : Nat} {M M' : Nat → Nat → F8} (x : Nat → F8) (h : ∀ i j, i < r → j < C → M i j = M' i j) : Ker r C M x ↔ Ker r C M' x :=
 ⟨fun k i hi => by rw [← app_congr x (fun j hj => h i j hi hj)]; exact k i hi, fun k i hi => by rw [app_congr x (fun j hj => h i j hi hj)]; exact k i hi⟩
structure Red (r C : Nat) (M0 M : Nat → Nat → F8) (ord : Nat → Nat) (bg : List Nat) (col : Nat) : Prop where
 ker : ∀ x, Ker r C M x ↔ Ker r C M0 x
 lt : ∀ t, t < r → ord t < r
 inj : ∀ t u, t < r → u < r → ord t = ord u → t = u
 sur : ∀ i, i < r → ∃ t, t < r ∧ ord t = i
 le : bg.length ≤ r
 up : bg.Pairwise (· < ·)
 in_ : ∀ c, c ∈ bg → c < col
 one : ∀ t u (hu : u < bg.length), t < r → M (ord t) bg[u] = if t = u then 1 else 0
 rest : ∀ t j, bg.length ≤ t → t < r → j < col → M (ord t) j = 0
 left : ∀ t (ht : t < bg.length) j, j < bg[t] → M (ord t) j = 0
theorem Red.start (r C : Nat) (M0 : Nat → Nat → F8) : Red r C M0 M0 (fun i => i) [] 0 where
 ker _ := Iff.rfl
 lt _ h := h
 inj _ _ _ _ h := h
 sur i h := ⟨i, h, rfl⟩
 le := Nat.zero_le _
 up := List.Pairwise.nil
 in_ _ h := by simp at h
 one _ _ h := by simp at h
 rest _ _ _ _ h := by omega
 left _ h := by simp at h
section
variable {r C : Nat} {M0 M M' : Nat → Nat → F8} {ord : Nat → Nat} {bg : List Nat} {col cols : Nat}
theorem Red.skip (h : Red r C M0 M ord bg col) (hz : ∀ t, bg.length ≤ t → t < r → M (ord t) col = 0) : Red r C M0 M ord bg (col + 1) where
 ker := h.ker
 lt := h.lt
 inj := h.inj
 sur := h.sur
 le := h.le
 up := h.up
 in_ c hc := by have := h.in_ c hc; omega
 one := h.one
 rest t j h1 h2 h3 := by
  rcases Nat.lt_or_ge j col with hj | hj
  ·exact h.rest t j h1 h2 hj
  ·obtain rfl : j = col := by omega
   exact hz t h1 h2
 left := h.left
theorem Red.skips (h : Red r C M0 M ord bg col) (hr : bg.length = r) (n : Nat) : Red r C M0 M ord bg (col + n) := by
 induction n with
 | zero => exact h
 | succ n ih => exact ih.skip (fun t h1 h2 => by omega)
theorem Red.finish (h : Red r C M0 M ord bg col) (hr : bg.length = r) (hc : col ≤ cols) : Red r C M0 M ord bg cols := by
 have := h.skips hr (cols - col)
 rwa [show col + (cols - col) = cols by omega] at this
def swp (ord : Nat → Nat) (k p : Nat) (t : Nat) : Nat := if t = k then ord p else if t = p then ord k else ord t
theorem swp_lt (h : ∀ t, t < r → ord t < r) {k p : Nat} (hk : k < r) (hp : p < r) : ∀ t, t < r → swp ord k p t < r := by
 intro t ht; unfold swp
 split
 ·exact h p hp
 ·split
  ·exact h k hk
  ·exact h t ht
theorem swp_inj (h : ∀ t u, t < r → u < r → ord t = ord u → t = u) {k p : Nat} (hk : k < r) (hp : p < r) : ∀ t u, t < r → u < r → swp ord k p t = swp ord k p u → t = u := by
 intro t u ht hu e
 unfold swp at e
 by_cases a : t = k
 ·rw [if_pos a] at e
  by_cases b : u = k
  ·omega
  ·rw [if_neg b] at e
   by_cases c : u = p
   ·rw [if_pos c] at e
    have := h _ _ hp hk e; omega
   ·rw [if_neg c] at e
    have := h _ _ hp hu e; omega
 ·rw [if_neg a] at e
  by_cases a2 : t = p
  ·rw [if_pos a2] at e
   by_cases b : u = k
   ·rw [if_pos b] at e
    have := h _ _ hk hp e; omega
   ·rw [if_neg b] at e
    by_cases c : u = p
    ·omega
    ·rw [if_neg c] at e
     have := h _ _ hk hu e; omega
  ·rw [if_neg a2] at e
   by_cases b : u = k
   ·rw [if_pos b] at e
    have := h _ _ ht hp e; omega
   ·rw [if_neg b] at e
    by_cases c : u = p
    ·rw [if_pos c] at e
     have := h _ _ ht hk e; omega
    ·rw [if_neg c] at e
     exact h _ _ ht hu e
theorem swp_sur (h : ∀ i, i < r → ∃ t, t < r ∧ ord t = i) {k p : Nat} (hk : k < r) (hp : p < r) : ∀ i, i < r → ∃ t, t < r ∧ swp ord k p t = i := by
 intro i hi
 obtain ⟨t, ht, rfl⟩ := h i hi
 unfold swp
 by_cases a : t = k
 ·subst a
  by_cases b : p = t
  ·subst b; exact ⟨p, ht, if_pos rfl⟩
  ·exact ⟨p, hp, by rw [if_neg b, if_pos rfl]⟩
 ·by_cases b : t = p
  ·subst b; exact ⟨k, hk, if_pos rfl⟩
  ·exact ⟨t, ht, by rw [if_neg a, if_neg b]⟩
theorem getElem_snoc {α : Type} (l : List α) (a : α) (u : Nat) (hu : u < (l ++ [a]).length) : (l ++ [a])[u] = if h : u < l.length then l[u] else a := by
 by_cases h : u < l.length
 ·rw [dif_pos h, List.getElem_append_left h]
 ·rw [dif_neg h, List.getElem_append_right (by omega)]
  simp
theorem Red.pivot (h : Red r C M0 M ord bg col) (hcC : col < C) {p : Nat} (hp1 : bg.length ≤ p) (hp : p < r) {v : F8} (hv : M (ord p) col = v) (hv0 : v ≠ 0)
  (hL : ∀ j, j < C → M' (ord p) j = M (ord p) j / v) (hO : ∀ i j, i < r → j < C → i ≠ ord p → M' i j = M i j + M i col * M' (ord p) j) :
  Red r C M0 M' (swp ord bg.length p) (bg ++ [col]) (col + 1) := by
 have hk : bg.length < r := by omega
 have hOp : ord p < r := h.lt p hp
 have e1 : swp ord bg.length p bg.length = ord p := by unfold swp; rw [if_pos rfl]
 have hne : ∀ t, t < r → t ≠ bg.length → swp ord bg.length p t ≠ ord p := fun t ht hn e => hn (swp_inj h.inj hk hp t _ ht hk (by rw [e, e1]))
 have hlt := swp_lt h.lt hk hp
 have hsm : ∀ t, t < bg.length → swp ord bg.length p t = ord t := fun t ht => by unfold swp; rw [if_neg (by omega), if_neg (by omega)]
 have hL0 : ∀ j, j < col → M' (ord p) j = 0 := fun j hj => by rw [hL j (by omega), h.rest p j hp1 hp hj, zero_div]
 have hL1 : M' (ord p) col = 1 := by rw [hL col hcC, hv]; exact (div_eq hv0).2 (one_mul v).symm
 have hold : ∀ t j, t < r → t ≠ bg.length → j < col → M' (swp ord bg.length p t) j = M (swp ord bg.length p t) j := fun t j ht hn hj => by
  rw [hO _ _ (hlt t ht) (by omega) (hne t ht hn), hL0 j hj, mul_zero, add_zero]
 have hfrom : ∀ t, bg.length ≤ t → t < r → ∃ s, bg.length ≤ s ∧ s < r ∧ swp ord bg.length p t = ord s := fun t h1 h2 => by
  unfold swp
  by_cases a : t = bg.length
  ·exact ⟨p, hp1, hp, by rw [if_pos a]⟩
  ·rw [if_neg a]
   by_cases b : t = p
   ·exact ⟨bg.length, Nat.le_refl _, hk, by rw [if_pos b]⟩
   ·exact ⟨t, h1, h2, by rw [if_neg b]⟩
 have hbgcol : ∀ (u : Nat) (hu : u < bg.length), bg[u] < col := fun u hu => h.in_ _ (List.getElem_mem hu)
 refine ⟨fun x => ?_, hlt, swp_inj h.inj hk hp, swp_sur h.sur hk hp, ?_, ?_, ?_, ?_, ?_, ?_⟩
 ·rw [← h.ker x]
  have a1 : app C M' x (ord p) = inv v * app C M x (ord p) := by
   unfold app
   rw [← mul_sum]
   exact sum_congr fun j hj => by rw [hL j hj, div_eq_mul_inv _ hv0, mul_comm (M _ _), mul_assoc]
  have a2 : ∀ i, i < r → i ≠ ord p → app C M' x i = app C M x i + M i col * app C M' x (ord p) := fun i hi hn => by
   unfold app
   rw [← mul_sum, ← sum_add]
   exact sum_congr fun j hj => by rw [hO i j hi hj hn, add_mul, mul_assoc]
  constructor
  ·intro hx i hi
   have h0 := hx _ hOp
   by_cases e : i = ord p
   ·subst e
    rw [a1] at h0
    exact (mul_eq_zero.1 h0).resolve_left (inv_ne hv0)
   ·have := hx i hi
    rw [a2 i hi e, h0, mul_zero, add_zero] at this; exact this
  ·intro hx i hi
   have h0 : app C M' x (ord p) = 0 := by rw [a1, hx _ hOp, mul_zero]
   by_cases e : i = ord p
   ·subst e; exact h0
   ·rw [a2 i hi e, h0, mul_zero, add_zero]; exact hx i hi
 ·rw [List.length_append]; simp; omega
 ·refine List.pairwise_append.2 ⟨h.up, by simp, fun a ha b hb => ?_⟩
  rw [List.mem_singleton] at hb; subst hb
  exact h.in_ a ha
 ·intro c hc
  rcases List.mem_append.1 hc with hc | hc
  ·have := h.in_ c hc; omega
  ·rw [List.mem_singleton] at hc; omega
 ·intro t u hu ht
  rw [getElem_snoc]
  by_cases hul : u < bg.length
  ·rw [dif_pos hul]
   by_cases e : t = bg.length
   ·subst e
    rw [e1, hL0 _ (hbgcol u hul), if_neg (by omega)]
   ·rw [hold t _ ht e (hbgcol u hul)]
    by_cases tl : t < bg.length
    ·rw [hsm t tl]; exact h.one t u hul ht
    ·obtain ⟨s, s1, s2, s3⟩ := hfrom t (by omega) ht
     rw [s3, h.one s u hul s2, if_neg (by omega), if_neg (by omega)]
  ·rw [dif_neg hul]
   have hue : u = bg.length := by simp at hu; omega
   by_cases e : t = bg.length
   ·subst e
    rw [e1, hL1, if_pos hue.symm]
   ·rw [hO _ _ (hlt t ht) hcC (hne t ht e), hL1, mul_one, add_self, if_neg (by omega)]
 ·intro t j h1 h2 h3
  simp only [List.length_append, List.length_cons, List.length_nil] at h1
  rcases Nat.lt_or_ge j col with hj | hj
  ·rw [hold t j h2 (by omega) hj]
   obtain ⟨s, s1, s2, s3⟩ := hfrom t (by omega) h2
   rw [s3]; exact h.rest s j s1 s2 hj
  ·obtain rfl : j = col := by omega
   rw [hO _ _ (hlt t h2) hcC (hne t h2 (by omega)), hL1, mul_one, add_self]
 ·intro t ht j hj
  rw [getElem_snoc] at hj
  by_cases tl : t < bg.length
  ·rw [dif_pos tl] at hj
   have := hbgcol t tl
   rw [hold t j (by omega) (by omega) (by omega), hsm t tl]
   exact h.left t tl j hj
  ·rw [dif_neg tl] at hj
   obtain rfl : t = bg.length := by simp at ht; omega
   rw [e1]; exact hL0 j hj
open Classical in
theorem exists_red (r C : Nat) (M0 : Nat → Nat → F8) : ∀ cols, cols ≤ C → ∃ M ord bg, Red r C M0 M ord bg cols
 | 0, _ => ⟨_, _, _, Red.start r C M0⟩
 | col + 1, hc => by
  obtain ⟨M, ord, bg, h⟩ := exists_red r C M0 col (by omega)
  by_cases hz : ∃ p, bg.length ≤ p ∧ p < r ∧ M (ord p) col ≠ 0
  ·obtain ⟨p, h1, h2, h3⟩ := hz
   refine ⟨fun i j => if i = ord p then M (ord p) j / M (ord p) col else M i j + M i col * (M (ord p) j / M (ord p) col), _, _, h.pivot (by omega) h1 h2 rfl h3 (fun j _ => if_pos rfl) (fun i j _ _ hn => ?_)⟩
   simp only [if_neg hn, if_true]
  ·exact ⟨M, ord, bg, h.skip fun t h1 h2 => Classical.byContradiction fun h3 => hz ⟨t, h1, h2, h3⟩⟩
theorem Red.piv (h : Red r C M0 M ord bg cols) (hc : cols ≤ C) (c : Nat) : c ∈ bg ↔ c < cols ∧ Piv r C M0 c := by
 constructor
 ·intro hm
  refine ⟨h.in_ c hm, ?_⟩
  rintro ⟨x, x1, x2, x3⟩
  obtain ⟨u, hu, rfl⟩ := List.getElem_of_mem hm
  have hur : u < r := by have := h.le; omega
  have hk := (h.ker x).2 x3 (ord u) (h.lt u hur)
  unfold app at hk
  rw [sum_at (k := bg[u]) _ (by have := h.in_ _ (List.getElem_mem hu); omega) (fun j _ e => by
   rcases Nat.lt_or_ge j bg[u] with hj | hj
   ·rw [h.left u hu j hj, zero_mul]
   ·rw [x2 j (by omega), mul_zero]), h.one u u hu hur, if_pos rfl, x1, mul_one] at hk
  exact one_ne_zero hk
 ·rintro ⟨hcc, hp⟩
  refine Classical.byContradiction fun hm => hp ?_
  refine ⟨fun j => (if j = c then 1 else 0) + sum bg.length (fun u => if bg.getD u 0 = j ∧ j < c then M (ord u) c else 0), ?_, ?_, ?_⟩
  ·simp only [if_true]
   rw [sum_zero' (fun u _ => if_neg (by omega)), add_zero]
  ·intro j hj
   simp only []
   rw [if_neg (by omega), sum_zero' (fun u _ => if_neg (by omega)), add_zero]
  ·refine (h.ker _).1 fun i hi => ?_
   obtain ⟨t, ht, rfl⟩ := h.sur i hi
   unfold app
   simp only [mul_add]
   rw [sum_add, sum_at (k := c) (fun j => M (ord t) j * if j = c then 1 else 0) (by omega) (fun j _ e => by rw [if_neg e, mul_zero]), if_pos rfl, mul_one]
   simp only [← mul_sum]
   rw [sum_comm]
   have hin : ∀ u (hu : u < bg.length), sum C (fun j => M (ord t) j * if bg.getD u 0 = j ∧ j < c then M (ord u) c else 0) = if t = u ∧ bg[u] < c then M (ord u) c else 0 := by
    intro u hu
    have hg : bg.getD u 0 = bg[u] := by rw [List.getD_eq_getElem?_getD, List.getElem?_eq_getElem hu]; rfl
    rw [hg, sum_at (k := bg[u]) _ (by have := h.in_ _ (List.getElem_mem hu); omega) (fun j _ e => by rw [if_neg (fun h => e h.1.symm), mul_zero]), h.one t u hu ht]
    by_cases e1 : t = u
    ·rw [if_pos e1, one_mul]
     by_cases e2 : bg[u] < c
     ·rw [if_pos ⟨rfl, e2⟩, if_pos ⟨e1, e2⟩]
     ·rw [if_neg (fun h => e2 h.2), if_neg (fun h => e2 h.2)]
    ·rw [if_neg e1, zero_mul, if_neg (fun h => e1 h.1)]
   rw [sum_congr (g := fun u => if t = u ∧ bg.getD u 0 < c then M (ord u) c else 0) (fun u hu => by
    rw [hin u hu]
    have hg : bg.getD u 0 = bg[u] := by rw [List.getD_eq_getElem?_getD, List.getElem?_eq_getElem hu]; rfl
    rw [hg])]
   by_cases htk : t < bg.length
   ·have hg : bg.getD t 0 = bg[t] := by rw [List.getD_eq_getElem?_getD, List.getElem?_eq_getElem htk]; rfl
    rw [sum_at (k := t) _ htk (fun u _ e => if_neg (fun h => e h.1.symm)), hg]
    by_cases e : bg[t] < c
    ·rw [if_pos ⟨rfl, e⟩, add_self]
    ·rw [if_neg (fun h => e h.2), add_zero]
     have hne : bg[t] ≠ c := fun e2 => hm (by rw [← e2]; exact List.getElem_mem htk)
     exact h.left t htk c (by omega)
   ·rw [sum_zero' (fun u hu => if_neg (by omega)), add_zero]
    exact h.rest t c (by omega) ht hcc
end
theorem rising_ext : ∀ {l l' : List Nat}, l.Pairwise (· < ·) → l'.Pairwise (· < ·) → (∀ c, c ∈ l ↔ c ∈ l') → l = l'
 | [], [], _, _, _ => rfl
 | [], b :: l', _, _, h => by have := (h b).2 (by simp); simp at this
 | a :: l, [], _, _, h => by have := (h a).1 (by simp); simp at this
 | a :: l, b :: l', h1, h2, h => by
  rw [List.pairwise_cons] at h1 h2
  have hab : a = b := by
   rcases List.mem_cons.1 ((h a).1 (by simp)) with e | e
   ·exact e
   ·rcases List.mem_cons.1 ((h b).2 (by simp)) with e2 | e2
    ·exact e2.symm
    ·have := h1.1 b e2; have := h2.1 a e; omega
  subst hab
  congr 1
  refine rising_ext h1.2 h2.2 fun c => ⟨fun hc => ?_, fun hc => ?_⟩
  ·rcases List.mem_cons.1 ((h c).1 (List.mem_cons_of_mem _ hc)) with e | e
   ·have := h1.1 c hc; omega
   ·exact e
  ·rcases List.mem_cons.1 ((h c).2 (List.mem_cons_of_mem _ hc)) with e | e
   ·have := h2.1 c hc; omega
   ·exact e
theorem rising_from : ∀ {l : List Nat} {b : Nat}, l.Pairwise (· < ·) → (∀ c, c ∈ l → b ≤ c) → ∀ u (hu : u < l.length), b + u ≤ l[u]
 | [], _, _, _, _, hu => by simp at hu
 | a :: l, b, h, hb, 0, _ => by simpa using hb a (by simp)
 | a :: l, b, h, hb, u + 1, hu => by
  rw [List.pairwise_cons] at h
  have := rising_from (b := b + 1) h.2 (fun c hc => by have := h.1 c hc; have := hb a (by simp); omega) u (by simpa using hu)
  simp only [List.getElem_cons_succ]; omega
theorem rising_up {l : List Nat} (h : l.Pairwise (· < ·)) {u v : Nat} (hv : v < l.length) (huv : u ≤ v) : l[u] + (v - u) ≤ l[v] := by
 induction v with
 | zero =>
  obtain rfl : u = 0 := by omega
  simp
 | succ v ih =>
  by_cases e : u = v + 1
  ·subst e; simp
  ·have := ih (by omega) (by omega)
   have := List.pairwise_iff_getElem.1 h v (v + 1) (by omega) hv (by omega)
   omega
theorem rising_full {l : List Nat} {n : Nat} (h : l.Pairwise (· < ·)) (hn : ∀ c, c ∈ l → c < n) (hl : l.length = n) (u : Nat) (hu : u < l.length) : l[u] = u := by
 have h1 := rising_from (b := 0) h (fun _ _ => Nat.zero_le _) u hu
 have h2 := rising_up h (u := u) (v := l.length - 1) (by omega) (by omega)
 have h3 := hn _ (List.getElem_mem (show l.length - 1 < l.length by omega))
 omega
def RankIs (r C : Nat) (M : Nat → Nat → F8) (cols k : Nat) : Prop := ∃ bg : List Nat, bg.length = k ∧ bg.Pairwise (· < ·) ∧ ∀ c, c ∈ bg ↔ c < cols ∧ Piv r C M c
section
variable {r C n q : Nat} {M0 M a b : Nat → Nat → F8} {ord : Nat → Nat} {bg : List Nat} {cols k k' : Nat}
theorem Red.rank (h : Red r C M0 M ord bg cols) (hc : cols ≤ C) : RankIs r C M0 cols bg.length := ⟨bg, rfl, h.up, h.piv hc⟩
theorem RankIs.le_cols (h : RankIs r C M cols k) : k ≤ cols := by
 obtain ⟨bg, rfl, h1, h2⟩ := h
 rcases Nat.eq_zero_or_pos bg.length with h0 | h0
 ·omega
 ·have h3 := rising_from (b := 0) h1 (fun _ _ => Nat.zero_le _) (bg.length - 1) (by omega)
  have h4 := ((h2 _).1 (List.getElem_mem (show bg.length - 1 < bg.length by omega))).1
  omega
theorem RankIs.exists (r : Nat) {C : Nat} (M : Nat → Nat → F8) {cols : Nat} (hc : cols ≤ C) : ∃ k, k ≤ r ∧ RankIs r C M cols k := by
 obtain ⟨M', ord, bg, h⟩ := exists_red r C M cols hc
 exact ⟨_, h.le, h.rank hc⟩
def KerT (r n : Nat) (a : Nat → Nat → F8) : Prop := ∀ x, Ker r n a x → ∀ j, j < n → x j = 0
theorem app_smul (C : Nat) (M : Nat → Nat → F8) (x : Nat → F8) (c : F8) (i : Nat) : app C M (fun j => c * x j) i = c * app C M x i := by
 unfold app; rw [← mul_sum]; exact sum_congr fun j _ => mul_left_comm _ _ _
theorem app_add (C : Nat) (M : Nat → Nat → F8) (x y : Nat → F8) (i : Nat) : app C M (fun j => x j + y j) i = app C M x i + app C M y i := by
 unfold app; rw [← sum_add]; exact sum_congr fun j _ => mul_add _ _ _
theorem app_cut {C : Nat} {M : Nat → Nat → F8} {x y : Nat → F8} (h : ∀ j, j < C → x j = y j) (i : Nat) : app C M x i = app C M y i := sum_congr fun j hj => by rw [h j hj]
theorem last_of (x : Nat → F8) : ∀ n, (∃ j, j < n ∧ x j ≠ 0) → ∃ c, c < n ∧ x c ≠ 0 ∧ ∀ j, c < j → j < n → x j = 0
 | 0, h => by obtain ⟨j, hj, _⟩ := h; omega
 | n + 1, h => by
  by_cases e : x n = 0
  ·obtain ⟨j, hj, hx⟩ := h
   have hjn : j ≠ n := fun e2 => hx (by rw [e2, e])
   obtain ⟨c, h1, h2, h3⟩ := last_of x n ⟨j, by omega, hx⟩
   refine ⟨c, by omega, h2, fun i hi1 hi2 => ?_⟩
   by_cases e3 : i = n
   ·rw [e3, e]
   ·exact h3 i hi1 (by omega)
  ·exact ⟨n, by omega, e, fun i h1 h2 => by omega⟩
theorem kerT_iff_piv : KerT r n a ↔ ∀ c, c < n → Piv r n a c := by
 constructor
 ·rintro h c hc ⟨x, h1, _, h3⟩
  have := h x h3 c hc
  rw [h1] at this; exact one_ne_zero this
 ·intro h x hx
  refine Classical.byContradiction fun hn => ?_
  have : ∃ j, j < n ∧ x j ≠ 0 := Classical.byContradiction fun h2 => hn fun j hj => Classical.byContradiction fun h3 => h2 ⟨j, hj, h3⟩
  obtain ⟨c, hc, h1, h2⟩ := last_of x n this
  refine h c hc ⟨fun j => if j < n then inv (x c) * x j else 0, ?_, ?_, ?_⟩
  ·simp only [if_pos hc]; exact inv_mul h1
  ·intro j hj
   by_cases e : j < n
   ·simp only [if_pos e]; rw [h2 j hj e, mul_zero]
   ·simp only [if_neg e]
  ·intro i hi
   rw [app_cut (y := fun j => inv (x c) * x j) (fun j hj => if_pos hj), app_smul, hx i hi, mul_zero]
theorem mem_range_of_full {n : Nat} (h1 : bg.Pairwise (· < ·)) (h2 : ∀ c, c ∈ bg → c < n) : bg.length = n ↔ ∀ c, c < n → c ∈ bg := by
 constructor
 ·intro hl c hc
  have := rising_full h1 h2 hl c (by omega)
  rw [← this]; exact List.getElem_mem _
 ·intro h
  have e : bg = List.range n := rising_ext h1 List.pairwise_lt_range (fun c => by rw [List.mem_range]; exact ⟨h2 c, h c⟩)
  rw [e, List.length_range]
theorem RankIs.full (h : RankIs r n a n k) : k = n ↔ KerT r n a := by
 obtain ⟨bg, rfl, h1, h2⟩ := h
 rw [mem_range_of_full h1 (fun c hc => ((h2 c).1 hc).1), kerT_iff_piv]
 exact ⟨fun h c hc => ((h2 c).1 (h c hc)).2, fun h c hc => (h2 c).2 ⟨hc, h c hc⟩⟩
def bes (n : Nat) (a b : Nat → Nat → F8) (i j : Nat) : F8 := if j < n then a i j else b i (j - n)
theorem app_bes (n q : Nat) (a b : Nat → Nat → F8) (x : Nat → F8) (i : Nat) : app (n + q) (bes n a b) x i = app n a x i + sum q (fun k => b i k * x (n + k)) := by
 unfold app
 rw [sum_split]
 congr 1
 ·exact sum_congr fun j hj => by unfold bes; rw [if_pos hj]
 ·exact sum_congr fun k _ => by unfold bes; rw [if_neg (by omega), show n + k - n = k by omega]
theorem piv_bes {c : Nat} (hc : c < n) : Piv r (n + q) (bes n a b) c ↔ Piv r n a c := by
 unfold Piv
 have key : ∀ x : Nat → F8, (∀ j, c < j → x j = 0) → (Ker r (n + q) (bes n a b) x ↔ Ker r n a x) := fun x hx => by
  have : ∀ i, app (n + q) (bes n a b) x i = app n a x i := fun i => by
   rw [app_bes, sum_zero' (fun k _ => by rw [hx (n + k) (by omega), mul_zero]), add_zero]
  exact ⟨fun h i hi => by rw [← this]; exact h i hi, fun h i hi => by rw [this]; exact h i hi⟩
 refine not_congr ⟨?_, ?_⟩ <;> rintro ⟨x, h1, h2, h3⟩
 ·exact ⟨x, h1, h2, (key x h2).1 h3⟩
 ·exact ⟨x, h1, h2, (key x h2).2 h3⟩
theorem RankIs.bes (h : RankIs r (n + q) (bes n a b) n k) : RankIs r n a n k := by
 obtain ⟨bg, h1, h2, h3⟩ := h
 exact ⟨bg, h1, h2, fun c => (h3 c).trans (and_congr_right fun hc => piv_bes hc)⟩
structure Sol (r n q : Nat) (a b X : Nat → Nat → F8) : Prop where
 ker : KerT r n a
 eq : ∀ i k, i < r → k < q → mulF n a X i k = b i k
theorem Sol.only {X Y : Nat → Nat → F8} (h : Sol r n q a b X) (h' : ∀ i k, i < r → k < q → mulF n a Y i k = b i k) {j k : Nat} (hj : j < n) (hk : k < q) : X j k = Y j k := by
 refine add_eq_zero.1 (h.ker (fun j => X j k + Y j k) (fun i hi => ?_) j hj)
 rw [app_add]
 have e1 : app n a (fun j => X j k) i = b i k := h.eq i k hi hk
 have e2 : app n a (fun j => Y j k) i = b i k := h' i k hi hk
 rw [e1, e2, add_self]
def vext (n k : Nat) (x : Nat → F8) (j : Nat) : F8 := if j < n then x j else if j = n + k then 1 else 0
theorem vext_lo {n k j : Nat} {x : Nat → F8} (h : j < n) : vext n k x j = x j := if_pos h
theorem vext_at (n k : Nat) (x : Nat → F8) : vext n k x (n + k) = 1 := by unfold vext; rw [if_neg (by omega), if_pos rfl]
theorem vext_ne {n k k' : Nat} {x : Nat → F8} (h : k' ≠ k) : vext n k x (n + k') = 0 := by unfold vext; rw [if_neg (by omega), if_neg (by omega)]
theorem app_vext {n q k : Nat} (M : Nat → Nat → F8) (x : Nat → F8) (i : Nat) (hk : k < q) : app (n + q) M (vext n k x) i = app n M x i + M i (n + k) := by
 unfold app
 rw [sum_split, sum_at (n := q) (k := k) _ hk (fun k' _ e => by rw [vext_ne e, mul_zero]), vext_at, mul_one]
 congr 1
 exact sum_congr fun j hj => by rw [vext_lo hj]
theorem app_bes_vext {n q k : Nat} (a b : Nat → Nat → F8) (x : Nat → F8) (i : Nat) (hk : k < q) : app (n + q) (Mat.bes n a b) (vext n k x) i = app n a x i + b i k := by
 rw [app_vext _ _ _ hk]
 have e : Mat.bes n a b i (n + k) = b i k := by unfold Mat.bes; rw [if_neg (by omega), show n + k - n = k by omega]
 rw [e]
 congr 1
 exact app_congr x fun j hj => by unfold Mat.bes; rw [if_pos hj]
theorem Red.sol (h : Red r (n + q) (Mat.bes n a b) M ord bg n) (hl : bg.length = n) (hz : ∀ t k, n ≤ t → t < r → k < q → M (ord t) (n + k) = 0) : Sol r n q a b fun j k => M (ord j) (n + k) := by
 have hker := (h.rank (Nat.le_add_right n q)).bes.full.1 hl
 refine ⟨hker, fun i k hi hk => ?_⟩
 have hx := (h.ker (vext n k fun j => M (ord j) (n + k))).1 (fun i hi => by
  obtain ⟨t, ht, rfl⟩ := h.sur i hi
  rw [app_vext _ _ _ hk]
  by_cases htn : t < n
  ·have e1 : app n M (fun j => M (ord j) (n + k)) (ord t) = M (ord t) (n + k) := by
    unfold app
    rw [sum_at (k := t) _ htn (fun j hj e => by
     have := h.one t j (by omega) ht
     rw [rising_full h.up h.in_ hl j (by omega), if_neg (fun e2 => e e2.symm)] at this
     rw [this, zero_mul])]
    have := h.one t t (by omega) ht
    rw [rising_full h.up h.in_ hl t (by omega), if_pos rfl] at this
    rw [this, one_mul]
   rw [e1, add_self]
  ·rw [hz t k (by omega) ht hk, add_zero]
   exact sum_zero' fun j hj => by rw [h.rest t j (by omega) ht hj, zero_mul]) i hi
 rw [app_bes_vext _ _ _ _ hk] at hx
 exact add_eq_zero.1 hx
theorem Red.sol_of {X : Nat → Nat → F8} (h : Red r (n + q) (Mat.bes n a b) M ord bg n) (hs : Sol r n q a b X) : bg.length = n ∧ ∀ t k, n ≤ t → t < r → k < q → M (ord t) (n + k) = 0 := by
 have hl := (h.rank (Nat.le_add_right n q)).bes.full.2 hs.ker
 refine ⟨hl, fun t k h1 h2 hk => ?_⟩
 have hx := (h.ker (vext n k fun j => X j k)).2 (fun i hi => by
  rw [app_bes_vext _ _ _ _ hk]
  exact add_eq_zero.2 (hs.eq i k hi hk)) (ord t) (h.lt t h2)
 rw [app_vext _ _ _ hk] at hx
 have e1 : app n M (fun j => X j k) (ord t) = 0 := sum_zero' fun j hj => by rw [h.rest t j (by omega) h2 hj, zero_mul]
 rwa [e1, zero_add] at hx
theorem sol_wide {X : Nat → Nat → F8} (hs : Sol r n q a b X) : n ≤ r := by
 obtain ⟨k, h1, h2⟩ := RankIs.exists r a (Nat.le_refl n)
 have := h2.full.2 hs.ker
 omega
end
end Go.Proofs.YtofihklinkpbiaaGreat.Mat
