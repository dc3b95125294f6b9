/- Of the program and its document, joined: WcFault. -/
import Derived.Test.YtiapokojlkdddaaGreatPk24
import Derived.Test.YtiapokojlkdddaaGreatPk18
import Derived.Test.YtiapokojlkdddaaGreatPk19
/- What the program's areIndices, fault, at do. -/
namespace Go.Proofs.YtiapokojlkdddaaGreat.Wl
open Go.RowKit Go.Shelf F8 Poly GF Rd
attribute [local go_sem] Oper.semAt_some

/-- What is asked of sorted numbers, one after the other. -/
def Nxt (n : Nat) (s : List Int) (k : Nat) : Prop := ∀ j, j < k → (0 ≤ s.getD j 0 ∧ s.getD j 0 < (n : Int)) ∧ (0 < j → s.getD j 0 ≠ s.getD (j - 1) 0)
theorem nxt_succ {n : Nat} {s : List Int} {k : Nat} (h : Nxt n s k) : Nxt n s (k + 1) ↔ (0 ≤ s.getD k 0 ∧ s.getD k 0 < (n : Int)) ∧ (0 < k → s.getD k 0 ≠ s.getD (k - 1) 0) := by
  refine ⟨fun h2 => h2 k (by omega), fun h2 j hj => ?_⟩
  rcases Nat.lt_or_ge j k with h3 | h3
  · exact h j h3
  · obtain rfl : j = k := by omega
    exact h2
theorem nxt_ok (n : Nat) (pl : List Int) : Nxt n (srt pl) pl.length ↔ OkP n pl := by
  have hp := srt_perm pl
  have hs := srt_sorted pl
  have hl := srt_length pl
  obtain ⟨s, hse⟩ : ∃ s, srt pl = s := ⟨_, rfl⟩
  rw [hse] at hp hs hl ⊢
  have hg : ∀ j (h : j < s.length), s.getD j 0 = s[j] := fun j h => by simp [List.getD_eq_getElem?_getD, h]
  rw [← hl]
  constructor
  · intro h
    refine ⟨fun i hi => ?_, hp.nodup_iff.1 ?_⟩
    · obtain ⟨j, hj, rfl⟩ := List.getElem_of_mem (hp.mem_iff.2 hi)
      have := (h j hj).1
      rwa [hg j hj] at this
    · -- each is less than the next one
      have hlt : ∀ i j (hi : i < s.length) (hj : j < s.length), i < j → s[i] < s[j] := by
        intro i j
        induction j with
        | zero => intro _ _ h; omega
        | succ j ih =>
          intro hi hj hij
          have h1 := (h (j + 1) hj).2 (by omega)
          rw [hg _ hj, Nat.add_sub_cancel, hg j (by omega)] at h1
          have h2 := List.pairwise_iff_getElem.1 hs j (j + 1) (by omega) hj (by omega)
          rcases Nat.lt_or_ge i j with h3 | h3
          · have := ih hi (by omega) h3
            omega
          · obtain rfl : i = j := by omega
            omega
      exact List.nodup_iff_pairwise_ne.2 (List.pairwise_iff_getElem.2 fun i j hi hj hij => by have := hlt i j hi hj hij; omega)
  · intro h j hj
    have hnd : s.Nodup := hp.nodup_iff.2 h.2
    refine ⟨?_, fun h0 => ?_⟩
    · rw [hg j hj]
      exact h.1 _ (hp.mem_iff.1 (List.getElem_mem hj))
    · rw [hg j hj, hg (j - 1) (by omega)]
      intro e
      have := (List.getElem_inj hnd).1 e
      omega
theorem nxt_mono {n : Nat} {s : List Int} {k m : Nat} (h : Nxt n s m) (hk : k ≤ m) : Nxt n s k := fun j hj => h j (by omega)
set_option maxRecDepth 100000 in
set_option maxHeartbeats 4000000 in
theorem areIndices_calls (P : Option Addr) (pl : List Int) (m d n : Nat) (w : World) (hl : pl.length = m) (hr : Row w P (zs pl)) (hm : m ≤ 1000000) :
    Calls Tryz.prog 90 #[.slice P m d, .int .i64 n] w fun e w' => e = .returned (.bool (decide (OkP n pl))) ∧ Below w.heap.size w w' := by
  have hv : Vls (w.heap.size + 1) w.heap.size P m d pl (w.alloc (.cells #[.slice P m d] 23)) :=
    ⟨Block.new _ _ _, hr.alloc _, by omega, fun hne a ha => by
      obtain ⟨u, us, hu⟩ : ∃ u us, zs pl = u :: us := by
        cases hz : zs pl with
        | nil => exact absurd hz hne
        | cons u us => exact ⟨u, us, rfl⟩
      obtain ⟨b, off, hb, hc⟩ := hr 0 u (by rw [hu]; rfl)
      have := cell_lt hc
      rw [ha] at hb
      injection hb with hb
      subst hb
      simp only at this ⊢
      omega⟩
  have hv2 := sorted_calls w.heap.size P m d pl hl hm (w.alloc (.cells #[.slice P m d] 23)) (by simpa using hv)
  have HV := Lib.hid hv2
  have HN := Lib.hid (nxt_ok n pl)
  rw [hl] at HN
  have HSL : Hid ((srt pl).length = m) := Lib.hid ((srt_length pl).trans hl)
  obtain ⟨s, hs⟩ : ∃ s, srt pl = s := ⟨_, rfl⟩
  rw [hs] at HN HSL HV
  clear hv hv2 hs hr hl
  go_enter Tryz.func90, Tryz.ntmps90
  go_wp2_with (first
    | (go_at_call 143; refine (values_calls P m d w).mono ?_; rintro e w1 ⟨rfl, rfl⟩)
    | (go_at_call 142; (with_reducible refine HV.out.mono ?_); rintro e w2 ⟨A, c, rfl, hc, hO, hB⟩; have HO := Lib.hid hO; have HB : Hid (Below w.heap.size w w2) := Lib.hid (((Below.refl _ w).alloc (Nat.le_refl _) _).trans (hB.mono (by simp))); have HR : Hid (Row w2 A (zs s)) := Lib.hid (own_row hO); clear hO hB HV))
  go_loopw [13] (fun i wr => ∃ k : Nat, k ≤ m ∧ i = .int .i64 k ∧ Hid (Nxt n s k) ∧ Hid (Below w2.heap.size w2 wr)) (fun i _ => m - (intOf i).toNat)
  case atStart => exact ⟨0, by omega, rfl, Lib.hid (fun j hj => by omega), Lib.hid (Below.refl _ _)⟩
  case round =>
    obtain ⟨k, hk, rfl, HX, HW⟩ := hrel
    have HWB : Hid (Below w.heap.size w wr) := Lib.hid (HB.out.trans (HW.out.mono HB.out.size))
    by_cases hlt : k < m
    · have hks : k < s.length := by rw [HSL.out]; exact hlt
      obtain ⟨b, off, rfl, hcell⟩ := zs_at (HR.out.below HW.out) (k := k) hks
      have hsucc := nxt_succ HX.out
      have hget : s.getD k 0 = s[k] := by simp [List.getD_eq_getElem?_getD, hks]
      have hout : ¬ Nxt n s (k + 1) → decide (OkP n pl) = false := fun h => decide_eq_false fun h2 => h (nxt_mono (HN.out.2 h2) (by omega))
      have hprev : 0 < k → wr.cell? ⟨b, off + (k - 1), none⟩ = some (.int .i64 (s.getD (k - 1) 0)) := fun h0 => by
        have h1 : k - 1 < s.length := by omega
        obtain ⟨b', off', he, hc'⟩ := zs_at (HR.out.below HW.out) (k := k - 1) h1
        injection he with he
        injection he with e1 e2
        subst e1 e2
        rw [hc']
        simp [List.getD_eq_getElem?_getD, h1]
      rw [hget] at hsucc
      obtain ⟨z, hz⟩ : ∃ z, s[k] = z := ⟨_, rfl⟩
      obtain ⟨y, hy⟩ : ∃ y, s.getD (k - 1) 0 = y := ⟨_, rfl⟩
      rw [hz, hy] at hsucc
      rw [hz] at hcell
      rw [hy] at hprev
      clear hget hz hy
      by_cases h0 : z < 0
      · have HNO : Hid (decide (OkP n pl) = false) := Lib.hid (hout (by rw [hsucc]; rintro ⟨⟨h, _⟩, _⟩; omega))
        clear hsucc hout hprev
        go_wp2
        go_ret
        exact ⟨by rw [HNO.out]; rfl, HWB.out⟩
      by_cases h1 : (n : Int) ≤ z
      · have HNO : Hid (decide (OkP n pl) = false) := Lib.hid (hout (by rw [hsucc]; rintro ⟨⟨_, h⟩, _⟩; omega))
        clear hsucc hout hprev
        go_wp2
        go_ret
        exact ⟨by rw [HNO.out]; rfl, HWB.out⟩
      by_cases h2 : k = 0
      · have HX2 : Hid (Nxt n s (k + 1)) := Lib.hid (hsucc.2 ⟨⟨by omega, by omega⟩, fun h => by omega⟩)
        clear hsucc hout hprev
        subst h2
        rw [Nat.add_zero] at hcell
        go_wp2
        go_roundw
        case rel => exact ⟨1, by omega, by go_num, HX2, HW⟩
        case measure => simp [intOf]; omega
      · obtain ⟨q, rfl⟩ : ∃ q, k = q + 1 := ⟨k - 1, by omega⟩
        have hpr := hprev (by omega)
        rw [Nat.add_sub_cancel] at hpr
        by_cases h3 : z = y
        · have HNO : Hid (decide (OkP n pl) = false) := Lib.hid (hout (by rw [hsucc]; rintro ⟨_, h⟩; exact h (by omega) h3))
          have hbz : ((z : Int) == y) = true := by simp [h3]
          clear hsucc hout hprev h3
          go_wp2
          go_ret
          exact ⟨by rw [HNO.out]; rfl, HWB.out⟩
        · have HX2 : Hid (Nxt n s (q + 1 + 1)) := Lib.hid (hsucc.2 ⟨⟨by omega, by omega⟩, fun _ => h3⟩)
          have hbz : ((z : Int) == y) = false := by simp [h3]
          clear hsucc hout hprev h3
          go_wp2
          go_roundw
          case rel => exact ⟨q + 1 + 1, by omega, by go_num, HX2, HW⟩
          case measure => simp [intOf]; omega
    · obtain rfl : k = m := by omega
      have HY : Hid (decide (OkP n pl) = true) := Lib.hid (decide_eq_true (HN.out.1 HX.out))
      go_wp2
      go_ret
      exact ⟨by rw [HY.out]; rfl, HWB.out⟩
set_option maxRecDepth 100000 in
set_option maxHeartbeats 2000000 in
theorem wat_calls (A : Option Addr) (p : List F8) (n c : Nat) (B : Option Addr) (pl : List Int) (m d : Nat) (w : World) (hn : p.length = n) (hb : Bytes w A (bs p)) (hn2 : n ≤ 1000000) (hl : pl.length = m) (hr : Row w B (zs pl)) (hm : m ≤ 1000000) (hok : OkP n pl) :
    Calls Tryz.prog 46 #[.slice A n c, .slice B m d] w (ROwn w (ptsAt p pl) m) := by
  have HB := Lib.hid hb
  have HR := Lib.hid hr
  have HM := Lib.hid hl
  have HN := Lib.hid hn
  have HK := Lib.hid hok
  obtain ⟨w1, hmk, hO1, hB1⟩ := make_room w m (by omega)
  have HO1 := Lib.hid hO1
  clear hb hl hr hok hn hO1
  go_enter Tryz.func46, Tryz.ntmps46
  go_wp2
  go_loopw [5, 13] (fun out i wr => ∃ k : Nat, k ≤ m ∧ i = .int .i64 k ∧ Hid (Own wr w.heap.size 5 out (bv (bs (ptsAt p (pl.take k))))) ∧ Below w.heap.size w wr) (fun _ i _ => m - (intOf i).toNat)
  case atStart => exact ⟨0, by omega, rfl, HO1, hB1⟩
  case round =>
    obtain ⟨k, hk, rfl, HO, HW⟩ := hrel
    have hsz := HW.size
    by_cases hlt : k < m
    · have hkp : k < pl.length := by rw [HM.out]; exact hlt
      obtain ⟨b, off, rfl, hcell⟩ := zs_at (HR.out.below HW) (k := k) hkp
      have HT := Lib.hid (ptsAt_snoc (p := p) hkp)
      have hin := HK.out.1 pl[k] (List.getElem_mem hkp)
      have HL : Hid ((bv (bs (ptsAt p (pl.take k)))).length = k) := Lib.hid (by rw [bvs_length, ptsAt_length, List.length_take]; omega)
      obtain ⟨z, hz⟩ : ∃ z, pl[k] = z := ⟨_, rfl⟩
      rw [hz] at hcell hin HT
      obtain ⟨x, rfl⟩ : ∃ x : Nat, z = (x : Int) := ⟨z.toNat, by omega⟩
      obtain ⟨y, hy⟩ : ∃ y, coef p x = y := ⟨_, rfl⟩
      have hxn : (x : Int) < (n : Int) := hin.2
      have hxp : x < p.length := by rw [HN.out]; omega
      obtain ⟨b2, o2, rfl⟩ := where_ HB.out (by omega)
      have hc2 := cellAt (HB.out.below HW) x hxp
      rw [Int.toNat_natCast] at HT
      rw [hy] at hc2 HT
      clear hz hy hin hxp
      go_wp2_with (at_builtin; refine wpList_app _ rfl _ _ _ rfl w.heap.size 5 _ 1 Tryz.underlying22 info_u8 rfl (by omega) _ _ rfl (HO.out.alloc _) (some ⟨wr.heap.size, 0, none⟩) 1 1 (bv [y.n]) rfl rfl (Row.new _ _ _ _) (bv_one _) (by rw [HL.out]; omega) (by simp; omega) ?_; rintro v2 w2 hown hg3 -)
      rw [← HT.out] at hown
      have HO2 := Lib.hid hown
      have hB2 := (HW.alloc hsz _).trans ((HO.out.alloc _).grew (by simp; omega) hg3)
      clear hown hg3
      go_roundw
      case rel => exact ⟨k + 1, by omega, by go_num, HO2, hB2⟩
      case measure => simp [intOf]; omega
    · obtain rfl : k = m := by omega
      have ht : pl.take k = pl := List.take_of_length_le (by rw [HM.out]; exact Nat.le_refl _)
      rw [ht] at HO
      obtain ⟨A1, c1, rfl, hc1⟩ := Own.shape HO.out
      have HPL : Hid ((ptsAt p pl).length = k) := Lib.hid (by rw [ptsAt_length, HM.out])
      rw [HPL.out] at HO hc1 ⊢
      go_wp2
      go_ret
      exact ⟨A1, c1, rfl, hc1, HO.out, HW⟩
/-- What fault tells of the arguments. -/
def Flt (xs : List F8) (k : Nat) (pl : List Int) (ys : List F8) (t z : Int) : Prop :=
  (z = 2 ∧ ¬ ((pl.length = ys.length ∧ OkP xs.length pl) ∧ 0 ≤ t)) ∨ (z = 70 ∧ ((pl.length = ys.length ∧ OkP xs.length pl) ∧ 0 ≤ t) ∧ (pl.length : Int) < k + 2 * t) ∨ (z = 0 ∧ ((pl.length = ys.length ∧ OkP xs.length pl) ∧ 0 ≤ t) ∧ k + 2 * t ≤ (pl.length : Int))
/-- What fault answers. -/
def RFlt (xs : List F8) (k : Nat) (pl : List Int) (ys : List F8) (t : Int) (w : World) (e : Ending) (w' : World) : Prop := ∃ z, e = .returned (.int .i64 z) ∧ Flt xs k pl ys t z ∧ Below w.heap.size w w'
set_option maxRecDepth 100000 in
set_option maxHeartbeats 4000000 in
theorem fault_calls {w : World} {b g : Nat} {A : Option Addr} {xs : List F8} {n c k : Nat} (h : Cd w b g A xs n c k) (P : Option Addr) (pl : List Int) (m d : Nat) (hl : pl.length = m) (hr : Row w P (zs pl)) (hm : m ≤ 1000) (B : Option Addr) (ys : List F8) (o e : Nat) (ho : ys.length = o) (ho2 : o ≤ 1000) (t : Int) :
    Calls Tryz.prog 45 #[.pointer (some ⟨b, 0, none⟩), .slice P m d, .slice B o e, .int .i64 t] w (RFlt xs k pl ys t w) := by
  have HC := Lib.hid h
  have HR := Lib.hid hr
  have hk1 := h.k1
  have hk0 : (((k : Int)) == 0) = false := by simp; omega
  have hkn : k ≤ 256 := Nat.le_trans h.kn h.n256
  have HK := Lib.hid (k_calls h)
  have HL := Lib.hid hl
  have hxl := h.len
  by_cases hmo : m = o
  · have e1 : ((m : Int) != (o : Int)) = false := by simp; omega
    by_cases hok : OkP n pl
    · have HD : Hid (decide (OkP n pl) = true) := Lib.hid (decide_eq_true hok)
      by_cases ht : t < 0
      · have HX : Hid (Flt xs k pl ys t 2) := Lib.hid (.inl ⟨rfl, fun h => by have := h.2; omega⟩)
        clear h hr hok hl ho hmo hxl
        go_enter Tryz.func45, Tryz.ntmps45
        go_wp2_with (first
      | (go_at_call 51; (with_reducible refine HK.out.mono ?_); rintro e w1 ⟨rfl, rfl⟩)
      | (go_at_call 47; (with_reducible refine (points_calls HC.out).mono ?_); rintro e w2 ⟨A2, c2, rfl, hc2, hO2, hB2⟩; clear hc2 hO2; have HA := Lib.hid (areIndices_calls P pl m d n w2 HL.out (HR.out.below hB2) (by omega)); rw [HD.out] at HA)
      | (go_at_call 90; (with_reducible refine HA.out.mono ?_); rintro e w3 ⟨rfl, hB3⟩))
        go_ret
        exact ⟨2, rfl, HX.out, hB2.trans (hB3.mono hB2.size)⟩
      · have HA0 : (pl.length = ys.length ∧ OkP xs.length pl) ∧ 0 ≤ t := ⟨⟨by omega, by rw [hxl]; exact hok⟩, by omega⟩
        have hlen : (pl.length : Int) = o := by omega
        by_cases hkt : (o : Int) < k + 2 * t
        · have HX : Hid (Flt xs k pl ys t 70) := Lib.hid (.inr (.inl ⟨rfl, HA0, by omega⟩))
          clear h hr hok hl ho hmo hxl HA0 hlen
          go_enter Tryz.func45, Tryz.ntmps45
          go_wp2_with (first
      | (go_at_call 51; (with_reducible refine HK.out.mono ?_); rintro e w1 ⟨rfl, rfl⟩)
      | (go_at_call 47; (with_reducible refine (points_calls HC.out).mono ?_); rintro e w2 ⟨A2, c2, rfl, hc2, hO2, hB2⟩; clear hc2 hO2; have HA := Lib.hid (areIndices_calls P pl m d n w2 HL.out (HR.out.below hB2) (by omega)); rw [HD.out] at HA)
      | (go_at_call 90; (with_reducible refine HA.out.mono ?_); rintro e w3 ⟨rfl, hB3⟩))
          all_goals
            first
            | (exfalso; omega)
            | (go_ret; exact ⟨70, rfl, HX.out, hB2.trans (hB3.mono hB2.size)⟩)
        · have HX : Hid (Flt xs k pl ys t 0) := Lib.hid (.inr (.inr ⟨rfl, HA0, by omega⟩))
          clear h hr hok hl ho hmo hxl HA0 hlen
          go_enter Tryz.func45, Tryz.ntmps45
          go_wp2_with (first
      | (go_at_call 51; (with_reducible refine HK.out.mono ?_); rintro e w1 ⟨rfl, rfl⟩)
      | (go_at_call 47; (with_reducible refine (points_calls HC.out).mono ?_); rintro e w2 ⟨A2, c2, rfl, hc2, hO2, hB2⟩; clear hc2 hO2; have HA := Lib.hid (areIndices_calls P pl m d n w2 HL.out (HR.out.below hB2) (by omega)); rw [HD.out] at HA)
      | (go_at_call 90; (with_reducible refine HA.out.mono ?_); rintro e w3 ⟨rfl, hB3⟩))
          all_goals
            first
            | (exfalso; omega)
            | (go_ret; exact ⟨0, rfl, HX.out, hB2.trans (hB3.mono hB2.size)⟩)
    · have HD : Hid (decide (OkP n pl) = false) := Lib.hid (decide_eq_false hok)
      have HX : Hid (Flt xs k pl ys t 2) := Lib.hid (.inl ⟨rfl, fun h => hok (by have := h.1.2; rwa [hxl] at this)⟩)
      clear h hr hok hl ho hmo hxl
      go_enter Tryz.func45, Tryz.ntmps45
      go_wp2_with (first
      | (go_at_call 51; (with_reducible refine HK.out.mono ?_); rintro e w1 ⟨rfl, rfl⟩)
      | (go_at_call 47; (with_reducible refine (points_calls HC.out).mono ?_); rintro e w2 ⟨A2, c2, rfl, hc2, hO2, hB2⟩; clear hc2 hO2; have HA := Lib.hid (areIndices_calls P pl m d n w2 HL.out (HR.out.below hB2) (by omega)); rw [HD.out] at HA)
      | (go_at_call 90; (with_reducible refine HA.out.mono ?_); rintro e w3 ⟨rfl, hB3⟩))
      go_ret
      exact ⟨2, rfl, HX.out, hB2.trans (hB3.mono hB2.size)⟩
  · have e1 : ((m : Int) != (o : Int)) = true := by simp; omega
    have HX : Hid (Flt xs k pl ys t 2) := Lib.hid (.inl ⟨rfl, fun h => hmo (by have := h.1.1; omega)⟩)
    clear h hr hl ho hmo hxl
    go_enter Tryz.func45, Tryz.ntmps45
    go_wp2_with (go_at_call 51; (with_reducible refine HK.out.mono ?_); rintro e w1 ⟨rfl, rfl⟩)
    go_ret
    exact ⟨2, rfl, HX.out, Below.refl _ _⟩
end Go.Proofs.YtiapokojlkdddaaGreat.Wl
