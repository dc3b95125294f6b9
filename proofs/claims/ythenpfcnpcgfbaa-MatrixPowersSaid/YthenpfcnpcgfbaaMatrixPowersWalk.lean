/- The walk of MatrixPowers. -/
import Derived.Test.YthenpfcnpcgfbaaMatWorks
import Derived.Deep.RegionWith
import Derived.BigQuiet
namespace Go.Proofs.Ythenpfcnpcgfbaa.matrixPowers
open Go.RowKit F8 GF Poly Mat
attribute [local go_sem] Oper.semAt_some

/-- Is it unlike the first j? -/
def fr (xs : List F8) (i j : Nat) : Bool := decide (∀ l, l < j → coef xs l ≠ coef xs i)
theorem fr_zero (xs : List F8) (i : Nat) : fr xs i 0 = true := by unfold fr; simp
theorem fr_same {xs : List F8} {i j : Nat} (h : coef xs j = coef xs i) : fr xs i (j + 1) = false := by
  unfold fr; rw [decide_eq_false_iff_not]
  exact fun hh => hh j (by omega) h
theorem fr_ne {xs : List F8} {i j : Nat} (h : coef xs j ≠ coef xs i) : fr xs i (j + 1) = fr xs i j := by
  unfold fr; rw [decide_eq_decide]
  constructor
  · intro hh l hl; exact hh l (by omega)
  · intro hh l hl
    by_cases e : l = j
    · rw [e]; exact h
    · exact hh l (by omega)
theorem fr_false {xs : List F8} {i j : Nat} (h : fr xs i j = false) : fr xs i (j + 1) = false := by
  unfold fr at h ⊢; rw [decide_eq_false_iff_not] at h ⊢
  exact fun hh => h fun l hl => hh l (by omega)
theorem dis_fresh {xs : List F8} {i : Nat} (h : fr xs i i = true) : (dis xs (i + 1)).length = (dis xs i).length + 1 := by
  have : Fresh xs i := of_decide_eq_true h
  simp only [dis]; rw [if_pos this]; simp
theorem dis_stale {xs : List F8} {i : Nat} (h : fr xs i i = false) : (dis xs (i + 1)).length = (dis xs i).length := by
  have : ¬ Fresh xs i := of_decide_eq_false h
  simp only [dis]; rw [if_neg this]

set_option maxRecDepth 100000 in
set_option maxHeartbeats 4000000 in
theorem core (w : World) (A : Option Addr) (xs : List F8) (m c : Nat) (hl : xs.length = m) (hb : Bytes w A (bs xs)) (hc : m ≤ c) (hm9 : m ≤ 9223372036854775807) :
    Calls Try.prog 8 #[.slice A m c] w fun e w' => e = .returned (.bool true) ∧ Below w.heap.size w w' := by
  have HL := Lib.hid hl
  have HB := Lib.hid hb
  have HQ := Q.start w
  clear hl hb
  by_cases h10 : 10 < m
  · go_enter Try.func8, Try.ntmps8
    go_wp2_with (go_at_call 12; (with_reducible refine (works_calls _).mono ?_); rintro e wz ⟨rfl, HZ⟩)
    go_ret
    exact ⟨rfl, (HQ.below HZ).bel⟩
  by_cases h0 : m = 0
  · have e0 : ((m : Int) == 0) = true := by simp [h0]
    go_enter Try.func8, Try.ntmps8
    go_wp2_with (go_at_call 12; (with_reducible refine (works_calls _).mono ?_); rintro e wz ⟨rfl, HZ⟩)
    go_ret
    exact ⟨rfl, (HQ.below HZ).bel⟩
  have e0 : ((m : Int) == 0) = false := by simp; omega
  have hm10 : m ≤ 10 := by omega
  have hm1 : 1 ≤ m := by omega
  clear h0 h10
  go_enter Try.func8, Try.ntmps8
  go_wp2_with fail
  refine HQ.new.mono ?_
  rintro e w1 ⟨rfl, HN⟩
  have HW := Lib.hid (HN.arg HB.out)
  clear HN HQ e0
  go_wp2_with fail
  go_loopw [4, 5] (fun u i wr => ∃ k : Nat, k ≤ m ∧ u = .int .i64 ((dis xs k).length : Nat) ∧ i = .int .i64 k ∧ Hid (W w w.heap.size [(A, xs)] [] wr)) (fun _ i _ => m - (intOf i).toNat)
  case atStart => exact ⟨0, by omega, rfl, rfl, HW⟩
  case round =>
    clear HW
    obtain ⟨k, hk, rfl, rfl, HW⟩ := hrel
    have hdl := dis_len (xs := xs) k
    obtain ⟨u, hu⟩ : ∃ u, (dis xs k).length = u := ⟨_, rfl⟩
    rw [hu] at hdl ⊢
    by_cases hkm : k < m
    · have HU := Lib.hid hu
      clear hu
      go_wp2_with fail
      go_loopw [6, 7] (fun f j wr => ∃ l : Nat, l ≤ k ∧ f = .bool (fr xs k l) ∧ j = .int .i64 l ∧ Hid (W w w.heap.size [(A, xs)] [] wr)) (fun _ j _ => k - (intOf j).toNat)
      case atStart => exact ⟨0, by omega, by rw [fr_zero], rfl, HW⟩
      case round =>
        clear HW
        obtain ⟨l, hl, rfl, rfl, HW⟩ := hrel
        by_cases hlk : l < k
        · have hlx : l < xs.length := by rw [HL.out]; omega
          have hkx : k < xs.length := by rw [HL.out]; omega
          obtain ⟨b, off, rfl⟩ := where_ (HW.out.bytes (A := A) (p := xs) (by simp)) (by omega)
          have hc1 := cellAt (HW.out.bytes (A := some ⟨b, off, none⟩) (p := xs) (by simp)) l hlx
          have hc2 := cellAt (HW.out.bytes (A := some ⟨b, off, none⟩) (p := xs) (by simp)) k hkx
          clear hlx hkx
          obtain ⟨f, hf⟩ : ∃ f, fr xs k l = f := ⟨_, rfl⟩
          rw [hf]
          cases f
          · have HF := Lib.hid (fr_false hf)
            clear hf hc1 hc2
            go_wp2_with fail
            go_quiet (fail)
            go_wp2
            go_roundw
            case rel => exact ⟨l + 1, by omega, by rw [HF.out], by go_num, Lib.hid (HW.out.drewN _)⟩
            case measure => simp [intOf]; omega
          · by_cases hxe : coef xs l = coef xs k
            · have HF := Lib.hid (fr_same hxe)
              have hq : (((coef xs l).n : Int) != ((coef xs k).n : Int)) = false := by simp [hxe]
              clear hf hxe
              go_wp2_with fail
              go_quiet (fail)
              go_wp2
              go_roundw
              case rel => exact ⟨l + 1, by omega, by rw [HF.out], by go_num, Lib.hid (HW.out.drewN _)⟩
              case measure => simp [intOf]; omega
            · have HF : Hid (fr xs k (l + 1) = true) := Lib.hid (by rw [fr_ne hxe, hf])
              have hq : (((coef xs l).n : Int) != ((coef xs k).n : Int)) = true := by
                have := n_beq_false hxe
                simp [bne, this]
              clear hf hxe
              go_wp2_with fail
              go_quiet (fail)
              go_wp2
              go_roundw
              case rel => exact ⟨l + 1, by omega, by rw [HF.out], by go_num, Lib.hid (HW.out.drewN _)⟩
              case measure => simp [intOf]; omega
        · obtain rfl : l = k := by omega
          obtain ⟨f, hf⟩ : ∃ f, fr xs l l = f := ⟨_, rfl⟩
          rw [hf]
          cases f
          · have HF : Hid ((dis xs (l + 1)).length = u) := Lib.hid (by rw [dis_stale hf, HU.out])
            clear hf
            go_wp2
            go_roundw
            case rel => exact ⟨l + 1, by omega, by rw [HF.out], by go_num, HW⟩
            case measure => simp [intOf]; omega
          · have HF : Hid ((dis xs (l + 1)).length = u + 1) := Lib.hid (by rw [dis_fresh hf, HU.out])
            clear hf
            go_wp2
            go_roundw
            case rel => exact ⟨l + 1, by omega, by rw [HF.out]; go_num, by go_num, HW⟩
            case measure => simp [intOf]; omega
    · obtain rfl : k = m := by omega
      obtain ⟨P, hP⟩ : ∃ z, flat k k (powF xs) = z := ⟨_, rfl⟩
      obtain ⟨N, hN⟩ : ∃ N, k * k = N := ⟨_, rfl⟩
      have HLP : Hid (P.length = N) := Lib.hid (by rw [← hP, flat_length, hN])
      have HRk : Hid (RankIs k k (ent P k) k u) := Lib.hid (by rw [← hP, ← hu]; exact powers_rank' xs k)
      have HP := Lib.hid hP
      have HN' := Lib.hid hN
      have huu : ((u : Int) == (u : Int)) = true := by simp
      clear hP hN hu hkm hk
      go_wp2_with fail
      refine (powersW HW.out k k N c A xs P (by simp) (by omega) (by omega) HN'.out HL.out HP.out).mono ?_
      rintro e w3 ⟨A3, d3, rfl, hd3, HN⟩
      obtain ⟨v3, hv3, -, HN⟩ := HN.var k k A3 N d3
      clear HW
      have HW := Lib.hid HN
      obtain ⟨m0, m1, m2⟩ := HN.at_ (b := w3.heap.size) (R := k) (C := k) (A := A3) (n := N) (c := d3) (by simp)
      clear HN
      go_wp2_with fail
      clear hv3 m0 m1 m2
      refine (rankW_is HW.out k k N d3 u A3 P (by simp) (by omega) (by omega) HN'.out HLP.out HRk.out).mono ?_
      rintro e w4 ⟨rfl, HN⟩
      clear HW
      have HW := Lib.hid HN
      obtain ⟨m0, m1, m2⟩ := HN.at_ (b := w3.heap.size) (R := k) (C := k) (A := A3) (n := N) (c := d3) (by simp)
      clear HN
      by_cases hfl : ¬ u = k
      · have huk : ((u : Int) == (k : Int)) = false := by simp; omega
        have HNo : Hid (¬ ∃ X, Sol k k k (ent P k) (ent (flat k k oneF) k) X) := Lib.hid (fun h => hfl ((sol_inv_iff HRk.out k).1 h))
        clear hfl
        go_wp2_with fail
        clear m0 m1 m2
        refine (inverseW_no HW.out k N d3 A3 P (by simp) (by omega) HN'.out hd3 HLP.out HNo.out).mono ?_
        rintro e w5 ⟨A5, d5, rfl, -, HN⟩
        clear HW
        obtain ⟨v5, hv5, -, HN⟩ := HN.var 0 0 A5 0 d5
        have HW := Lib.hid HN
        clear HN
        go_wp2_with (go_at_call 12; (with_reducible refine (works_calls _).mono ?_); rintro e wz ⟨rfl, HZ⟩)
        go_ret
        exact ⟨rfl, (HW.out.below HZ).bel⟩
      · have hfl := Classical.not_not.1 hfl
        have huk : ((u : Int) == (k : Int)) = true := by simp; omega
        obtain ⟨Y, hY⟩ := (sol_inv_iff HRk.out (b := ent (flat k k oneF) k) k).2 hfl
        have HY := Lib.hid hY
        clear hfl hY
        go_wp2_with fail
        clear m0 m1 m2
        refine (inverseW_ok HW.out k N d3 A3 P _ Y (by simp) (by omega) HN'.out hd3 HLP.out HY.out rfl).mono ?_
        rintro e w5 ⟨A5, d5, rfl, -, HN⟩
        clear HW
        obtain ⟨v5, hv5, -, HN⟩ := HN.var k k A5 N d5
        have HW := Lib.hid HN
        clear HN
        go_wp2_with (go_at_call 12; (with_reducible refine (works_calls _).mono ?_); rintro e wz ⟨rfl, HZ⟩)
        go_ret
        exact ⟨rfl, (HW.out.below HZ).bel⟩
theorem walk (w : World) (A0 : Option Addr) (l0 : List Nat) (c0 : Nat) (hb0 : Bytes w A0 l0) (hc0 : l0.length ≤ c0) (hm0 : c0 ≤ 9223372036854775807) :
    Calls Try.prog 8 #[.slice A0 l0.length c0] w fun e w' => e = .returned (.bool true) ∧ Below w.heap.size w w' := by
  obtain ⟨p0, rfl⟩ := of_bytes l0 hb0.lt
  exact core w A0 p0 _ c0 (bs_length p0).symm hb0 hc0 (by omega)
end Go.Proofs.Ythenpfcnpcgfbaa.matrixPowers
