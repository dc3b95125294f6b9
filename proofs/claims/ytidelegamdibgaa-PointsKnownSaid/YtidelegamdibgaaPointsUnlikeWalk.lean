/- The walk of PointsUnlike. -/
import Derived.Test.YtidelegamdibgaaPtSt
import Derived.Deep.RegionHeld
namespace Go.Proofs.Ytidelegamdibgaa.pointsUnlike
open Go.RowKit GF Pt
/-- The order of the power, and how many points there may be. -/
theorem pow_ne {a n : Nat} (hn : n ≤ lim a) {i k : Nat} (hk : k < i) (hi : i < n) : gpow (gp i) (a : Int) ≠ gpow (gp k) (a : Int) := by
  have hl := lim_le a
  intro h
  rw [gpow_of (gp_ne _), gpow_of (gp_ne _), gl_gp, gl_gp, Nat.mod_eq_of_lt (by omega), Nat.mod_eq_of_lt (by omega)] at h
  have e1 : ((i : Int) * (a : Int)) = ((i * a : Nat) : Int) := by simp
  have e2 : ((k : Int) * (a : Int)) = ((k * a : Nat) : Int) := by simp
  rw [e1, e2, ge_nat, ge_nat, ← gp_mod, ← gp_mod (k * a)] at h
  have h2 := gp_inj (Nat.mod_lt _ (by decide)) (Nat.mod_lt _ (by decide)) h
  have h3 : 255 ∣ (i - k) * a := by
    have hle : k * a ≤ i * a := Nat.mul_le_mul_right a (Nat.le_of_lt hk)
    rw [Nat.sub_mul]
    exact Nat.dvd_of_mod_eq_zero (by omega)
  have hg : 0 < Nat.gcd 255 a := Nat.gcd_pos_of_pos_left _ (by decide)
  have h4 : 255 / Nat.gcd 255 a ∣ (i - k) * (a / Nat.gcd 255 a) := by
    obtain ⟨c, hc⟩ := h3
    refine ⟨c, Nat.eq_of_mul_eq_mul_right hg ?_⟩
    rw [Nat.mul_assoc, Nat.div_mul_cancel (Nat.gcd_dvd_right 255 a), hc, Nat.mul_right_comm, Nat.div_mul_cancel (Nat.gcd_dvd_left 255 a)]
  have h5 : 255 / Nat.gcd 255 a ∣ i - k := (Nat.coprime_div_gcd_div_gcd hg).dvd_of_dvd_mul_right h4
  have h6 := Nat.le_of_dvd (by omega) h5
  have h7 : lim a = 255 / Nat.gcd 255 a := rfl
  omega
theorem powW {w0 w : World} {g : Nat} {ls : List En} (h : W w0 g ls w) (x a r : Nat) (hx : x < 256) (ha : a ≤ 255) (hr : gpow x (a : Int) = r) :
    Calls Try.prog 44 #[.pointer (some ⟨g, 0, none⟩), .int .u8 x, .int .i64 a] w fun e w' => e = .returned (.int .u8 r) ∧ W w0 g ls w' :=
  (pow_calls _ x hx a (by omega) (by omega) w h.fld).mono fun e w' ⟨h1, h2, h3⟩ => ⟨by rw [h1, hr], h.past h2 h3⟩
theorem cellW {w0 w : World} {g b n c N : Nat} (h : W w0 g [⟨5, some ⟨b, 0, none⟩, n, c, bv (pts N)⟩] w) {i x : Nat} (hi : i < N) (hx : gp i = x) : w.cell? ⟨b, i, none⟩ = some (.int .u8 (x : Nat)) := by
  have hr := h.row (A := some ⟨b, 0, none⟩) (n := n) (c := c) (xs := bv (pts N)) (t := 5) (by simp)
  obtain ⟨b', off, e, hc⟩ := hr i (.int .u8 (x : Nat)) (by simp [bv, pts, hi, hx])
  cases e
  rwa [Nat.zero_add] at hc

set_option maxRecDepth 100000 in
set_option maxHeartbeats 8000000 in
theorem walk (w : World) (n0 : Int) (_hl0 : -9223372036854775808 ≤ n0) (_hn0 : n0 < 9223372036854775808) (n1 : Int) (_hl1 : -9223372036854775808 ≤ n1) (_hn1 : n1 < 9223372036854775808) :
    Calls Try.prog 7 #[.int .i64 n0, .int .i64 n1] w fun e w' => e = .returned (.bool true) ∧ Below w.heap.size w w' := by
  have H0 := W.start w
  have hsz0 : (w.alloc (.cells (fcells 0 0 0) 83)).heap.size = w.heap.size + 1 := by simp
  by_cases h : 1 ≤ n1 ∧ n1 ≤ 255 ∧ 0 ≤ n0 ∧ n0 ≤ lim n1.toNat
  · obtain ⟨h1, h2, h3, h4⟩ := id h
    obtain ⟨a, rfl⟩ : ∃ a : Nat, n1 = (a : Int) := ⟨n1.toNat, by omega⟩
    obtain ⟨N, rfl⟩ : ∃ N : Nat, n0 = (N : Int) := ⟨n0.toNat, by omega⟩
    rw [Int.toNat_natCast] at h4
    have hNl : N ≤ lim a := by omega
    have hl := lim_le a
    have hR : spreadR (N : Int) (a : Int) = (pts N, 0) := by
      unfold spreadR
      rw [if_pos h, Int.toNat_natCast]
    have K0 := spreadW H0 (pts_length N) (N : Int) (a : Int) hR
    have HNL := Lib.hid hNl
    have hN255 : N ≤ 255 := by omega
    clear h h4 hNl hl hR
    go_enter Try.func7, Try.ntmps7
    go_wp2_with fail
    refine (new_calls _).mono ?_
    rintro e wn ⟨rfl, rfl⟩
    go_wp2_with fail
    with_reducible refine K0.mono ?_
    rintro e w1 ⟨A1, c1, rfl, hc1, hA1, hO1, H1, hz1⟩
    clear K0 H0 hO1
    go_wp2
    go_loopw [8] (fun i wr => ∃ k : Nat, k ≤ N ∧ i = .int .i64 k ∧ W w w.heap.size [⟨5, A1, N, c1, bv (pts N)⟩] wr) (fun i _ => N - (intOf i).toNat)
    case atStart => exact ⟨0, Nat.zero_le _, rfl, H1⟩
    case round =>
      clear H1
      obtain ⟨i, hi, rfl, HW⟩ := hrel
      by_cases hiN : i < N
      · obtain ⟨b, rfl, hb⟩ : ∃ b, A1 = some ⟨b, 0, none⟩ ∧ (w.alloc (.cells (fcells 0 0 0) 83)).heap.size ≤ b := by
          rcases hA1 with ⟨_, h, _⟩ | h
          · omega
          · exact h
        obtain ⟨x, hx⟩ : ∃ x, gp i = x := ⟨_, rfl⟩
        go_wp2
        go_loopw [9] (fun k wr2 => ∃ q : Nat, q ≤ i ∧ k = .int .i64 q ∧ W w w.heap.size [⟨5, some ⟨b, 0, none⟩, N, c1, bv (pts N)⟩] wr2) (fun k _ => i - (intOf k).toNat)
        case atStart => exact ⟨0, Nat.zero_le _, rfl, HW⟩
        case round =>
          clear HW
          obtain ⟨q, hq, rfl, HW⟩ := hrel
          by_cases hqi : q < i
          · have hqN : q < N := by omega
            obtain ⟨y, hy⟩ : ∃ y, gp q = y := ⟨_, rfl⟩
            have hxy : ¬ ((x : Int) = (y : Int)) := by
              intro e
              have e2 : gp i = gp q := by omega
              have := gp_inj (by omega) (by omega) e2
              omega
            have hx256 : x < 256 := by rw [← hx]; exact gp_lt _
            have hy256 : y < 256 := by rw [← hy]; exact gp_lt _
            have hpne := pow_ne HNL.out hqi hiN
            rw [hx, hy] at hpne
            obtain ⟨u, hu⟩ : ∃ u, gpow x (a : Int) = u := ⟨_, rfl⟩
            obtain ⟨v, hv⟩ : ∃ v, gpow y (a : Int) = v := ⟨_, rfl⟩
            rw [hu, hv] at hpne
            have huv : ¬ ((u : Int) = (v : Int)) := by omega
            have P1 : ∀ wz, W w w.heap.size [⟨5, some ⟨b, 0, none⟩, N, c1, bv (pts N)⟩] wz → _ := fun wz hz => powW hz x a u hx256 (by omega) hu
            have P2 : ∀ wz, W w w.heap.size [⟨5, some ⟨b, 0, none⟩, N, c1, bv (pts N)⟩] wz → _ := fun wz hz => powW hz y a v hy256 (by omega) hv
            have C1 : ∀ wz, W w w.heap.size [⟨5, some ⟨b, 0, none⟩, N, c1, bv (pts N)⟩] wz → wz.cell? ⟨b, i, none⟩ = some (.int .u8 (x : Nat)) := fun wz hz => cellW hz hiN hx
            have C2 : ∀ wz, W w w.heap.size [⟨5, some ⟨b, 0, none⟩, N, c1, bv (pts N)⟩] wz → wz.cell? ⟨b, q, none⟩ = some (.int .u8 (y : Nat)) := fun wz hz => cellW hz hqN hy
            have hxyb : ((x : Int) == (y : Int)) = false := by simp; omega
            have huvb : ((u : Int) == (v : Int)) = false := by simp; omega
            have HP1 := Lib.hid P1
            have HP2 := Lib.hid P2
            have HC1 := Lib.hid C1
            have HC2 := Lib.hid C2
            have HWd := Lib.hid HW.drew
            clear P1 P2 C1 C2 hu hv hpne hx hy HW hx256 hy256
            go_wp2_with fail
            have d1 := HC1.out _ HWd.out
            have d2 := HC2.out _ HWd.out
            go_region_held (fun wz => wz.cell? ⟨b, i, none⟩ = some (.int .u8 (x : Nat)) ∧ wz.cell? ⟨b, q, none⟩ = some (.int .u8 (y : Nat))) (exact ⟨HC1.out _ HWd.out, HC2.out _ HWd.out⟩)
              ((go_at_call 44; (first | (with_reducible refine (HP1.out _ HWd.out).mono ?_) | (with_reducible refine (HP2.out _ HWd.out).mono ?_)); rintro e w6 ⟨rfl, h6⟩; replace HWd := Lib.hid h6; clear h6; have d1 := HC1.out _ HWd.out; have d2 := HC2.out _ HWd.out))
            all_goals
              go_wp2
              go_roundw
              case rel => exact ⟨q + 1, by omega, by go_num, HWd.out⟩
              case measure => simp [intOf]; omega
          · obtain rfl : i = q := by omega
            have d3 := cellW HW hiN hx
            have hx0 : ((x : Int) == 0) = false := by
              have := gp_ne i
              simp; omega
            clear hx
            go_wp2
            go_roundw
            case rel => exact ⟨i + 1, by omega, by go_num, HW⟩
            case measure => simp [intOf]; omega
      · obtain rfl : N = i := by omega
        go_wp2_with fail
        refine (works_calls _).mono ?_
        rintro e wz ⟨rfl, hBz⟩
        replace hBz := HW.bel.trans (hBz.mono HW.bel.size)
        go_wp2
        go_ret
        exact ⟨rfl, hBz⟩
  · have hR : spreadR n0 n1 = ([], 2) := if_neg h
    have K0 := spreadW H0 (l := []) (k := 2) (m := 0) rfl n0 n1 hR
    clear h hR
    go_enter Try.func7, Try.ntmps7
    go_wp2_with fail
    refine (new_calls _).mono ?_
    rintro e wn ⟨rfl, rfl⟩
    go_wp2_with fail
    with_reducible refine K0.mono ?_
    rintro e w1 ⟨A1, c1, rfl, hc1, hA1, hO1, H1, hz1⟩
    clear K0 H0 hO1
    go_wp2_with fail
    refine (works_calls _).mono ?_
    rintro e wz ⟨rfl, hBz⟩
    replace hBz := H1.bel.trans (hBz.mono H1.bel.size)
    go_wp2
    go_ret
    exact ⟨rfl, hBz⟩
end Go.Proofs.Ytidelegamdibgaa.pointsUnlike
