/- The walk of PointsOf. -/
import Derived.Test.YtidelegamdibgaaPtSt
namespace Go.Proofs.Ytidelegamdibgaa.pointsOf
open Go.RowKit GF Pt
theorem st_set {B : Nat} {w0 w : World} {gs : List Nat} (h : St B w0 gs w) {p : Addr} (hp : B ≤ p.block) (hg : ∀ g ∈ gs, g ≠ p.block) (u : Value) : St B w0 gs (w.setCell p u) :=
  ⟨fun g hx => ⟨fld_far (h.fld g hx).1 (hg g hx) u, (h.fld g hx).2⟩, h.bel.setCell hp u, by simp [World.setCell]; exact h.le⟩
theorem w_set {w0 w : World} {g : Nat} {ls : List En} (h : W w0 g ls w) {p : Addr} (hp : w0.heap.size ≤ p.block) (hg : g ≠ p.block) (hs : ∀ x ∈ ls, (Value.slice x.A x.n x.c).ownBlock ≠ some p.block) (u : Value) : W w0 g ls (w.setCell p u) :=
  ⟨st_set h.st hp (by simpa using hg) u, fun x hx => ⟨(h.ls x hx).1.far (hs x hx) u, (h.ls x hx).2⟩⟩
/-- It lies in no block below lo, and below hi. -/
def In2 (A : Option Addr) (lo hi : Nat) : Prop := ∀ n c b, (Value.slice A n c).ownBlock = some b → lo ≤ b ∧ b < hi
theorem in2_own {w : World} {B : Nat} {e : TypeId} {A : Option Addr} {n c : Nat} {xs : List Value} (h : Own w B e (.slice A n c) xs) : In2 A B w.heap.size := by
  obtain ⟨_, _, _, _, hb⟩ := h.form
  intro n' c' b hbk
  cases A with
  | none => cases hbk
  | some a => exact hb b hbk
theorem In2.ne {A : Option Addr} {lo hi b n c : Nat} (h : In2 A lo hi) (hb : b < lo ∨ hi ≤ b) : (Value.slice A n c).ownBlock ≠ some b := fun e => by
  have := h _ _ b e
  omega
/-- The cell that is written, and what lies elsewhere. -/
theorem own_one {w : World} {B : Nat} {e : TypeId} {A : Option Addr} {n c k : Nat} {xs : List Value} (h : Own w B e (.slice A n c) xs) (hn : xs.length = n) (hk : k < n) :
    ∃ b, A = some ⟨b, 0, none⟩ ∧ (∃ u, w.cell? ⟨b, k, none⟩ = some u) ∧ w.frozen? ⟨b, k, none⟩ = false ∧ ∀ u, Own (w.setCell ⟨b, k, none⟩ u) B e (.slice (some ⟨b, 0, none⟩) n c) (xs.set k u) := by
  obtain ⟨b, c', hv, _⟩ := h.form1 (by omega)
  injection hv with h1 h2 h3
  subst h1
  exact ⟨b, rfl, ⟨_, h.cellAt hn k (by omega)⟩, h.frozenAt hn k, fun u => h.set_ hn k u⟩

set_option maxRecDepth 100000 in
set_option maxHeartbeats 8000000 in
theorem walk (w : World) (n0 : Int) (_hl0 : -9223372036854775808 ≤ n0) (_hn0 : n0 < 9223372036854775808) (n1 : Int) (_hl1 : -9223372036854775808 ≤ n1) (_hn1 : n1 < 9223372036854775808) (n2 : Int) (_hl2 : -9223372036854775808 ≤ n2) (hn2 : n2 < 9223372036854775808) (n3 : Int) (_hl3 : -9223372036854775808 ≤ n3) (_hn3 : n3 < 9223372036854775808) :
    Calls Try.prog 5 #[.int .i64 n0, .int .i64 n1, .int .i64 n2, .int .i64 n3] w fun e w' => e = .returned (.bool true) ∧ Below w.heap.size w w' := by
  have H0 := W.start w
  have hsz0 : (w.alloc (.cells (fcells 0 0 0) 83)).heap.size = w.heap.size + 1 := by simp
  have hl1 := ofR_lt n0
  have hl2 := spreadR_lt n0 n1
  have hl3 := cosetsR_lt n2 n3
  obtain ⟨l1, k1, hR1⟩ : ∃ l k, ofR n0 = (l, k) := ⟨_, _, rfl⟩
  obtain ⟨l2, k2, hR2⟩ : ∃ l k, spreadR n0 n1 = (l, k) := ⟨_, _, rfl⟩
  obtain ⟨l3, k3, hR3⟩ : ∃ l k, cosetsR n2 n3 = (l, k) := ⟨_, _, rfl⟩
  rw [hR1] at hl1
  rw [hR2] at hl2
  rw [hR3] at hl3
  obtain ⟨m1, hm1⟩ : ∃ m, l1.length = m := ⟨_, rfl⟩
  obtain ⟨m2, hm2⟩ : ∃ m, l2.length = m := ⟨_, rfl⟩
  obtain ⟨m3, hm3⟩ : ∃ m, l3.length = m := ⟨_, rfl⟩
  have HR1 := Lib.hid hR1
  have HR2 := Lib.hid hR2
  have HR3 := Lib.hid hR3
  have HM1 := Lib.hid hm1
  have HM2 := Lib.hid hm2
  have HM3 := Lib.hid hm3
  have hb1 : m1 ≤ 1000 := by
    rw [← hm1, show l1 = (ofR n0).1 by rw [hR1]]
    unfold ofR
    split
    · rw [pts_length]; omega
    · simp
  have hb3 : m3 ≤ 1000 := by
    rw [← hm3, show l3 = (cosetsR n2 n3).1 by rw [hR3]]
    unfold cosetsR
    split
    · rename_i h
      obtain ⟨h1, h2, h3, h4, h5⟩ := h
      have e : n3.toNat * (n2.toNat + 1) ≤ 255 := by
        have h6 : (n2 + 1) = ((n2.toNat + 1 : Nat) : Int) := by omega
        rw [h6] at h5
        have h7 : n3.toNat ≤ 255 / (n2.toNat + 1) := by
          have e : (255 : Int) / ((n2.toNat + 1 : Nat) : Int) = ((255 / (n2.toNat + 1) : Nat) : Int) := by simp
          rw [e] at h5; omega
        exact Nat.le_trans (Nat.mul_le_mul_right _ h7) (Nat.div_mul_le_self _ _)
      rw [gpts_length]; omega
    · simp
  clear hR1 hR2 hR3 hm1 hm2 hm3
  have K0 := ofW H0 HM1.out n0 HR1.out
  go_enter Try.func5, Try.ntmps5
  go_wp2_with fail
  refine (new_calls _).mono ?_
  rintro e wn ⟨rfl, rfl⟩
  go_wp2_with fail
  with_reducible refine K0.mono ?_
  rintro e w1 ⟨A1, c1, rfl, hc1, hA1, hO1, H1, hz1⟩
  have I1 := in2_own hO1
  have K1 := refOfW H1 HM1.out n0 HR1.out
  go_wp2_with fail
  with_reducible refine K1.mono ?_
  rintro e w2 ⟨A2, c2, rfl, hc2, hA2, hO2, H2, hz2⟩
  have I2 := in2_own hO2
  have K2 := spreadW H2 HM2.out n0 n1 HR2.out
  clear K0 K1 hO1 hO2 H0 H1
  go_wp2_with fail
  with_reducible refine K2.mono ?_
  rintro e w3 ⟨A3, c3, rfl, hc3, hA3, hO3, H3, hz3⟩
  have I3 := in2_own hO3
  have K3 := refSpreadW H3 HM2.out n0 n1 HR2.out
  clear K2 hO3 H2
  go_wp2_with fail
  with_reducible refine K3.mono ?_
  rintro e w4 ⟨A4, c4, rfl, hc4, hA4, hO4, H4, hz4⟩
  have I4 := in2_own hO4
  have K4 := cosetsW H4 HM3.out n2 n3 hn2 HR3.out
  clear K3 hO4 H3
  go_wp2_with fail
  with_reducible refine K4.mono ?_
  rintro e w5 ⟨A5, c5, rfl, hc5, hA5, hO5, H5, hz5⟩
  have I5 := in2_own hO5
  have K5 := refCosetsW H5 HM3.out n2 n3 HR3.out
  clear K4 hO5 H4
  go_wp2_with fail
  with_reducible refine K5.mono ?_
  rintro e w6 ⟨A6, c6, rfl, hc6, hA6, hO6, H6, hz6⟩
  have I6 := in2_own hO6
  clear K5 hO6 H5
  have S1 := sameW H6 (A := A1) (B := A2) (m := m1) (n := m1) (c := c1) (d := c2) (p := l1) (q := l1) (by simp) (by simp) HM1.out HM1.out hl1 hl1 true (by simp)
  have S2 := sameW H6 (A := A3) (B := A4) (m := m2) (n := m2) (c := c3) (d := c4) (p := l2) (q := l2) (by simp) (by simp) HM2.out HM2.out hl2 hl2 true (by simp)
  have S3 := sameW H6 (A := A5) (B := A6) (m := m3) (n := m3) (c := c5) (d := c6) (p := l3) (q := l3) (by simp) (by simp) HM3.out HM3.out hl3 hl3 true (by simp)
  go_wp2_with fail
  with_reducible refine S1.mono ?_
  rintro e wz ⟨rfl, rfl⟩
  go_wp2_with fail
  with_reducible refine S2.mono ?_
  rintro e wz ⟨rfl, rfl⟩
  go_wp2_with fail
  with_reducible refine S3.mono ?_
  rintro e wz ⟨rfl, rfl⟩
  clear S1 S2 S3
  have HA := (H6.ls _ (show (⟨5, A1, m1, c1, bv l1⟩ : En) ∈ _ by simp)).1
  have HX := (H6.ls _ (show (⟨5, A5, m3, c5, bv l3⟩ : En) ∈ _ by simp)).1
  have HW := H6.sub (ls' := [⟨5, A2, m1, c2, bv l1⟩, ⟨5, A6, m3, c6, bv l3⟩]) (by simp)
  have hla : (bv l1).length = m1 := by rw [bv_length, HM1.out]
  have hlx : (bv l3).length = m3 := by rw [bv_length, HM3.out]
  clear H6
  go_wp2
  go_loopw [22] (fun i wr => ∃ (k : Nat) (xs : List Value), k ≤ m1 ∧ i = .int .i64 k ∧ xs.length = m1 ∧ Own wr w.heap.size 5 (.slice A1 m1 c1) xs ∧ Own wr w.heap.size 5 (.slice A5 m3 c5) (bv l3) ∧ W w w.heap.size [⟨5, A2, m1, c2, bv l1⟩, ⟨5, A6, m3, c6, bv l3⟩] wr) (fun i _ => m1 - (intOf i).toNat)
  case atStart => exact ⟨0, _, Nat.zero_le _, rfl, hla, HA, HX, HW⟩
  case round =>
    clear HA HX HW
    obtain ⟨k, xs, hk, rfl, hxs, HA, HX, HW⟩ := hrel
    by_cases hkm : k < m1
    · obtain ⟨b, rfl, ⟨u, hu⟩, hf, hset⟩ := own_one HA hxs hkm
      have hbb := I1 m1 c1 b rfl
      have hset2 := hset (.int .u8 77)
      have HX2 := HX.far (p := ⟨b, k, none⟩) (I5.ne (b := b) (by omega)) (.int .u8 77)
      have HW2 := w_set HW (p := ⟨b, k, none⟩) (show w.heap.size ≤ b by omega) (show w.heap.size ≠ b by omega) (by
        intro x hx
        rcases List.mem_cons.1 hx with rfl | hx
        · exact I2.ne (b := b) (by omega)
        · obtain rfl := List.mem_singleton.1 hx
          exact I6.ne (b := b) (by omega)) (.int .u8 77)
      clear hset HA HX HW
      go_wp2
      go_roundw
      case rel => exact ⟨k + 1, _, by omega, by go_num, by rw [List.length_set]; exact hxs, hset2, HX2, HW2⟩
      case measure => simp [intOf]; omega
    · obtain rfl : m1 = k := by omega
      clear HA
      go_wp2
      go_loopw [23] (fun i wr => ∃ (k : Nat) (xs : List Value), k ≤ m3 ∧ i = .int .i64 k ∧ xs.length = m3 ∧ Own wr w.heap.size 5 (.slice A5 m3 c5) xs ∧ W w w.heap.size [⟨5, A2, m1, c2, bv l1⟩, ⟨5, A6, m3, c6, bv l3⟩] wr) (fun i _ => m3 - (intOf i).toNat)
      case atStart => exact ⟨0, _, Nat.zero_le _, rfl, hlx, HX, HW⟩
      case round =>
        clear HX HW
        obtain ⟨q, ys, hq, rfl, hys, HX, HW⟩ := hrel
        by_cases hqm : q < m3
        · obtain ⟨b, rfl, ⟨u, hu⟩, hf, hset⟩ := own_one HX hys hqm
          have hbb := I5 m3 c5 b rfl
          have hset2 := hset (.int .u8 77)
          have HW2 := w_set HW (p := ⟨b, q, none⟩) (show w.heap.size ≤ b by omega) (show w.heap.size ≠ b by omega) (by
            intro x hx
            rcases List.mem_cons.1 hx with rfl | hx
            · exact I2.ne (b := b) (by omega)
            · obtain rfl := List.mem_singleton.1 hx
              exact I6.ne (b := b) (by omega)) (.int .u8 77)
          clear hset HX HW
          go_wp2
          go_roundw
          case rel => exact ⟨q + 1, _, by omega, by go_num, by rw [List.length_set]; exact hys, hset2, HW2⟩
          case measure => simp [intOf]; omega
        · obtain rfl : m3 = q := by omega
          clear HX
          have K6 := ofW HW HM1.out n0 HR1.out
          go_wp2_with fail
          with_reducible refine K6.mono ?_
          rintro e w7 ⟨A7, c7, rfl, hc7, -, -, H7, -⟩
          have K7 := cosetsW H7 HM3.out n2 n3 hn2 HR3.out
          clear K6
          go_wp2_with fail
          with_reducible refine K7.mono ?_
          rintro e w8 ⟨A8, c8, rfl, hc8, -, -, H8, -⟩
          have S1 := sameW H8 (A := A7) (B := A2) (m := m1) (n := m1) (c := c7) (d := c2) (p := l1) (q := l1) (by simp) (by simp) HM1.out HM1.out hl1 hl1 true (by simp)
          have S2 := sameW H8 (A := A8) (B := A6) (m := m3) (n := m3) (c := c8) (d := c6) (p := l3) (q := l3) (by simp) (by simp) HM3.out HM3.out hl3 hl3 true (by simp)
          clear K7
          go_wp2_with fail
          with_reducible refine S1.mono ?_
          rintro e wz ⟨rfl, rfl⟩
          go_wp2_with fail
          with_reducible refine S2.mono ?_
          rintro e wz ⟨rfl, rfl⟩
          clear S1 S2
          go_wp2_with fail
          refine (works_calls _).mono ?_
          rintro e wz ⟨rfl, hBz⟩
          replace hBz := H8.bel.trans (hBz.mono H8.bel.size)
          go_wp2
          go_ret
          exact ⟨rfl, hBz⟩
end Go.Proofs.Ytidelegamdibgaa.pointsOf
