/- What the program's Pick does. -/
import Derived.Test.YtjpbdbgihakpmaaMatPart
namespace Go.Proofs.Ytjpbdbgihakpmaa.Mat
open Go.RowKit Go.Shelf F8 Poly GF
attribute [local go_sem] Oper.semAt_some

/-- Any integers as values of int. -/
def zv (l : List Int) : List Value := l.map fun z : Int => Value.int .i64 z
theorem zv_nat {l : List Int} (h : ∀ z ∈ l, 0 ≤ z) : zv l = iv (l.map Int.toNat) := by
  unfold zv iv
  rw [List.map_map]
  refine List.map_congr_left fun z hz => ?_
  have := h z hz
  simp [Int.toNat_of_nonneg this]
set_option maxRecDepth 100000 in
set_option maxHeartbeats 2000000 in
theorem pick_size (R C : Int) (A Aat : Option Addr) (n cap na ca : Nat) (hna : na ≤ 140737488355328) (h : ¬ (RightB R C n = true ∧ na ≤ 65536 ∧ (na : Int) * C ≤ 16777216)) (w : World) :
    Calls Try.prog 62 #[.agg #[.int .i64 R, .int .i64 C, .slice A n cap], .slice Aat na ca] w fun e w' => MatResE w w' e 0 0 [] 50 := by
  obtain ⟨wa, hwa⟩ : ∃ wa, (w.alloc (.cells #[.int .i64 R, .int .i64 C, .slice A n cap] 24)).alloc (.cells #[.int .i64 0, .int .i64 0, .slice none 0 0] 24) = wa := ⟨_, rfl⟩
  have hba : Block wa w.heap.size 24 #[.int .i64 R, .int .i64 C, .slice A n cap] := by rw [← hwa]; exact (Block.new _ _ _).alloc _
  have hbr : Block wa (w.heap.size + 1) 24 #[.int .i64 0, .int .i64 0, .slice none 0 0] := by
    rw [← hwa]
    have := Block.new (w.alloc (.cells #[.int .i64 R, .int .i64 C, .slice A n cap] 24)) 24 #[.int .i64 0, .int .i64 0, .slice none 0 0]
    rwa [World.size_alloc] at this
  have hBa : Below w.heap.size w wa := by rw [← hwa]; exact ((Below.refl _ w).alloc (Nat.le_refl _) _).alloc (by simp) _
  have hsa : wa.heap.size = w.heap.size + 2 := by rw [← hwa]; simp
  obtain ⟨n0, n1', n2'⟩ := cells3 hba
  obtain ⟨b, hb⟩ : ∃ b, RightB R C n = b := ⟨_, rfl⟩
  have HR := Lib.hid hb
  rcases b with _ | _
  · clear hb h
    go_enter Try.func62, Try.ntmps62
    go_wp2_with fail
    refine (right_calls R C A n cap _).mono ?_
    rintro e w1 ⟨rfl, hB1⟩
    rw [HR.out]
    have hbr1 := hbr.below hB1 hbr.lt
    have hBw1 := hBa.trans (hB1.mono (by omega))
    obtain ⟨s0, s1, s2⟩ := cells3 hbr1
    have f0 := hbr1.frozen 0
    have f1 := hbr1.frozen 1
    have f2 := hbr1.frozen 2
    clear hwa hba hbr hB1 hBa n0 n1' n2'
    go_wp2
    refine bodyPost_ret (v := .tuple #[.agg #[.int .i64 0, .int .i64 0, .slice none 0 0], .int .i64 50]) (by simp [results, Try.results62, go_sem, s0, s1, s2]) rfl ?_
    exact ⟨none, 0, rfl, Nat.le_refl _, Own.nil _ _ _, below_set3 hBw1 (by omega) _ _ _⟩
  · obtain ⟨r, c, rfl, rfl, k1, k2, k3⟩ := rightB_iff.1 hb
    by_cases hl : na ≤ 65536
    · obtain ⟨K, hK⟩ : ∃ K, na * c = K := ⟨_, rfl⟩
      have hK16 := mul_bound16 hl k2
      rw [hK] at hK16
      have hbig : 16777216 < K := by
        rcases Nat.lt_or_ge 16777216 K with h1 | h1
        · exact h1
        · exact absurd ⟨hb, hl, by rw [← Int.natCast_mul, hK]; omega⟩ h
      have e1 : decide (65536 < (na : Int)) = false := by simp; omega
      have e3 : decide (16777216 < (K : Int)) = true := by simp; omega
      have HK := Lib.hid hK
      clear hb h hK k3
      go_enter Try.func62, Try.ntmps62
      go_wp2_with fail
      refine (right_calls r c A n cap _).mono ?_
      rintro e w1 ⟨rfl, hB1⟩
      rw [HR.out]
      have hba1 := hba.below hB1 hba.lt
      have hbr1 := hbr.below hB1 hbr.lt
      have hBw1 := hBa.trans (hB1.mono (by omega))
      have hs1 := hB1.size
      obtain ⟨p0, p1, p2⟩ := cells3 hba1
      obtain ⟨s0, s1, s2⟩ := cells3 hbr1
      have f0 := hbr1.frozen 0
      have f1 := hbr1.frozen 1
      have f2 := hbr1.frozen 2
      clear hwa hba hbr hB1 hBa n0 n1' n2'
      go_wp2_with fail
      refine (area_nat na c (by rw [HK.out]; omega) _).mono ?_
      rintro e w3 ⟨rfl, rfl⟩
      rw [HK.out]
      go_wp2
      refine bodyPost_ret (v := .tuple #[.agg #[.int .i64 0, .int .i64 0, .slice none 0 0], .int .i64 50]) (by simp [results, Try.results62, go_sem, s0, s1, s2]) rfl ?_
      exact ⟨none, 0, rfl, Nat.le_refl _, Own.nil _ _ _, below_set3 hBw1 (by omega) _ _ _⟩
    · have e1 : decide (65536 < (na : Int)) = true := by simp; omega
      clear hb h k3
      go_enter Try.func62, Try.ntmps62
      go_wp2_with fail
      refine (right_calls r c A n cap _).mono ?_
      rintro e w1 ⟨rfl, hB1⟩
      rw [HR.out]
      have hbr1 := hbr.below hB1 hbr.lt
      have hBw1 := hBa.trans (hB1.mono (by omega))
      obtain ⟨s0, s1, s2⟩ := cells3 hbr1
      have f0 := hbr1.frozen 0
      have f1 := hbr1.frozen 1
      have f2 := hbr1.frozen 2
      clear hwa hba hbr hB1 hBa n0 n1' n2'
      go_wp2
      refine bodyPost_ret (v := .tuple #[.agg #[.int .i64 0, .int .i64 0, .slice none 0 0], .int .i64 50]) (by simp [results, Try.results62, go_sem, s0, s1, s2]) rfl ?_
      exact ⟨none, 0, rfl, Nat.le_refl _, Own.nil _ _ _, below_set3 hBw1 (by omega) _ _ _⟩

/-- Is each the index of a row? -/
def AllIn (zs : List Int) (r : Nat) : Prop := ∀ z ∈ zs, 0 ≤ z ∧ z < (r : Int)
def PickRes (r c : Nat) (s : List F8) (zs : List Int) (w : World) (e : Ending) (w' : World) : Prop :=
  (¬ AllIn zs r ∧ MatResE w w' e 0 0 [] 2) ∨ (AllIn zs r ∧ MatResE w w' e zs.length c (partL s c 0 (fun k => (zs.getD k 0).toNat) zs.length) 0)
set_option maxRecDepth 100000 in
set_option maxHeartbeats 4000000 in
theorem pick_calls (r c N cap na ca : Nat) (A Aat : Option Addr) (s : List F8) (zs : List Int) (hr : r ≤ 65536) (hc : c ≤ 65536) (hN : r * c = N) (hcap : N ≤ cap) (hl : s.length = N) (hna : zs.length = na) (hna2 : na ≤ 65536) (hbig : na * c ≤ 16777216) (w : World) (hb : Bytes w A (bs s)) (hz : Row w Aat (zv zs)) :
    Calls Try.prog 62 #[.agg #[.int .i64 r, .int .i64 c, .slice A N cap], .slice Aat na ca] w (PickRes r c s zs w) := by
  obtain ⟨wa, hwa⟩ : ∃ wa, (w.alloc (.cells #[.int .i64 r, .int .i64 c, .slice A N cap] 24)).alloc (.cells #[.int .i64 0, .int .i64 0, .slice none 0 0] 24) = wa := ⟨_, rfl⟩
  have hba : Block wa w.heap.size 24 #[.int .i64 r, .int .i64 c, .slice A N cap] := by rw [← hwa]; exact (Block.new _ _ _).alloc _
  have hbr : Block wa (w.heap.size + 1) 24 #[.int .i64 0, .int .i64 0, .slice none 0 0] := by
    rw [← hwa]
    have := Block.new (w.alloc (.cells #[.int .i64 r, .int .i64 c, .slice A N cap] 24)) 24 #[.int .i64 0, .int .i64 0, .slice none 0 0]
    rwa [World.size_alloc] at this
  have hBa : Below w.heap.size w wa := by rw [← hwa]; exact ((Below.refl _ w).alloc (Nat.le_refl _) _).alloc (by simp) _
  have hsa : wa.heap.size = w.heap.size + 2 := by rw [← hwa]; simp
  obtain ⟨n0, n1', n2'⟩ := cells3 hba
  have HR : Hid (RightB r c N = true) := Lib.hid (rightB_iff.2 ⟨r, c, rfl, rfl, hr, hc, hN.symm⟩)
  obtain ⟨K, hK⟩ : ∃ K, na * c = K := ⟨_, rfl⟩
  rw [hK] at hbig
  have e1 : decide (65536 < (na : Int)) = false := by simp; omega
  have e3 : decide (16777216 < (K : Int)) = false := by simp; omega
  have HK := Lib.hid hK
  have HN := Lib.hid hN
  have HL := Lib.hid hl
  have HB := Lib.hid hb
  have HZ := Lib.hid hz
  have HNa := Lib.hid hna
  clear hK hN hl hb hz hna
  go_enter Try.func62, Try.ntmps62
  go_wp2_with fail
  refine (right_calls r c A N cap _).mono ?_
  rintro e w1 ⟨rfl, hB1⟩
  rw [HR.out]
  have hba1 := hba.below hB1 hba.lt
  have hbr1 := hbr.below hB1 hbr.lt
  have hBw1 := hBa.trans (hB1.mono (by omega))
  have hs1 := hB1.size
  obtain ⟨p0, p1, p2⟩ := cells3 hba1
  obtain ⟨s0, s1, s2⟩ := cells3 hbr1
  have f0 := hbr1.frozen 0
  have f1 := hbr1.frozen 1
  have f2 := hbr1.frozen 2
  clear hwa hba hbr hB1 hBa n0 n1' n2'
  go_wp2_with fail
  refine (area_nat na c (by rw [HK.out]; omega) _).mono ?_
  rintro e w3 ⟨rfl, rfl⟩
  rw [HK.out]
  go_wp2
  go_loop [27] (fun i => ∃ k : Nat, k ≤ na ∧ i = .int .i64 k ∧ Hid (AllIn (zs.take k) r)) (fun i => na - (intOf i).toNat)
  case atStart => exact ⟨0, Nat.zero_le _, rfl, Lib.hid (fun z hz => by simp at hz)⟩
  case round =>
    obtain ⟨k, hk, rfl, HA⟩ := hrel
    by_cases hkk : k < na
    · have hkz : k < zs.length := by rw [HNa.out]; exact hkk
      obtain ⟨b, off, rfl, hcell⟩ := (HZ.out.below hBw1) k (.int .i64 zs[k]) (by simp [zv, hkz])
      have htk := take_succ' zs hkz
      have hmem : zs[k] ∈ zs := List.getElem_mem hkz
      obtain ⟨z, hz⟩ : ∃ z, zs[k] = z := ⟨_, rfl⟩
      rw [hz] at hcell htk hmem
      have HTk := Lib.hid htk
      have HMem := Lib.hid hmem
      clear htk hz hmem hkz
      by_cases h0 : z < 0
      · have d1 : decide (z < 0) = true := by simpa using h0
        have HBad : Hid (¬ AllIn zs r) := Lib.hid (fun h => by have := (h z HMem.out).1; omega)
        clear h0
        go_wp2
        refine bodyPost_ret (v := .tuple #[.agg #[.int .i64 0, .int .i64 0, .slice none 0 0], .int .i64 2]) (by simp [results, Try.results62, go_sem, s0, s1, s2]) rfl ?_
        exact .inl ⟨HBad.out, none, 0, rfl, Nat.le_refl _, Own.nil _ _ _, below_set3 hBw1 (by omega) _ _ _⟩
      · have d1 : decide (z < 0) = false := by simpa using h0
        by_cases h1 : (r : Int) ≤ z
        · have d2 : decide ((r : Int) ≤ z) = true := by simpa using h1
          have HBad : Hid (¬ AllIn zs r) := Lib.hid (fun h => by have := (h z HMem.out).2; omega)
          clear h0 h1
          go_wp2
          refine bodyPost_ret (v := .tuple #[.agg #[.int .i64 0, .int .i64 0, .slice none 0 0], .int .i64 2]) (by simp [results, Try.results62, go_sem, s0, s1, s2]) rfl ?_
          exact .inl ⟨HBad.out, none, 0, rfl, Nat.le_refl _, Own.nil _ _ _, below_set3 hBw1 (by omega) _ _ _⟩
        · have d2 : decide ((r : Int) ≤ z) = false := by simpa using h1
          have HA2 : Hid (AllIn (zs.take (k + 1)) r) := Lib.hid (fun y hy => by
            rw [HTk.out] at hy
            rcases List.mem_append.1 hy with hy | hy
            · exact HA.out y hy
            · rw [List.mem_singleton] at hy; subst hy; omega)
          clear h0 h1
          go_wp2
          go_round
          case rel => exact ⟨k + 1, by omega, by go_num, HA2⟩
          case measure => simp [intOf]; omega
    · obtain rfl : k = na := by omega
      have hall : AllIn zs r := by have := HA.out; rwa [List.take_of_length_le (by rw [HNa.out]; exact Nat.le_refl _)] at this
      have hcut := cut_calls r c N cap 0 k ca A Aat s (zs.map Int.toNat) (fun j => (zs.getD j 0).toNat) (by rw [List.length_map, HNa.out]) hna2 (fun j hj => by
          have hj2 : j < zs.length := by rw [HNa.out]; exact hj
          simp [List.getD_eq_getElem?_getD, List.getElem?_eq_getElem hj2]) (by omega) (Nat.zero_le _) (by rw [← HN.out]; have := mul_bound16 hr hc; omega) hcap (fun j hj => by
          have hj2 : j < zs.length := by rw [HNa.out]; exact hj
          have h1 := hall zs[j] (List.getElem_mem hj2)
          have e : zs.getD j 0 = zs[j] := by rw [List.getD_eq_getElem?_getD, List.getElem?_eq_getElem hj2]; rfl
          simp only [e]
          refine ⟨?_, by omega⟩
          rw [← HN.out]; exact Nat.mul_le_mul_right c (by omega)) (by rw [Nat.sub_zero, HK.out]; omega) w1 HL.out (HB.out.below hBw1) (by rw [← zv_nat (fun z hz => (hall z hz).1)]; exact HZ.out.below hBw1)
      have HAll := Lib.hid hall
      clear hall
      go_wp2_with fail
      refine hcut.mono ?_
      rintro e w4 ⟨A4, c4, rfl, hc4, hO4, hB4⟩
      rw [Nat.sub_zero]
      have hbr4 := hbr1.below hB4 hbr1.lt
      have hBw4 := hBw1.trans (hB4.mono (by omega))
      obtain ⟨t0, t1, t2⟩ := cells3 hbr4
      have g0 := hbr4.frozen 0
      have g1 := hbr4.frozen 1
      have g2 := hbr4.frozen 2
      clear hcut s0 s1 s2 f0 f1 f2 hB4
      go_wp2
      have hlb := hbr1.lt
      refine bodyPost_ret (v := .tuple #[.agg #[.int .i64 k, .int .i64 c, .slice A4 (partL s c 0 (fun j => (zs.getD j 0).toNat) k).length c4], .int .i64 0]) (by simp [results, Try.results62, go_sem, t0, t1, t2]) rfl ?_
      refine .inr ⟨HAll.out, ?_⟩
      rw [HNa.out]
      exact ⟨A4, c4, rfl, hc4, (own_set3 hO4 (fun e => own_ne hO4 hbr4 (by decide) e) _ _ _).more (by omega), below_set3 hBw4 (by omega) _ _ _⟩
end Go.Proofs.Ytjpbdbgihakpmaa.Mat
