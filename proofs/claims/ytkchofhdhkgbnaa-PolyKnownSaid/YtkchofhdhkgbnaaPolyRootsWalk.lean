/- The walk of PolyRoots. -/
import Derived.Test.YtkchofhdhkgbnaaPolyRefSt
namespace Go.Proofs.Ytkchofhdhkgbnaa.polyRoots
open Go.RowKit F8 GF Poly

set_option maxRecDepth 100000 in
set_option maxHeartbeats 4000000 in
theorem core (S : Poly.Spec) (w : World) (A : Option Addr) (p : List F8) (m c : Nat) (B : Option Addr) (q : List F8) (n d : Nat) (hm : p.length = m) (hbp : Bytes w A (bs p)) (hc : m ≤ c) (hm9 : m ≤ 9223372036854775807) (hn : q.length = n) (hbq : Bytes w B (bs q)) (hd : n ≤ d) (hn9 : n ≤ 9223372036854775807) :
    Calls Try.prog 8 #[.slice A m c, .slice B n d] w fun e w' => e = .returned (.bool true) ∧ Below w.heap.size w w' := by
  by_cases g0 : 20 < m
  · go_enter Try.func8, Try.ntmps8
    go_wp2_with (go_at_call 12; (with_reducible refine (works_calls S _).mono ?_); rintro e w1 ⟨rfl, HN⟩)
    go_ret
    exact ⟨rfl, HN⟩
  have k0 : m ≤ 20 := by omega
  clear g0
  by_cases g1 : 20 < n
  · go_enter Try.func8, Try.ntmps8
    go_wp2_with (go_at_call 12; (with_reducible refine (works_calls S _).mono ?_); rintro e w1 ⟨rfl, HN⟩)
    go_ret
    exact ⟨rfl, HN⟩
  have k1 : n ≤ 20 := by omega
  clear g1
  have HB := Lib.hid hbp
  have HB2 := Lib.hid hbq
  have HS := St.refl w
  obtain ⟨ro, h_ro⟩ : ∃ ro, trim (roots p) = ro := ⟨_, rfl⟩
  have l_ro : ro.length ≤ 21 := by rw [← h_ro, roots_length]; omega
  have e_ro : ∀ y, eval ro y = 0 ↔ y ∈ p := fun y => by rw [← h_ro, eval_trim, eval_roots]
  have d_ro : (len ro : Int) - 1 = (m : Int) := by rw [← h_ro, len_trim, len_roots, hm]; omega
  have HE := Lib.hid e_ro
  have HD := Lib.hid d_ro
  have HM := Lib.hid hm
  have HNl := Lib.hid hn
  have HRo := Lib.hid h_ro
  obtain ⟨dq, hdq⟩ : ∃ dq : Int, (len q : Int) - 1 = dq := ⟨_, rfl⟩
  have lq := len_le q
  have hdq1 : -1 ≤ dq ∧ dq ≤ 20 := by omega
  have HDQ := Lib.hid hdq
  clear e_ro d_ro h_ro hdq hm hn hbp hbq
  go_enter Try.func8, Try.ntmps8
  go_wp2_with fail
  refine (newS _ HS).mono ?_
  rintro e w1 ⟨rfl, HN⟩
  have HW := Lib.hid (((W.start HN).arg HB.out).arg HB2.out)
  clear HS HN
  go_wp2_with fail
  refine (rootsW S A p m c _ HW.out (by simp) HM.out hc (by omega) ro HRo.out).mono ?_
  rintro e w2 ⟨A1, c1, rfl, hc1, HN⟩
  have HW := Lib.hid HN
  clear HN
  go_wp2_with fail
  go_loopw [7, 8] (fun cnt i wr => ∃ k : Nat, ∃ L : List F8, k ≤ 256 ∧ i = .int .i64 k ∧ cnt = .int .i64 (L.length : Nat) ∧ L.length ≤ k ∧ Hid (L.Nodup ∧ (∀ y ∈ L, eval q y = 0) ∧ ∀ y ∈ L, y.n < k) ∧ Hid (W w w.heap.size [(A1, ro), (B, q), (A, p)] wr)) (fun _ i _ => 256 - (intOf i).toNat)
  case atStart => exact ⟨0, [], by omega, rfl, rfl, by simp, Lib.hid (by simp), HW⟩
  case round =>
    clear HW
    obtain ⟨k, L, hk, rfl, rfl, hLk, HL, HW⟩ := hrel
    by_cases hlt : k < 256
    · obtain ⟨wo, rfl⟩ : ∃ wo : World, wo = wr := ⟨_, rfl⟩
      obtain ⟨y, hy⟩ : ∃ y : F8, y.n = k := ⟨⟨k, hlt⟩, rfl⟩
      have hw8 : IntKind.u8.wrap (k : Int) = (y.n : Int) := by rw [IntKind.wrap_u8', hy]; omega
      have hyk : (y.n : Int) = (k : Int) := by omega
      have HY := Lib.hid hy
      have HYK := Lib.hid hyk
      have hd256 : decide ((k : Int) < 256) = true := by simp; omega
      clear hy hyk
      go_wp2
      go_loop [9, 10] (fun r i => ∃ j : Nat, ∃ b : Bool, j ≤ m ∧ i = .int .i64 j ∧ r = .bool b ∧ Hid (b = decide (y ∈ p.take j))) (fun _ i => m - (intOf i).toNat)
      case atStart => exact ⟨0, false, by omega, rfl, rfl, Lib.hid (by simp)⟩
      case round =>
        obtain ⟨j, b1, hj, rfl, rfl, HBj⟩ := hrel
        by_cases hjm : j < m
        · have hjp : j < p.length := by rw [HM.out]; exact hjm
          obtain ⟨b2, o2, rfl⟩ := where_ (HW.out.bytes (A := A) (p := p) (by simp)) (by omega)
          have hcell := cellAt (HW.out.bytes (A := some ⟨b2, o2, none⟩) (p := p) (by simp)) j hjp
          have HT : Hid (decide (y ∈ p.take (j + 1)) = (decide (y ∈ p.take j) || decide (coef p j = y))) := Lib.hid (by
            rw [take_succ' p hjp, ← coef_of_lt hjp]
            simp only [List.mem_append, List.mem_singleton, Bool.decide_or]
            congr 1
            rw [decide_eq_decide]
            exact eq_comm)
          obtain ⟨hcb0, hcb1⟩ := f8_bounds (coef p j)
          cases b1
          · by_cases he : coef p j = y
            · have hbe : (((coef p j).n : Int) == (k : Int)) = true := by rw [he, HYK.out]; simp
              have HX : Hid (true = decide (y ∈ p.take (j + 1))) := Lib.hid (by rw [HT.out, he]; simp)
              clear he HT HBj
              go_wp2
              go_round
              case rel => exact ⟨j + 1, true, by omega, by go_num, rfl, HX⟩
              case measure => simp [intOf]; omega
            · have hbe : (((coef p j).n : Int) == (k : Int)) = false := by rw [← HYK.out]; exact n_beq_false he
              have HX : Hid (false = decide (y ∈ p.take (j + 1))) := Lib.hid (by rw [HT.out, ← HBj.out]; simp [he])
              clear he HT HBj
              go_wp2
              go_round
              case rel => exact ⟨j + 1, false, by omega, by go_num, rfl, HX⟩
              case measure => simp [intOf]; omega
          · have HX : Hid (true = decide (y ∈ p.take (j + 1))) := Lib.hid (by rw [HT.out, ← HBj.out]; rfl)
            clear HT HBj
            go_wp2
            go_round
            case rel => exact ⟨j + 1, true, by omega, by go_num, rfl, HX⟩
            case measure => simp [intOf]; omega
        · obtain rfl : j = m := by omega
          have HTp : Hid (p.take j = p) := Lib.hid (List.take_of_length_le (by rw [HM.out]; exact Nat.le_refl _))
          obtain ⟨z, hz⟩ : ∃ z, eval ro y = z := ⟨_, rfl⟩
          obtain ⟨v, hv⟩ : ∃ v, eval q y = v := ⟨_, rfl⟩
          have hzb : ((z.n : Int) == 0) = b1 := by
            rw [HBj.out, HTp.out, ← hz]
            by_cases hin : y ∈ p
            · rw [(HE.out y).2 hin]; simp [hin]; rfl
            · rw [n_beq0 (fun e => hin ((HE.out y).1 e))]; simp [hin]
          clear hjm HBj HTp
          go_wp2_with fail
          refine (atW S A1 ro ro.length c1 _ HW.out (by simp) rfl hc1 (by omega) y z hz).mono ?_
          rintro e w20 ⟨rfl, HN⟩
          have HW := Lib.hid HN
          clear HN hz
          by_cases hv0 : v = 0
          · subst hv0
            have HL2 : Hid ((y :: L).Nodup ∧ (∀ u ∈ y :: L, eval q u = 0) ∧ ∀ u ∈ y :: L, u.n < k + 1) := Lib.hid (by
              obtain ⟨l1, l2, l3⟩ := HL.out
              refine ⟨List.nodup_cons.2 ⟨fun h => by have := l3 y h; have := HY.out; omega, l1⟩, fun u hu => ?_, fun u hu => ?_⟩
              · rcases List.mem_cons.1 hu with rfl | h
                · exact hv
                · exact l2 u h
              · rcases List.mem_cons.1 hu with rfl | h
                · rw [HY.out]; omega
                · have := l3 u h; omega)
            go_wp2_with fail
            refine (atW S B q n d _ HW.out (by simp) HNl.out hd (by omega) y 0 hv).mono ?_
            rintro e w21 ⟨rfl, HN⟩
            have HW := Lib.hid HN
            clear HN hv
            go_wp2
            go_roundw
            case rel => exact ⟨k + 1, y :: L, by omega, by go_num, by simp, by simp; omega, HL2, HW⟩
            case measure => simp [intOf]; omega
          · have hvn := n_beq0 hv0
            have HL2 : Hid (L.Nodup ∧ (∀ u ∈ L, eval q u = 0) ∧ ∀ u ∈ L, u.n < k + 1) := Lib.hid ⟨HL.out.1, HL.out.2.1, fun u hu => by have := HL.out.2.2 u hu; omega⟩
            go_wp2_with fail
            refine (atW S B q n d _ HW.out (by simp) HNl.out hd (by omega) y v hv).mono ?_
            rintro e w21 ⟨rfl, HN⟩
            have HW := Lib.hid HN
            clear HN hv hv0
            go_wp2
            go_roundw
            case rel => exact ⟨k + 1, L, by omega, by go_num, rfl, by omega, HL2, HW⟩
            case measure => simp [intOf]; omega
    · obtain rfl : k = 256 := by omega
      have HF : dq < 0 ∨ (L.length : Int) ≤ dq := by
        by_cases h0 : 0 < len q
        · have := roots_le h0 HL.out.1 HL.out.2.1
          have := HDQ.out
          omega
        · have := HDQ.out; omega
      clear hlt hk HL
      simp only [Int.cast_ofNat_Int]
      go_wp2_with fail
      refine (degreeW S B q n d _ HW.out (by simp) HNl.out hd (by omega) dq HDQ.out).mono ?_
      rintro e w20 ⟨rfl, HN⟩
      have HW := Lib.hid HN
      clear HN
      go_wp2_with fail
      refine (degreeW S A1 ro ro.length c1 _ HW.out (by simp) rfl hc1 (by omega) (m : Int) HD.out).mono ?_
      rintro e w21 ⟨rfl, HN⟩
      have HW := Lib.hid HN
      clear HN
      by_cases hq0 : dq < 0
      · clear HF
        go_wp2_with (go_at_call 12; (with_reducible refine (works_calls S _).mono ?_); rintro e wz ⟨rfl, HZ⟩)
        go_ret
        exact ⟨rfl, (HW.out.below HZ).bel⟩
      · have hq1 : 0 ≤ dq := by omega
        have hq2 : (L.length : Int) ≤ dq := by omega
        clear HF hq0
        go_wp2_with (go_at_call 12; (with_reducible refine (works_calls S _).mono ?_); rintro e wz ⟨rfl, HZ⟩)
        go_ret
        exact ⟨rfl, (HW.out.below HZ).bel⟩
theorem walk (S : Poly.Spec) (w : World) (A0 : Option Addr) (l0 : List Nat) (c0 : Nat) (hb0 : Bytes w A0 l0) (hc0 : l0.length ≤ c0) (hm0 : c0 ≤ 9223372036854775807) (A1 : Option Addr) (l1 : List Nat) (c1 : Nat) (hb1 : Bytes w A1 l1) (hc1 : l1.length ≤ c1) (hm1 : c1 ≤ 9223372036854775807) :
    Calls Try.prog 8 #[.slice A0 l0.length c0, .slice A1 l1.length c1] w fun e w' => e = .returned (.bool true) ∧ Below w.heap.size w w' := by
  obtain ⟨p0, rfl⟩ := of_bytes l0 hb0.lt
  obtain ⟨p1, rfl⟩ := of_bytes l1 hb1.lt
  exact core S w A0 p0 _ c0 A1 p1 _ c1 (bs_length p0).symm hb0 hc0 (by omega) (bs_length p1).symm hb1 hc1 (by omega)
end Go.Proofs.Ytkchofhdhkgbnaa.polyRoots
