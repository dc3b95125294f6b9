/- The walk of MatrixProducts. -/
import Derived.Test.YthenpfcnpcgfbaaMatWorks
import Derived.Deep.RegionWith
import Derived.BigQuiet
namespace Go.Proofs.Ythenpfcnpcgfbaa.matrixProducts
open Go.RowKit F8 GF Poly Mat

set_option maxRecDepth 100000 in
set_option maxHeartbeats 2000000 in
theorem core (w : World) (Ra Ca : Int) (A : Option Addr) (s : List F8) (n1 c1 : Nat) (hl1 : s.length = n1) (hb1 : Bytes w A (bs s)) (hc1 : n1 ≤ c1)
    (Rb Cb : Int) (B : Option Addr) (t : List F8) (n2 c2 : Nat) (hl2 : t.length = n2) (hb2 : Bytes w B (bs t)) (hc2 : n2 ≤ c2)
    (Rc Cc : Int) (C : Option Addr) (u : List F8) (n3 c3 : Nat) (hl3 : u.length = n3) (hb3 : Bytes w C (bs u)) (hc3 : n3 ≤ c3) :
    Calls Try.prog 6 #[.agg #[.int .i64 Ra, .int .i64 Ca, .slice A n1 c1], .agg #[.int .i64 Rb, .int .i64 Cb, .slice B n2 c2], .agg #[.int .i64 Rc, .int .i64 Cc, .slice C n3 c3]] w fun e w' => e = .returned (.bool true) ∧ Below w.heap.size w w' := by
  obtain ⟨wa, hwa, HQ⟩ := st3 w Ra Ca A n1 c1 Rb Cb B n2 c2 Rc Cc C n3 c3
  have HL1 := Lib.hid hl1
  have HB1 := Lib.hid hb1
  obtain ⟨b1, HS1⟩ : ∃ b, Hid (smallB Ra Ca n1 8 = b) := ⟨_, Lib.hid rfl⟩
  have HL2 := Lib.hid hl2
  have HB2 := Lib.hid hb2
  obtain ⟨b2, HS2⟩ : ∃ b, Hid (smallB Rb Cb n2 8 = b) := ⟨_, Lib.hid rfl⟩
  have HL3 := Lib.hid hl3
  have HB3 := Lib.hid hb3
  obtain ⟨b3, HS3⟩ : ∃ b, Hid (smallB Rc Cc n3 8 = b) := ⟨_, Lib.hid rfl⟩
  clear hl1 hb1 hl2 hb2 hl3 hb3
  obtain ⟨a0, a1, a2⟩ := HQ.at_ (b := w.heap.size) (R := Ra) (C := Ca) (A := A) (n := n1) (c := c1) (by simp)
  go_enter Try.func6, Try.ntmps6
  go_wp2_with fail
  clear hwa
  clear a0 a1 a2
  refine (small8 Ra Ca A n1 c1 _).mono ?_
  rintro e v1 ⟨rfl, hB⟩
  have HQ := HQ.below hB
  clear hB
  rw [HS1.out]
  cases b1
  case false =>
    go_wp2_with (go_at_call 12; (with_reducible refine (works_calls _).mono ?_); rintro e wz ⟨rfl, HZ⟩)
    go_ret
    exact ⟨rfl, (HQ.below HZ).bel⟩
  case true =>
    obtain ⟨b0, b1, b2⟩ := HQ.at_ (b := w.heap.size + 1) (R := Rb) (C := Cb) (A := B) (n := n2) (c := c2) (by simp)
    go_wp2_with fail
    clear b0 b1 b2
    refine (small8 Rb Cb B n2 c2 _).mono ?_
    rintro e v2 ⟨rfl, hB⟩
    have HQ := HQ.below hB
    clear hB
    rw [HS2.out]
    cases b2
    case false =>
      go_wp2_with (go_at_call 12; (with_reducible refine (works_calls _).mono ?_); rintro e wz ⟨rfl, HZ⟩)
      go_ret
      exact ⟨rfl, (HQ.below HZ).bel⟩
    case true =>
      obtain ⟨c0, c1, c2⟩ := HQ.at_ (b := w.heap.size + 2) (R := Rc) (C := Cc) (A := C) (n := n3) (c := c3) (by simp)
      go_wp2_with fail
      clear c0 c1 c2
      refine (small8 Rc Cc C n3 c3 _).mono ?_
      rintro e v3 ⟨rfl, hB⟩
      have HQ := HQ.below hB
      clear hB
      rw [HS3.out]
      cases b3
      case false =>
        go_wp2_with (go_at_call 12; (with_reducible refine (works_calls _).mono ?_); rintro e wz ⟨rfl, HZ⟩)
        go_ret
        exact ⟨rfl, (HQ.below HZ).bel⟩
      case true =>
        go_wp2_with fail
        refine (HQ.new).mono ?_
        rintro e v4 ⟨rfl, HN⟩
        have HW := Lib.hid (((HN.arg HB1.out).arg HB2.out).arg HB3.out)
        clear HN HQ
        obtain ⟨sra, sca, sna⟩ := small_le HS1.out
        obtain ⟨srb, scb, snb⟩ := small_le HS2.out
        obtain ⟨src, scc, snc⟩ := small_le HS3.out
        by_cases x1 : ¬ Fits Ra Ca n1 Rb Cb n2
        · have HX := Lib.hid x1
          clear x1
          obtain ⟨a0, a1, a2⟩ := HW.out.at_ (b := w.heap.size) (R := Ra) (C := Ca) (A := A) (n := n1) (c := c1) (by simp)
          obtain ⟨b0, b1, b2⟩ := HW.out.at_ (b := w.heap.size + 1) (R := Rb) (C := Cb) (A := B) (n := n2) (c := c2) (by simp)
          go_wp2_with fail
          clear a0 a1 a2 b0 b1 b2
          refine (mulW_bad HW.out Ra Ca Rb Cb n1 n2 c1 c2 A B HX.out).mono ?_
          rintro e v5 ⟨A1, d1, rfl, -, HN⟩
          obtain ⟨v5x, hvv5x, -, HN⟩ := HN.var 0 0 A1 0 d1
          have HW := Lib.hid HN
          clear HN
          obtain ⟨b0, b1, b2⟩ := HW.out.at_ (b := w.heap.size + 1) (R := Rb) (C := Cb) (A := B) (n := n2) (c := c2) (by simp)
          obtain ⟨c0, c1, c2⟩ := HW.out.at_ (b := w.heap.size + 2) (R := Rc) (C := Cc) (A := C) (n := n3) (c := c3) (by simp)
          go_wp2_with fail
          clear hvv5x
          clear b0 b1 b2 c0 c1 c2
          refine (mulW_any HW.out Rb Cb Rc Cc n2 n3 c2 c3 B C t u (by simp) (by simp) (by omega) (by omega) (by omega) hc2 hc3 HL2.out HL3.out).mono ?_
          rintro e v6 ⟨rr, cc, N, z, k, A2, d2, rfl, -, HN⟩
          obtain ⟨v6x, hvv6x, -, HN⟩ := HN.var rr cc A2 N d2
          have HW := Lib.hid HN
          clear HN
          go_wp2_with (go_at_call 12; (with_reducible refine (works_calls _).mono ?_); rintro e wz ⟨rfl, HZ⟩)
          go_ret
          exact ⟨rfl, (HW.out.below HZ).bel⟩
        have x1 := Classical.not_not.1 x1
        by_cases x2 : ¬ Fits Rb Cb n2 Rc Cc n3
        · have HX := Lib.hid x2
          obtain ⟨y1, y2, y3⟩ := x1
          obtain ⟨r, n, rfl, rfl, k1, k2, k3⟩ := rightB_iff.1 y1
          obtain ⟨n', m, rfl, rfl, k4, k5, k6⟩ := rightB_iff.1 y2
          obtain rfl : n = n' := by omega
          have hr8 : r ≤ 8 := by omega
          have hn8 : n ≤ 8 := by omega
          have hm8 : m ≤ 8 := by omega
          obtain ⟨ab, hab⟩ : ∃ z, flat r m (mulF n (ent s n) (ent t m)) = z := ⟨_, rfl⟩
          obtain ⟨N3, hN3⟩ : ∃ N, r * m = N := ⟨_, rfl⟩
          have K3 := Lib.hid k3
          have K6 := Lib.hid k6
          have HAB := Lib.hid hab
          have HN3 := Lib.hid hN3
          clear x2 y1 y2 y3 k1 k2 k3 k4 k5 k6 sra sca sna srb scb snb hab hN3
          obtain ⟨a0, a1, a2⟩ := HW.out.at_ (b := w.heap.size) (R := r) (C := n) (A := A) (n := n1) (c := c1) (by simp)
          obtain ⟨b0, b1, b2⟩ := HW.out.at_ (b := w.heap.size + 1) (R := n) (C := m) (A := B) (n := n2) (c := c2) (by simp)
          go_wp2_with fail
          clear a0 a1 a2 b0 b1 b2
          refine (mulW HW.out r n m n1 n2 N3 c1 c2 A B s t ab (by simp) (by simp) (by omega) (by omega) (by omega) K3.out.symm K6.out.symm HN3.out hc1 hc2 HL1.out HL2.out HAB.out).mono ?_
          rintro e v5 ⟨A1, d1, rfl, -, HN⟩
          obtain ⟨v5x, hvv5x, -, HN⟩ := HN.var r m A1 N3 d1
          have HW := Lib.hid HN
          clear HN
          obtain ⟨b0, b1, b2⟩ := HW.out.at_ (b := w.heap.size + 1) (R := n) (C := m) (A := B) (n := n2) (c := c2) (by simp)
          obtain ⟨c0, c1, c2⟩ := HW.out.at_ (b := w.heap.size + 2) (R := Rc) (C := Cc) (A := C) (n := n3) (c := c3) (by simp)
          go_wp2_with fail
          clear hvv5x
          clear b0 b1 b2 c0 c1 c2
          refine (mulW_bad HW.out n m Rc Cc n2 n3 c2 c3 B C HX.out).mono ?_
          rintro e v6 ⟨A2, d2, rfl, -, HN⟩
          obtain ⟨v6x, hvv6x, -, HN⟩ := HN.var 0 0 A2 0 d2
          have HW := Lib.hid HN
          clear HN
          go_wp2_with (go_at_call 12; (with_reducible refine (works_calls _).mono ?_); rintro e wz ⟨rfl, HZ⟩)
          go_ret
          exact ⟨rfl, (HW.out.below HZ).bel⟩
        obtain ⟨y1, y2, y3⟩ := x1
        obtain ⟨z1, z2, z3⟩ := Classical.not_not.1 x2
        clear x2
        obtain ⟨r, n, rfl, rfl, k1, k2, k3⟩ := rightB_iff.1 y1
        obtain ⟨n', m, rfl, rfl, k4, k5, k6⟩ := rightB_iff.1 y2
        obtain ⟨m', q, rfl, rfl, k7, k8, k9⟩ := rightB_iff.1 z2
        obtain rfl : n = n' := by omega
        obtain rfl : m = m' := by omega
        have hr8 : r ≤ 8 := by omega
        have hn8 : n ≤ 8 := by omega
        have hm8 : m ≤ 8 := by omega
        have hq8 : q ≤ 8 := by omega
        have hl1 : s.length = r * n := by rw [HL1.out, k3]
        have hl2 : t.length = n * m := by rw [HL2.out, k6]
        have hl3 : u.length = m * q := by rw [HL3.out, k9]
        obtain ⟨ab, hab⟩ : ∃ z, flat r m (mulF n (ent s n) (ent t m)) = z := ⟨_, rfl⟩
        obtain ⟨Nab, hNab⟩ : ∃ N, r * m = N := ⟨_, rfl⟩
        have hlab : ab.length = Nab := by rw [← hab, flat_length, hNab]
        obtain ⟨bc, hbc⟩ : ∃ z, flat n q (mulF m (ent t m) (ent u q)) = z := ⟨_, rfl⟩
        obtain ⟨Nbc, hNbc⟩ : ∃ N, n * q = N := ⟨_, rfl⟩
        have hlbc : bc.length = Nbc := by rw [← hbc, flat_length, hNbc]
        obtain ⟨x, hx⟩ : ∃ z, flat r q (mulF m (ent ab m) (ent u q)) = z := ⟨_, rfl⟩
        obtain ⟨Nx, hNx⟩ : ∃ N, r * q = N := ⟨_, rfl⟩
        have hlx : x.length = Nx := by rw [← hx, flat_length, hNx]
        obtain ⟨I, hI⟩ : ∃ z, flat r r oneF = z := ⟨_, rfl⟩
        obtain ⟨NI, hNI⟩ : ∃ N, r * r = N := ⟨_, rfl⟩
        have hlI : I.length = NI := by rw [← hI, flat_length, hNI]
        obtain ⟨ta, hta⟩ : ∃ z, flat n r (tr (ent s n)) = z := ⟨_, rfl⟩
        obtain ⟨Nta, hNta⟩ : ∃ N, n * r = N := ⟨_, rfl⟩
        have hlta : ta.length = Nta := by rw [← hta, flat_length, hNta]
        obtain ⟨tb, htb⟩ : ∃ z, flat m n (tr (ent t m)) = z := ⟨_, rfl⟩
        obtain ⟨Ntb, hNtb⟩ : ∃ N, m * n = N := ⟨_, rfl⟩
        have hltb : tb.length = Ntb := by rw [← htb, flat_length, hNtb]
        obtain ⟨tab, htab⟩ : ∃ z, flat m r (tr (ent ab m)) = z := ⟨_, rfl⟩
        obtain ⟨Ntab, hNtab⟩ : ∃ N, m * r = N := ⟨_, rfl⟩
        have hltab : tab.length = Ntab := by rw [← htab, flat_length, hNtab]
        have HY : Hid (flat r q (mulF n (ent s n) (ent bc q)) = x) := Lib.hid (by rw [← hx, ← hab, ← hbc]; exact (mul_group r n m q _ _ _).symm)
        have HOne : Hid (flat r n (mulF r (ent I r) (ent s n)) = s) := Lib.hid (by rw [← hI]; exact mul_one_left hl1)
        have HZz : Hid (flat m r (mulF n (ent tb n) (ent ta r)) = tab) := Lib.hid (by rw [← htb, ← hta, ← htab, ← hab]; exact mul_turned r n m _ _)
        have HBack : Hid (flat r n (tr (ent ta r)) = s) := Lib.hid (by rw [← hta]; exact turned_back hl1)
        have Hab := Lib.hid hab
        have HNab := Lib.hid hNab
        have HLab := Lib.hid hlab
        have Hbc := Lib.hid hbc
        have HNbc := Lib.hid hNbc
        have HLbc := Lib.hid hlbc
        have Hx := Lib.hid hx
        have HNx := Lib.hid hNx
        have HLx := Lib.hid hlx
        have HI := Lib.hid hI
        have HNI := Lib.hid hNI
        have HLI := Lib.hid hlI
        have Hta := Lib.hid hta
        have HNta := Lib.hid hNta
        have HLta := Lib.hid hlta
        have Htb := Lib.hid htb
        have HNtb := Lib.hid hNtb
        have HLtb := Lib.hid hltb
        have Htab := Lib.hid htab
        have HNtab := Lib.hid hNtab
        have HLtab := Lib.hid hltab
        have K3 := Lib.hid k3
        have K6 := Lib.hid k6
        have K9 := Lib.hid k9
        have EC1 : Hid (n * r = n1) := Lib.hid (by rw [k3, Nat.mul_comm])
        have ETB : Hid (m * n = n2) := Lib.hid (by rw [k6, Nat.mul_comm])
        have LTA : Hid (ta.length = n1) := Lib.hid (by rw [← hta, flat_length, k3, Nat.mul_comm])
        have LTB : Hid (tb.length = n2) := Lib.hid (by rw [← htb, flat_length, k6, Nat.mul_comm])
        have LTAB : Hid (tab.length = Nab) := Lib.hid (by rw [← htab, flat_length, ← hNab, Nat.mul_comm])
        have HTab2 : Hid (flat m r (tr (ent ab m)) = tab) := Lib.hid htab
        clear y1 y2 y3 z1 z2 z3 k1 k2 k3 k4 k5 k6 k7 k8 k9 sra sca sna srb scb snb src scc snc hl1 hl2 hl3 hab hNab hlab hbc hNbc hlbc hx hNx hlx hI hNI hlI hta hNta hlta htb hNtb hltb htab hNtab hltab
        obtain ⟨a0, a1, a2⟩ := HW.out.at_ (b := w.heap.size) (R := r) (C := n) (A := A) (n := n1) (c := c1) (by simp)
        obtain ⟨b0, b1, b2⟩ := HW.out.at_ (b := w.heap.size + 1) (R := n) (C := m) (A := B) (n := n2) (c := c2) (by simp)
        go_wp2_with fail
        clear a0 a1 a2 b0 b1 b2
        refine (mulW HW.out r n m n1 n2 Nab c1 c2 A B s t ab (by simp) (by simp) (by omega) (by omega) (by omega) K3.out.symm K6.out.symm HNab.out hc1 hc2 HL1.out HL2.out Hab.out).mono ?_
        rintro e v5 ⟨A1, d1, rfl, hd1, HN⟩
        obtain ⟨v5x, hvv5x, -, HN⟩ := HN.var r m A1 Nab d1
        have HW := Lib.hid HN
        clear HN
        obtain ⟨b0, b1, b2⟩ := HW.out.at_ (b := w.heap.size + 1) (R := n) (C := m) (A := B) (n := n2) (c := c2) (by simp)
        obtain ⟨c0, c1, c2⟩ := HW.out.at_ (b := w.heap.size + 2) (R := m) (C := q) (A := C) (n := n3) (c := c3) (by simp)
        go_wp2_with fail
        clear hvv5x
        clear b0 b1 b2 c0 c1 c2
        refine (mulW HW.out n m q n2 n3 Nbc c2 c3 B C t u bc (by simp) (by simp) (by omega) (by omega) (by omega) K6.out.symm K9.out.symm HNbc.out hc2 hc3 HL2.out HL3.out Hbc.out).mono ?_
        rintro e v6 ⟨A2, d2, rfl, hd2, HN⟩
        obtain ⟨v6x, hvv6x, -, HN⟩ := HN.var n q A2 Nbc d2
        have HW := Lib.hid HN
        clear HN
        obtain ⟨ab0, ab1, ab2⟩ := HW.out.at_ (b := v5.heap.size) (R := r) (C := m) (A := A1) (n := Nab) (c := d1) (by simp)
        obtain ⟨c0, c1, c2⟩ := HW.out.at_ (b := w.heap.size + 2) (R := m) (C := q) (A := C) (n := n3) (c := c3) (by simp)
        go_wp2_with fail
        clear hvv6x
        clear ab0 ab1 ab2 c0 c1 c2
        refine (mulW HW.out r m q Nab n3 Nx d1 c3 A1 C ab u x (by simp) (by simp) (by omega) (by omega) (by omega) HNab.out K9.out.symm HNx.out hd1 hc3 HLab.out HL3.out Hx.out).mono ?_
        rintro e v7 ⟨A3, d3, rfl, hd3, HN⟩
        obtain ⟨v7x, hvv7x, -, HN⟩ := HN.var r q A3 Nx d3
        have HW := Lib.hid HN
        clear HN
        obtain ⟨a0, a1, a2⟩ := HW.out.at_ (b := w.heap.size) (R := r) (C := n) (A := A) (n := n1) (c := c1) (by simp)
        obtain ⟨bc0, bc1, bc2⟩ := HW.out.at_ (b := v6.heap.size) (R := n) (C := q) (A := A2) (n := Nbc) (c := d2) (by simp)
        go_wp2_with fail
        clear hvv7x
        clear a0 a1 a2 bc0 bc1 bc2
        refine (mulW HW.out r n q n1 Nbc Nx c1 d2 A A2 s bc x (by simp) (by simp) (by omega) (by omega) (by omega) K3.out.symm HNbc.out HNx.out hc1 hd2 HL1.out HLbc.out HY.out).mono ?_
        rintro e v8 ⟨A4, d4, rfl, hd4, HN⟩
        obtain ⟨v8x, hvv8x, -, HN⟩ := HN.var r q A4 Nx d4
        have HW := Lib.hid HN
        clear HN
        go_wp2_with fail
        clear hvv8x
        have hd5 := hd1
        apply wp_to_upd (α := Nat × Option Addr × Nat × Option Addr × Nat) (upd := fun zz a => { a with tmps := (((((((((((a.tmps).setIfInBounds 79 (.pointer (some ⟨v3.heap.size, 0, none⟩))).setIfInBounds 80 (.pointer (some ⟨w.heap.size, 0, none⟩))).setIfInBounds 81 (.int .i64 r)).setIfInBounds 82 (.agg #[.int .i64 r, .int .i64 r, .slice zz.2.1 NI zz.2.2.1])).setIfInBounds 83 (.agg #[.int .i64 r, .int .i64 n, .slice A n1 c1])).setIfInBounds 84 (.tuple #[.agg #[.int .i64 r, .int .i64 n, .slice zz.2.2.2.1 n1 zz.2.2.2.2], .int .i64 0])).setIfInBounds 78 (.tuple #[.agg #[.int .i64 r, .int .i64 n, .slice zz.2.2.2.1 n1 zz.2.2.2.2], .int .i64 0])).setIfInBounds 85 (.agg #[.int .i64 r, .int .i64 n, .slice zz.2.2.2.1 n1 zz.2.2.2.2])).setIfInBounds 86 (.int .i64 0)).setIfInBounds 16 (.pointer (some ⟨zz.1, 0, none⟩))).setIfInBounds 17 (.int .i64 0) }) (R := fun zz V => n1 ≤ zz.2.2.2.2 ∧ W w v3.heap.size [(zz.2.2.2.1, s), (A4, x), (A3, x), (A2, bc), (A1, ab), (C, u), (B, t), (A, s)] (⟨zz.1, r, n, zz.2.2.2.1, n1, zz.2.2.2.2⟩ :: [⟨v8.heap.size, r, q, A4, Nx, d4⟩, ⟨v7.heap.size, r, q, A3, Nx, d3⟩, ⟨v6.heap.size, n, q, A2, Nbc, d2⟩, ⟨v5.heap.size, r, m, A1, Nab, d1⟩, ⟨w.heap.size, r, n, A, n1, c1⟩, ⟨w.heap.size + 1, n, m, B, n2, c2⟩, ⟨w.heap.size + 2, m, q, C, n3, c3⟩]) V)
        case h =>
          have hmx : Try.prog.follows .mixedOrders = true := by kernel_rfl
          obtain ⟨S, hSdef⟩ : ∃ S : World → Prop, S = fun V => Bx.In V ⟨w.heap.size, r, n, A, n1, c1⟩ := ⟨_, rfl⟩
          have hSi : ∀ V, Bx.In V ⟨w.heap.size, r, n, A, n1, c1⟩ → S V := fun V h0 => by rw [hSdef]; exact h0
          have hSc : ∀ V, S V → (V.cell? ⟨w.heap.size, 0, none⟩ = some (.int .i64 r) ∧ V.cell? ⟨w.heap.size, 1, none⟩ = some (.int .i64 n) ∧ V.cell? ⟨w.heap.size, 2, none⟩ = some (.slice A n1 c1)) := fun V hV => by rw [hSdef] at hV; exact cells3 hV
          clear hSdef
          have HW := Lib.hid HW.out.drew
          have hS1 : S v8x.drew := hSi _ (HW.out.bx ⟨w.heap.size, r, n, A, n1, c1⟩ (by simp))
          refine wp_region_held (S := S) hmx ?_
          refine wpAnyH_takeD (i := 0) (some 79) (.pointer (some ⟨v3.heap.size, 0, none⟩)) rfl rfl (by kernel_rfl) (by kernel_rfl) (by kernel_rfl) (fun _ _ _ h => by cases h.1) (Or.inl ⟨by kernel_rfl, fun W hW => by go_simp⟩) hS1 ?_
          simp only [Act.put, List.setIfInBounds_toArray, List.set_cons_zero, List.set_cons_succ]
          refine wpAnyH_takeD (i := 1) (some 80) (.pointer (some ⟨w.heap.size, 0, none⟩)) rfl rfl (by kernel_rfl) (by kernel_rfl) (by kernel_rfl) (fun _ _ _ h => by cases h.1) (Or.inl ⟨by kernel_rfl, fun W hW => by go_simp⟩) hS1 ?_
          simp only [Act.put, List.setIfInBounds_toArray, List.set_cons_zero, List.set_cons_succ]
          refine wpAnyH_takeD (i := 2) (some 81) (.int .i64 r) rfl rfl (by kernel_rfl) (by kernel_rfl) (by kernel_rfl) (fun _ _ _ h => by cases h.1) (Or.inl ⟨by kernel_rfl, fun W hW => by obtain ⟨s0, s1, s2⟩ := hSc W hW; go_simp⟩) hS1 ?_
          simp only [Act.put, List.setIfInBounds_toArray, List.set_cons_zero, List.set_cons_succ]
          refine wpAnyH_takeD (i := 4) (some 83) (.agg #[.int .i64 r, .int .i64 n, .slice A n1 c1]) rfl rfl (by kernel_rfl) (by kernel_rfl) (by kernel_rfl) (fun _ _ _ h => by cases h.1) (Or.inl ⟨by kernel_rfl, fun W hW => by obtain ⟨s0, s1, s2⟩ := hSc W hW; go_simp⟩) hS1 ?_
          simp only [Act.put, List.setIfInBounds_toArray, List.set_cons_zero, List.set_cons_succ]
          refine wpAnyH_two (i := 3) (j := 9) (by kernel_rfl) rfl rfl (by kernel_rfl) (by kernel_rfl) ?_ ?_
          · skip
            go_simp
            refine (oneW HW.out r NI I (by omega) HNI.out HI.out).mono ?_
            rintro e v9 ⟨A5, d5, rfl, hd5, HN⟩
            have HW := Lib.hid HN
            clear HN
            have hS2 : S v9 := hSi _ (HW.out.bx ⟨w.heap.size, r, n, A, n1, c1⟩ (by simp))
            show S v9 ∧ _
            refine ⟨hS2, ?_⟩
            refine wpAnyH_two (i := 5) (j := 9) (by kernel_rfl) rfl rfl (by kernel_rfl) (by kernel_rfl) ?_ ?_
            · skip
              go_simp
              refine (mulW HW.out r r n NI n1 n1 d5 c1 A5 A I s s (by simp) (by simp) (by omega) (by omega) (by omega) HNI.out K3.out.symm K3.out.symm hd5 hc1 HLI.out HL1.out HOne.out).mono ?_
              rintro e v10 ⟨A6, d6, rfl, hd6, HN⟩
              have HW := Lib.hid HN
              clear HN
              have hS3 : S v10 := hSi _ (HW.out.bx ⟨w.heap.size, r, n, A, n1, c1⟩ (by simp))
              show S v10 ∧ _
              refine ⟨hS3, ?_⟩
              refine wpAnyH_takeD (i := 6) (some 78) (.tuple #[.agg #[.int .i64 r, .int .i64 n, .slice A6 n1 d6], .int .i64 0]) rfl rfl (by kernel_rfl) (by kernel_rfl) (by kernel_rfl) (fun _ _ _ h => by cases h.1) (Or.inl ⟨by kernel_rfl, fun W hW => by go_simp⟩) hS3 ?_
              simp only [Act.put, List.setIfInBounds_toArray, List.set_cons_zero, List.set_cons_succ]
              refine wpAnyH_takeD (i := 7) (some 85) (.agg #[.int .i64 r, .int .i64 n, .slice A6 n1 d6]) rfl rfl (by kernel_rfl) (by kernel_rfl) (by kernel_rfl) (fun _ _ _ h => by cases h.1) (Or.inl ⟨by kernel_rfl, fun W hW => by go_simp⟩) hS3 ?_
              simp only [Act.put, List.setIfInBounds_toArray, List.set_cons_zero, List.set_cons_succ]
              refine wpAnyH_takeD (i := 8) (some 86) (.int .i64 0) rfl rfl (by kernel_rfl) (by kernel_rfl) (by kernel_rfl) (fun _ _ _ h => by cases h.1) (Or.inl ⟨by kernel_rfl, fun W hW => by go_simp⟩) hS3 ?_
              simp only [Act.put, List.setIfInBounds_toArray, List.set_cons_zero, List.set_cons_succ]
              refine wpAnyH_one (i := 9) (by kernel_rfl) rfl (by kernel_rfl) ?_
              obtain ⟨bo, hbo⟩ : ∃ b, v10.heap.size = b := ⟨_, rfl⟩
              have hfresh := HW.out.fresh
              rw [hbo] at hfresh
              have hle : w.heap.size ≤ bo := by rw [← hbo]; exact HW.out.st.le
              obtain ⟨v10x, hvv10x, -, HN⟩ := HW.out.var 0 0 none 0 0
              rw [hbo] at HN
              have hbx0 := HN.bx _ (List.mem_cons_self ..)
              have HW := Lib.hid HN
              clear HN
              go_simp
              have hS4 : S v10x := hSi _ (HW.out.bx ⟨w.heap.size, r, n, A, n1, c1⟩ (by simp))
              refine ⟨hS4, ?_⟩
              refine wpAnyH_one (i := 10) (by kernel_rfl) rfl (by kernel_rfl) ?_
              have f0 := (HW.out.bx ⟨bo, 0, 0, none, 0, 0⟩ (by simp)).frozen 0
              have f1 := (HW.out.bx ⟨bo, 0, 0, none, 0, 0⟩ (by simp)).frozen 1
              have f2 := (HW.out.bx ⟨bo, 0, 0, none, 0, 0⟩ (by simp)).frozen 2
              obtain ⟨y0, y1, y2⟩ := HW.out.at_ (b := bo) (R := 0) (C := 0) (A := none) (n := 0) (c := 0) (by simp)
              obtain ⟨vy, hvvy, HN⟩ := HW.out.put (b := bo) (R0 := 0) (C0 := 0) (A0 := none) (n0 := 0) (c0 := 0) (by simp) hle [⟨v8.heap.size, r, q, A4, Nx, d4⟩, ⟨v7.heap.size, r, q, A3, Nx, d3⟩, ⟨v6.heap.size, n, q, A2, Nbc, d2⟩, ⟨v5.heap.size, r, m, A1, Nab, d1⟩, ⟨w.heap.size, r, n, A, n1, c1⟩, ⟨w.heap.size + 1, n, m, B, n2, c2⟩, ⟨w.heap.size + 2, m, q, C, n3, c3⟩] (fun y hy => ⟨by simp at hy ⊢; simp [hy], hfresh y (by simp at hy ⊢; simp [hy])⟩) r n A6 n1 d6
              have HW := Lib.hid HN
              clear HN
              go_simp
              have hS5 : S vy := hSi _ (HW.out.bx ⟨w.heap.size, r, n, A, n1, c1⟩ (by simp))
              refine ⟨hS5, ?_⟩
              refine wpAnyH_takeD (i := 11) (some 17) (.int .i64 0) rfl rfl (by kernel_rfl) (by kernel_rfl) (by kernel_rfl) (fun _ _ _ h => by cases h.1) (Or.inl ⟨by kernel_rfl, fun W hW => by go_simp⟩) hS5 ?_
              simp only [Act.put, List.setIfInBounds_toArray, List.set_cons_zero, List.set_cons_succ]
              refine wpAnyH_done (by kernel_rfl) ?_ _
              exact ⟨rfl, bo, A5, d5, A6, d6, rfl, hd6, HW.out.sub (by simp)⟩
            · skip
              obtain ⟨bo, hbo⟩ : ∃ b, v9.heap.size = b := ⟨_, rfl⟩
              have hfresh := HW.out.fresh
              rw [hbo] at hfresh
              have hle : w.heap.size ≤ bo := by rw [← hbo]; exact HW.out.st.le
              obtain ⟨v9x, hvv9x, -, HN⟩ := HW.out.var 0 0 none 0 0
              rw [hbo] at HN
              have hbx0 := HN.bx _ (List.mem_cons_self ..)
              have HW := Lib.hid HN
              clear HN
              go_simp
              have hS3 : S v9x := hSi _ (HW.out.bx ⟨w.heap.size, r, n, A, n1, c1⟩ (by simp))
              refine ⟨hS3, ?_⟩
              refine wpAnyH_one (i := 5) (by kernel_rfl) rfl (by kernel_rfl) ?_
              go_simp
              refine (mulW HW.out r r n NI n1 n1 d5 c1 A5 A I s s (by simp) (by simp) (by omega) (by omega) (by omega) HNI.out K3.out.symm K3.out.symm hd5 hc1 HLI.out HL1.out HOne.out).mono ?_
              rintro e v10 ⟨A6, d6, rfl, hd6, HN⟩
              have HW := Lib.hid HN
              clear HN
              have hS4 : S v10 := hSi _ (HW.out.bx ⟨w.heap.size, r, n, A, n1, c1⟩ (by simp))
              show S v10 ∧ _
              refine ⟨hS4, ?_⟩
              refine wpAnyH_takeD (i := 6) (some 78) (.tuple #[.agg #[.int .i64 r, .int .i64 n, .slice A6 n1 d6], .int .i64 0]) rfl rfl (by kernel_rfl) (by kernel_rfl) (by kernel_rfl) (fun _ _ _ h => by cases h.1) (Or.inl ⟨by kernel_rfl, fun W hW => by go_simp⟩) hS4 ?_
              simp only [Act.put, List.setIfInBounds_toArray, List.set_cons_zero, List.set_cons_succ]
              refine wpAnyH_takeD (i := 7) (some 85) (.agg #[.int .i64 r, .int .i64 n, .slice A6 n1 d6]) rfl rfl (by kernel_rfl) (by kernel_rfl) (by kernel_rfl) (fun _ _ _ h => by cases h.1) (Or.inl ⟨by kernel_rfl, fun W hW => by go_simp⟩) hS4 ?_
              simp only [Act.put, List.setIfInBounds_toArray, List.set_cons_zero, List.set_cons_succ]
              refine wpAnyH_takeD (i := 8) (some 86) (.int .i64 0) rfl rfl (by kernel_rfl) (by kernel_rfl) (by kernel_rfl) (fun _ _ _ h => by cases h.1) (Or.inl ⟨by kernel_rfl, fun W hW => by go_simp⟩) hS4 ?_
              simp only [Act.put, List.setIfInBounds_toArray, List.set_cons_zero, List.set_cons_succ]
              refine wpAnyH_one (i := 10) (by kernel_rfl) rfl (by kernel_rfl) ?_
              have f0 := (HW.out.bx ⟨bo, 0, 0, none, 0, 0⟩ (by simp)).frozen 0
              have f1 := (HW.out.bx ⟨bo, 0, 0, none, 0, 0⟩ (by simp)).frozen 1
              have f2 := (HW.out.bx ⟨bo, 0, 0, none, 0, 0⟩ (by simp)).frozen 2
              obtain ⟨y0, y1, y2⟩ := HW.out.at_ (b := bo) (R := 0) (C := 0) (A := none) (n := 0) (c := 0) (by simp)
              obtain ⟨vy, hvvy, HN⟩ := HW.out.put (b := bo) (R0 := 0) (C0 := 0) (A0 := none) (n0 := 0) (c0 := 0) (by simp) hle [⟨v8.heap.size, r, q, A4, Nx, d4⟩, ⟨v7.heap.size, r, q, A3, Nx, d3⟩, ⟨v6.heap.size, n, q, A2, Nbc, d2⟩, ⟨v5.heap.size, r, m, A1, Nab, d1⟩, ⟨w.heap.size, r, n, A, n1, c1⟩, ⟨w.heap.size + 1, n, m, B, n2, c2⟩, ⟨w.heap.size + 2, m, q, C, n3, c3⟩] (fun y hy => ⟨by simp at hy ⊢; simp [hy], hfresh y (by simp at hy ⊢; simp [hy])⟩) r n A6 n1 d6
              have HW := Lib.hid HN
              clear HN
              go_simp
              have hS5 : S vy := hSi _ (HW.out.bx ⟨w.heap.size, r, n, A, n1, c1⟩ (by simp))
              refine ⟨hS5, ?_⟩
              refine wpAnyH_takeD (i := 11) (some 17) (.int .i64 0) rfl rfl (by kernel_rfl) (by kernel_rfl) (by kernel_rfl) (fun _ _ _ h => by cases h.1) (Or.inl ⟨by kernel_rfl, fun W hW => by go_simp⟩) hS5 ?_
              simp only [Act.put, List.setIfInBounds_toArray, List.set_cons_zero, List.set_cons_succ]
              refine wpAnyH_done (by kernel_rfl) ?_ _
              exact ⟨rfl, bo, A5, d5, A6, d6, rfl, hd6, HW.out.sub (by simp)⟩
          · skip
            obtain ⟨bo, hbo⟩ : ∃ b, v8x.drew.heap.size = b := ⟨_, rfl⟩
            have hfresh := HW.out.fresh
            rw [hbo] at hfresh
            have hle : w.heap.size ≤ bo := by rw [← hbo]; exact HW.out.st.le
            obtain ⟨v8xdx, hvv8xdx, -, HN⟩ := HW.out.var 0 0 none 0 0
            rw [hbo] at HN
            have hbx0 := HN.bx _ (List.mem_cons_self ..)
            have HW := Lib.hid HN
            clear HN
            go_simp
            have hS2 : S v8xdx := hSi _ (HW.out.bx ⟨w.heap.size, r, n, A, n1, c1⟩ (by simp))
            refine ⟨hS2, ?_⟩
            refine wpAnyH_one (i := 3) (by kernel_rfl) rfl (by kernel_rfl) ?_
            go_simp
            refine (oneW HW.out r NI I (by omega) HNI.out HI.out).mono ?_
            rintro e v9 ⟨A5, d5, rfl, hd5, HN⟩
            have HW := Lib.hid HN
            clear HN
            have hS3 : S v9 := hSi _ (HW.out.bx ⟨w.heap.size, r, n, A, n1, c1⟩ (by simp))
            show S v9 ∧ _
            refine ⟨hS3, ?_⟩
            refine wpAnyH_one (i := 5) (by kernel_rfl) rfl (by kernel_rfl) ?_
            go_simp
            refine (mulW HW.out r r n NI n1 n1 d5 c1 A5 A I s s (by simp) (by simp) (by omega) (by omega) (by omega) HNI.out K3.out.symm K3.out.symm hd5 hc1 HLI.out HL1.out HOne.out).mono ?_
            rintro e v10 ⟨A6, d6, rfl, hd6, HN⟩
            have HW := Lib.hid HN
            clear HN
            have hS4 : S v10 := hSi _ (HW.out.bx ⟨w.heap.size, r, n, A, n1, c1⟩ (by simp))
            show S v10 ∧ _
            refine ⟨hS4, ?_⟩
            refine wpAnyH_takeD (i := 6) (some 78) (.tuple #[.agg #[.int .i64 r, .int .i64 n, .slice A6 n1 d6], .int .i64 0]) rfl rfl (by kernel_rfl) (by kernel_rfl) (by kernel_rfl) (fun _ _ _ h => by cases h.1) (Or.inl ⟨by kernel_rfl, fun W hW => by go_simp⟩) hS4 ?_
            simp only [Act.put, List.setIfInBounds_toArray, List.set_cons_zero, List.set_cons_succ]
            refine wpAnyH_takeD (i := 7) (some 85) (.agg #[.int .i64 r, .int .i64 n, .slice A6 n1 d6]) rfl rfl (by kernel_rfl) (by kernel_rfl) (by kernel_rfl) (fun _ _ _ h => by cases h.1) (Or.inl ⟨by kernel_rfl, fun W hW => by go_simp⟩) hS4 ?_
            simp only [Act.put, List.setIfInBounds_toArray, List.set_cons_zero, List.set_cons_succ]
            refine wpAnyH_takeD (i := 8) (some 86) (.int .i64 0) rfl rfl (by kernel_rfl) (by kernel_rfl) (by kernel_rfl) (fun _ _ _ h => by cases h.1) (Or.inl ⟨by kernel_rfl, fun W hW => by go_simp⟩) hS4 ?_
            simp only [Act.put, List.setIfInBounds_toArray, List.set_cons_zero, List.set_cons_succ]
            refine wpAnyH_one (i := 10) (by kernel_rfl) rfl (by kernel_rfl) ?_
            have f0 := (HW.out.bx ⟨bo, 0, 0, none, 0, 0⟩ (by simp)).frozen 0
            have f1 := (HW.out.bx ⟨bo, 0, 0, none, 0, 0⟩ (by simp)).frozen 1
            have f2 := (HW.out.bx ⟨bo, 0, 0, none, 0, 0⟩ (by simp)).frozen 2
            obtain ⟨y0, y1, y2⟩ := HW.out.at_ (b := bo) (R := 0) (C := 0) (A := none) (n := 0) (c := 0) (by simp)
            obtain ⟨vy, hvvy, HN⟩ := HW.out.put (b := bo) (R0 := 0) (C0 := 0) (A0 := none) (n0 := 0) (c0 := 0) (by simp) hle [⟨v8.heap.size, r, q, A4, Nx, d4⟩, ⟨v7.heap.size, r, q, A3, Nx, d3⟩, ⟨v6.heap.size, n, q, A2, Nbc, d2⟩, ⟨v5.heap.size, r, m, A1, Nab, d1⟩, ⟨w.heap.size, r, n, A, n1, c1⟩, ⟨w.heap.size + 1, n, m, B, n2, c2⟩, ⟨w.heap.size + 2, m, q, C, n3, c3⟩] (fun y hy => ⟨by simp at hy ⊢; simp [hy], hfresh y (by simp at hy ⊢; simp [hy])⟩) r n A6 n1 d6
            have HW := Lib.hid HN
            clear HN
            go_simp
            have hS5 : S vy := hSi _ (HW.out.bx ⟨w.heap.size, r, n, A, n1, c1⟩ (by simp))
            refine ⟨hS5, ?_⟩
            refine wpAnyH_takeD (i := 11) (some 17) (.int .i64 0) rfl rfl (by kernel_rfl) (by kernel_rfl) (by kernel_rfl) (fun _ _ _ h => by cases h.1) (Or.inl ⟨by kernel_rfl, fun W hW => by go_simp⟩) hS5 ?_
            simp only [Act.put, List.setIfInBounds_toArray, List.set_cons_zero, List.set_cons_succ]
            refine wpAnyH_done (by kernel_rfl) ?_ _
            exact ⟨rfl, bo, A5, d5, A6, d6, rfl, hd6, HW.out.sub (by simp)⟩
        case hK =>
          rintro ⟨bo, A5, d5, A6, d6⟩ v9 ⟨hd6, HN⟩
          simp only [List.setIfInBounds_toArray, List.set_cons_zero, List.set_cons_succ] at hd6 HN ⊢
          have HW := Lib.hid HN
          clear HN
          obtain ⟨a0, a1, a2⟩ := HW.out.at_ (b := w.heap.size) (R := r) (C := n) (A := A) (n := n1) (c := c1) (by simp)
          go_wp2_with fail
          clear a0 a1 a2
          refine (turnedW HW.out r n n1 c1 A s ta (by simp) (by omega) (by omega) K3.out.symm hc1 HL1.out Hta.out).mono ?_
          rintro e v10 ⟨A7, d7, rfl, hd7, HN⟩
          obtain ⟨v10x, hvv10x, -, HN⟩ := HN.var n r A7 n1 d7
          have HW := Lib.hid HN
          clear HN
          obtain ⟨b0, b1, b2⟩ := HW.out.at_ (b := w.heap.size + 1) (R := n) (C := m) (A := B) (n := n2) (c := c2) (by simp)
          go_wp2_with fail
          clear hvv10x
          clear b0 b1 b2
          refine (turnedW HW.out n m n2 c2 B t tb (by simp) (by omega) (by omega) K6.out.symm hc2 HL2.out Htb.out).mono ?_
          rintro e v11 ⟨A8, d8, rfl, hd8, HN⟩
          obtain ⟨v11x, hvv11x, -, HN⟩ := HN.var m n A8 n2 d8
          have HW := Lib.hid HN
          clear HN
          obtain ⟨ab0, ab1, ab2⟩ := HW.out.at_ (b := v5.heap.size) (R := r) (C := m) (A := A1) (n := Nab) (c := d1) (by simp)
          go_wp2_with fail
          clear hvv11x
          clear ab0 ab1 ab2
          refine (turnedW HW.out r m Nab d1 A1 ab tab (by simp) (by omega) (by omega) HNab.out hd1 HLab.out Htab.out).mono ?_
          rintro e v12 ⟨A9, d9, rfl, hd9, HN⟩
          obtain ⟨v12x, hvv12x, -, HN⟩ := HN.var m r A9 Nab d9
          have HW := Lib.hid HN
          clear HN
          obtain ⟨tb0, tb1, tb2⟩ := HW.out.at_ (b := v11.heap.size) (R := m) (C := n) (A := A8) (n := n2) (c := d8) (by simp)
          obtain ⟨ta0, ta1, ta2⟩ := HW.out.at_ (b := v10.heap.size) (R := n) (C := r) (A := A7) (n := n1) (c := d7) (by simp)
          go_wp2_with fail
          clear hvv12x
          clear tb0 tb1 tb2 ta0 ta1 ta2
          refine (mulW HW.out m n r n2 n1 Ntab d8 d7 A8 A7 tb ta tab (by simp) (by simp) (by omega) (by omega) (by omega) ETB.out EC1.out HNtab.out hd8 hd7 LTB.out LTA.out HZz.out).mono ?_
          rintro e v13 ⟨A10, d10, rfl, hd10, HN⟩
          obtain ⟨v13x, hvv13x, -, HN⟩ := HN.var m r A10 Ntab d10
          have HW := Lib.hid HN
          clear HN
          obtain ⟨ta0, ta1, ta2⟩ := HW.out.at_ (b := v10.heap.size) (R := n) (C := r) (A := A7) (n := n1) (c := d7) (by simp)
          go_wp2_with fail
          clear hvv13x
          clear ta0 ta1 ta2
          refine (turnedW HW.out n r n1 d7 A7 ta s (by simp) (by omega) (by omega) EC1.out hd7 LTA.out HBack.out).mono ?_
          rintro e v14 ⟨A11, d11, rfl, hd11, HN⟩
          obtain ⟨v14x, hvv14x, -, HN⟩ := HN.var r n A11 n1 d11
          have HW := Lib.hid HN
          clear HN
          obtain ⟨x0, x1, x2⟩ := HW.out.at_ (b := v7.heap.size) (R := r) (C := q) (A := A3) (n := Nx) (c := d3) (by simp)
          obtain ⟨y0, y1, y2⟩ := HW.out.at_ (b := v8.heap.size) (R := r) (C := q) (A := A4) (n := Nx) (c := d4) (by simp)
          go_wp2_with fail
          clear hvv14x
          clear x0 x1 x2 y0 y1 y2
          refine (msameW HW.out r q r q A3 A4 x x Nx Nx d3 d4 (by simp) (by simp) HLx.out HLx.out true (sameB_refl _ _ _)).mono ?_
          rintro e v15 ⟨rfl, HN, -⟩
          have HW := Lib.hid HN
          clear HN
          obtain ⟨one0, one1, one2⟩ := HW.out.at_ (b := bo) (R := r) (C := n) (A := A6) (n := n1) (c := d6) (by simp)
          obtain ⟨a0, a1, a2⟩ := HW.out.at_ (b := w.heap.size) (R := r) (C := n) (A := A) (n := n1) (c := c1) (by simp)
          go_wp2_with fail
          clear one0 one1 one2 a0 a1 a2
          refine (msameW HW.out r n r n A6 A s s n1 n1 d6 c1 (by simp) (by simp) HL1.out HL1.out true (sameB_refl _ _ _)).mono ?_
          rintro e v16 ⟨rfl, HN, -⟩
          have HW := Lib.hid HN
          clear HN
          obtain ⟨z0, z1, z2⟩ := HW.out.at_ (b := v13.heap.size) (R := m) (C := r) (A := A10) (n := Ntab) (c := d10) (by simp)
          obtain ⟨tab0, tab1, tab2⟩ := HW.out.at_ (b := v12.heap.size) (R := m) (C := r) (A := A9) (n := Nab) (c := d9) (by simp)
          go_wp2_with fail
          clear z0 z1 z2 tab0 tab1 tab2
          refine (msameW HW.out m r m r A10 A9 tab tab Ntab Nab d10 d9 (by simp) (by simp) HLtab.out LTAB.out true (sameB_refl _ _ _)).mono ?_
          rintro e v17 ⟨rfl, HN, -⟩
          have HW := Lib.hid HN
          clear HN
          obtain ⟨back0, back1, back2⟩ := HW.out.at_ (b := v14.heap.size) (R := r) (C := n) (A := A11) (n := n1) (c := d11) (by simp)
          obtain ⟨a0, a1, a2⟩ := HW.out.at_ (b := w.heap.size) (R := r) (C := n) (A := A) (n := n1) (c := c1) (by simp)
          go_wp2_with fail
          clear back0 back1 back2 a0 a1 a2
          refine (msameW HW.out r n r n A11 A s s n1 n1 d11 c1 (by simp) (by simp) HL1.out HL1.out true (sameB_refl _ _ _)).mono ?_
          rintro e v18 ⟨rfl, HN, -⟩
          have HW := Lib.hid HN
          clear HN
          go_wp2_with (go_at_call 12; (with_reducible refine (works_calls _).mono ?_); rintro e wz ⟨rfl, HZ⟩)
          go_ret
          exact ⟨rfl, (HW.out.below HZ).bel⟩
theorem walk (w : World) (R0 C0 : Int) (A0 : Option Addr) (l0 : List Nat) (c0 : Nat) (_hR0 : -9223372036854775808 ≤ R0 ∧ R0 < 9223372036854775808) (_hC0 : -9223372036854775808 ≤ C0 ∧ C0 < 9223372036854775808) (hb0 : Bytes w A0 l0) (hc0 : l0.length ≤ c0) (_hm0 : c0 ≤ 9223372036854775807) (R1 C1 : Int) (A1 : Option Addr) (l1 : List Nat) (c1 : Nat) (_hR1 : -9223372036854775808 ≤ R1 ∧ R1 < 9223372036854775808) (_hC1 : -9223372036854775808 ≤ C1 ∧ C1 < 9223372036854775808) (hb1 : Bytes w A1 l1) (hc1 : l1.length ≤ c1) (_hm1 : c1 ≤ 9223372036854775807) (R2 C2 : Int) (A2 : Option Addr) (l2 : List Nat) (c2 : Nat) (_hR2 : -9223372036854775808 ≤ R2 ∧ R2 < 9223372036854775808) (_hC2 : -9223372036854775808 ≤ C2 ∧ C2 < 9223372036854775808) (hb2 : Bytes w A2 l2) (hc2 : l2.length ≤ c2) (_hm2 : c2 ≤ 9223372036854775807) :
    Calls Try.prog 6 #[.agg #[.int .i64 R0, .int .i64 C0, .slice A0 l0.length c0], .agg #[.int .i64 R1, .int .i64 C1, .slice A1 l1.length c1], .agg #[.int .i64 R2, .int .i64 C2, .slice A2 l2.length c2]] w fun e w' => e = .returned (.bool true) ∧ Below w.heap.size w w' := by
  obtain ⟨p0, rfl⟩ := of_bytes l0 hb0.lt
  obtain ⟨p1, rfl⟩ := of_bytes l1 hb1.lt
  obtain ⟨p2, rfl⟩ := of_bytes l2 hb2.lt
  exact core w R0 C0 A0 p0 _ c0 (bs_length p0).symm hb0 hc0 R1 C1 A1 p1 _ c1 (bs_length p1).symm hb1 hc1 R2 C2 A2 p2 _ c2 (bs_length p2).symm hb2 hc2
end Go.Proofs.Ythenpfcnpcgfbaa.matrixProducts
