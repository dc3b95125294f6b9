/- Small, and the examples of layer 5: their walk. -/
import Derived.Test.YtidelegamdibgaaMatSt
import Derived.Test.YtidelegamdibgaaMatLaw
import Derived.Test.YtidelegamdibgaaPolySame
namespace Go.Proofs.Ytidelegamdibgaa.Mat
open Go.RowKit F8 Poly GF
attribute [local go_sem] Oper.semAt_some

/-- Is it small? -/
def smallB (R C : Int) (n t : Nat) : Bool := decide (R ≤ t ∧ C ≤ t ∧ n ≤ t * t + 9)
set_option maxHeartbeats 1000000 in
theorem small_calls (R C : Int) (A : Option Addr) (n c : Nat) (t : Nat) (ht : t ≤ 100) (w : World) :
    Calls Try.prog 11 #[.agg #[.int .i64 R, .int .i64 C, .slice A n c], .int .i64 t] w fun e w' => e = .returned (.bool (smallB R C n t)) ∧ Below w.heap.size w w' := by
  have hB : Below w.heap.size w (w.alloc (.cells #[.int .i64 R, .int .i64 C, .slice A n c] 24)) := (Below.refl _ _).alloc (Nat.le_refl _) _
  obtain ⟨l0, l1, l2⟩ := cells3 (Block.new w 24 #[.int .i64 R, .int .i64 C, .slice A n c])
  have htt := mul_bound ht ht
  obtain ⟨T, hT⟩ : ∃ T : Nat, t * t = T := ⟨_, rfl⟩
  have hTi : (t : Int) * (t : Int) = (T : Int) := by rw [← Int.natCast_mul, hT]
  have HT := Lib.hid hT
  rw [hT] at htt
  by_cases h1 : R ≤ t
  · by_cases h2 : C ≤ t
    · have HS : Hid (smallB R C n t = decide ((n : Int) ≤ (T : Int) + 9)) := Lib.hid (by unfold smallB; rw [HT.out, decide_eq_decide]; omega)
      have k1 : decide (R ≤ (t : Int)) = true := by simp [h1]
      have k2 : decide (C ≤ (t : Int)) = true := by simp [h2]
      clear h1 h2 hT
      go_enter Try.func11, Try.ntmps11
      go_wp2
      go_ret
      exact ⟨GF.ret_bool (by rw [HS.out]), hB⟩
    · have HS : Hid (smallB R C n t = false) := Lib.hid (by unfold smallB; simp; omega)
      have k1 : decide (R ≤ (t : Int)) = true := by simp [h1]
      have k2 : decide (C ≤ (t : Int)) = false := by simp; omega
      clear h1 h2 hT
      go_enter Try.func11, Try.ntmps11
      go_wp2
      go_ret
      exact ⟨GF.ret_bool HS.out.symm, hB⟩
  · have HS : Hid (smallB R C n t = false) := Lib.hid (by unfold smallB; simp; omega)
    have k1 : decide (R ≤ (t : Int)) = false := by simp; omega
    clear h1 hT
    go_enter Try.func11, Try.ntmps11
    go_wp2
    go_ret
    exact ⟨GF.ret_bool HS.out.symm, hB⟩

theorem small8 (R C : Int) (A : Option Addr) (n c : Nat) (w : World) :
    Calls Try.prog 11 #[.agg #[.int .i64 R, .int .i64 C, .slice A n c], .int .i64 8] w fun e w' => e = .returned (.bool (smallB R C n 8)) ∧ Below w.heap.size w w' := small_calls R C A n c 8 (by omega) w
theorem small12 (R C : Int) (A : Option Addr) (n c : Nat) (w : World) :
    Calls Try.prog 11 #[.agg #[.int .i64 R, .int .i64 C, .slice A n c], .int .i64 12] w fun e w' => e = .returned (.bool (smallB R C n 12)) ∧ Below w.heap.size w w' := small_calls R C A n c 12 (by omega) w
theorem small_le {R C : Int} {n t : Nat} (h : smallB R C n t = true) : R ≤ t ∧ C ≤ t ∧ n ≤ t * t + 9 := of_decide_eq_true h
theorem st3 (w : World) (R0 C0 : Int) (A0 : Option Addr) (n0 c0 : Nat) (R1 C1 : Int) (A1 : Option Addr) (n1 c1 : Nat) (R2 C2 : Int) (A2 : Option Addr) (n2 c2 : Nat) :
    ∃ wa, ((w.alloc (.cells #[.int .i64 R0, .int .i64 C0, .slice A0 n0 c0] 24)).alloc (.cells #[.int .i64 R1, .int .i64 C1, .slice A1 n1 c1] 24)).alloc (.cells #[.int .i64 R2, .int .i64 C2, .slice A2 n2 c2] 24) = wa
      ∧ Q w [⟨w.heap.size, R0, C0, A0, n0, c0⟩, ⟨w.heap.size + 1, R1, C1, A1, n1, c1⟩, ⟨w.heap.size + 2, R2, C2, A2, n2, c2⟩] wa := by
  have h := (((Q.start w).param R0 C0 A0 n0 c0).param R1 C1 A1 n1 c1).param R2 C2 A2 n2 c2
  simp only [World.size_alloc, Nat.add_assoc, Nat.reduceAdd] at h
  exact ⟨_, rfl, h.bel, fun x hx => h.bx x (by simp at hx ⊢; rcases hx with h | h | h <;> simp [h])⟩
theorem st2 (w : World) (R0 C0 : Int) (A0 : Option Addr) (n0 c0 : Nat) (R1 C1 : Int) (A1 : Option Addr) (n1 c1 : Nat) :
    ∃ wa, (w.alloc (.cells #[.int .i64 R0, .int .i64 C0, .slice A0 n0 c0] 24)).alloc (.cells #[.int .i64 R1, .int .i64 C1, .slice A1 n1 c1] 24) = wa
      ∧ Q w [⟨w.heap.size, R0, C0, A0, n0, c0⟩, ⟨w.heap.size + 1, R1, C1, A1, n1, c1⟩] wa := by
  have h := ((Q.start w).param R0 C0 A0 n0 c0).param R1 C1 A1 n1 c1
  simp only [World.size_alloc] at h
  exact ⟨_, rfl, h.bel, fun x hx => h.bx x (by simp at hx ⊢; rcases hx with h | h <;> simp [h])⟩
theorem st1 (w : World) (R0 C0 : Int) (A0 : Option Addr) (n0 c0 : Nat) :
    ∃ wa, w.alloc (.cells #[.int .i64 R0, .int .i64 C0, .slice A0 n0 c0] 24) = wa ∧ Q w [⟨w.heap.size, R0, C0, A0, n0, c0⟩] wa := ⟨_, rfl, (Q.start w).param R0 C0 A0 n0 c0⟩

/-- Solutions that are known. -/
theorem kerT_left {r n : Nat} {a L : Nat → Nat → F8} (h : ∀ i j, i < n → j < n → mulF r L a i j = oneF i j) : KerT r n a := fun x hx j hj => by
  have e := mulF_assoc r n L a (fun j _ => x j) j 0
  rw [mulF_congr (a' := oneF) (b' := fun j _ => x j) (fun k hk => h j k hj hk) (fun _ _ => rfl), one_mulF _ _ hj] at e
  rw [e]
  exact sum_zero' fun k hk => by
    have := hx k hk
    unfold app at this
    unfold mulF
    rw [this, mul_zero]
section
variable {r n q rr cc : Nat} {s t u : List F8} {k : Int} {X : Nat → Nat → F8}
theorem solAny_ok (h : SolAny r n q s t rr cc u k) (hs : Sol r n q (ent s n) (ent t q) X) : rr = n ∧ cc = q ∧ u = flat n q X ∧ k = 0 := by
  rcases h with ⟨Y, hY, h1, h2, h3, h4⟩ | ⟨hn, _⟩
  · refine ⟨h1, h2, ?_, h4⟩
    rw [h3]
    exact flat_congr fun i j hi hj => hY.only hs.eq hi hj
  · exact absurd ⟨X, hs⟩ hn
theorem solAny_no (h : SolAny r n q s t rr cc u k) (hs : ¬ ∃ X, Sol r n q (ent s n) (ent t q) X) : rr = 0 ∧ cc = 0 ∧ u = [] ∧ k = 51 := by
  rcases h with ⟨Y, hY, _⟩ | ⟨_, h⟩
  · exact absurd ⟨Y, hY⟩ hs
  · exact h
end
section
variable {w0 w : World} {g : Nat} {ls : List (Option Addr × List F8)} {bx : List Bx} (h : W w0 g ls bx w)
include h
theorem rankW_is (r c N cap k : Nat) (A : Option Addr) (s : List F8) (ha : (A, s) ∈ ls) (hr : r ≤ 100) (hc : c ≤ 100) (hN : r * c = N) (hl : s.length = N) (hk : RankIs r c (ent s c) c k) :
    Calls Try.prog 46 #[.pointer (some ⟨g, 0, none⟩), .agg #[.int .i64 r, .int .i64 c, .slice A N cap]] w fun e w' => e = .returned (.tuple #[.int .i64 k, .int .i64 0]) ∧ W w0 g ls bx w' :=
  (rankW h r c N cap A s ha hr hc hN hl).mono fun _ _ ⟨k', h1, h2, h3⟩ => ⟨by rw [h2, h1.only hk], h3⟩
theorem inverseW_ok (n N cap : Nat) (A : Option Addr) (s u : List F8) (X : Nat → Nat → F8) (ha : (A, s) ∈ ls) (hn : n ≤ 100) (hN : n * n = N) (hcap : N ≤ cap) (hl : s.length = N) (hs : Sol n n n (ent s n) (ent (flat n n oneF) n) X) (hu : flat n n X = u) :
    Calls Try.prog 47 #[.pointer (some ⟨g, 0, none⟩), .agg #[.int .i64 n, .int .i64 n, .slice A N cap]] w fun e w' => MoreE w0 g ls bx n n N u 0 e w' :=
  (inverseW h n N cap A s ha hn hN hcap hl).mono fun _ _ ⟨_, _, _, _, h1, h2⟩ => by
    obtain ⟨rfl, rfl, rfl, rfl⟩ := solAny_ok h1 hs
    rw [hN, hu] at h2; exact h2
theorem inverseW_no (n N cap : Nat) (A : Option Addr) (s : List F8) (ha : (A, s) ∈ ls) (hn : n ≤ 100) (hN : n * n = N) (hcap : N ≤ cap) (hl : s.length = N) (hs : ¬ ∃ X, Sol n n n (ent s n) (ent (flat n n oneF) n) X) :
    Calls Try.prog 47 #[.pointer (some ⟨g, 0, none⟩), .agg #[.int .i64 n, .int .i64 n, .slice A N cap]] w fun e w' => MoreE w0 g ls bx 0 0 0 [] 51 e w' :=
  (inverseW h n N cap A s ha hn hN hcap hl).mono fun _ _ ⟨_, _, _, _, h1, h2⟩ => by
    obtain ⟨rfl, rfl, rfl, rfl⟩ := solAny_no h1 hs
    exact h2
theorem solveW_ok (r n q N1 N2 N3 c1 c2 : Nat) (A B : Option Addr) (s t u : List F8) (X : Nat → Nat → F8) (ha : (A, s) ∈ ls) (hb : (B, t) ∈ ls) (hr : r ≤ 100) (hn : n ≤ 100) (hq : q ≤ 100) (hN1 : r * n = N1) (hN2 : r * q = N2) (hN3 : n * q = N3) (hc1 : N1 ≤ c1) (hc2 : N2 ≤ c2) (hl1 : s.length = N1) (hl2 : t.length = N2) (hs : Sol r n q (ent s n) (ent t q) X) (hu : flat n q X = u) :
    Calls Try.prog 48 #[.pointer (some ⟨g, 0, none⟩), .agg #[.int .i64 r, .int .i64 n, .slice A N1 c1], .agg #[.int .i64 r, .int .i64 q, .slice B N2 c2]] w fun e w' => MoreE w0 g ls bx n q N3 u 0 e w' :=
  (solveW h r n q N1 N2 c1 c2 A B s t ha hb hr hn hq hN1 hN2 hc1 hc2 hl1 hl2).mono fun _ _ ⟨_, _, _, _, h1, h2⟩ => by
    obtain ⟨rfl, rfl, rfl, rfl⟩ := solAny_ok h1 hs
    rw [hN3, hu] at h2; exact h2
theorem solveW_no (r n q N1 N2 c1 c2 : Nat) (A B : Option Addr) (s t : List F8) (ha : (A, s) ∈ ls) (hb : (B, t) ∈ ls) (hr : r ≤ 100) (hn : n ≤ 100) (hq : q ≤ 100) (hN1 : r * n = N1) (hN2 : r * q = N2) (hc1 : N1 ≤ c1) (hc2 : N2 ≤ c2) (hl1 : s.length = N1) (hl2 : t.length = N2) (hs : ¬ ∃ X, Sol r n q (ent s n) (ent t q) X) :
    Calls Try.prog 48 #[.pointer (some ⟨g, 0, none⟩), .agg #[.int .i64 r, .int .i64 n, .slice A N1 c1], .agg #[.int .i64 r, .int .i64 q, .slice B N2 c2]] w fun e w' => MoreE w0 g ls bx 0 0 0 [] 51 e w' :=
  (solveW h r n q N1 N2 c1 c2 A B s t ha hb hr hn hq hN1 hN2 hc1 hc2 hl1 hl2).mono fun _ _ ⟨_, _, _, _, h1, h2⟩ => by
    obtain ⟨rfl, rfl, rfl, rfl⟩ := solAny_no h1 hs
    exact h2
end
/-- A byte that is written out. -/
def f (n : Nat) (h : n < 256 := by decide) : F8 := ⟨n, h⟩
theorem ex_rank : RankIs 2 2 (ent [1, 1, 1, 1] 2) 2 1 := by
  have h := powers_rank' [1, 1] 2
  have e1 : (dis [1, 1] 2).length = 1 := by decide +kernel
  have e2 : flat 2 2 (powF [1, 1]) = [1, 1, 1, 1] := by decide +kernel
  rw [e1, e2] at h
  exact h
theorem ex_none : ¬ ∃ X, Sol 2 2 2 (ent [1, 1, 1, 1] 2) (ent (flat 2 2 oneF) 2) X := by
  rw [sol_inv_iff ex_rank]; decide
theorem two {P : Nat → Prop} (h0 : P 0) (h1 : P 1) : ∀ i, i < 2 → P i := fun i hi => by
  rcases Nat.lt_or_ge i 1 with h | h
  · obtain rfl : i = 0 := by omega
    exact h0
  · obtain rfl : i = 1 := by omega
    exact h1
theorem ex_inv : Sol 2 2 2 (ent [1, 1, 0, 1] 2) (ent (flat 2 2 oneF) 2) (ent [1, 1, 0, 1] 2) where
  ker := kerT_left (r := 2) (L := ent [1, 1, 0, 1] 2) fun i j hi hj => by
    revert i j; intro i j hi hj
    have : ∀ i, i < 2 → ∀ j, j < 2 → mulF 2 (ent [1, 1, 0, 1] 2) (ent [1, 1, 0, 1] 2) i j = oneF i j := two (two (by decide +kernel) (by decide +kernel)) (two (by decide +kernel) (by decide +kernel))
    exact this i hi j hj
  eq := fun i j hi hj => by
    have : ∀ i, i < 2 → ∀ j, j < 2 → mulF 2 (ent [1, 1, 0, 1] 2) (ent [1, 1, 0, 1] 2) i j = ent (flat 2 2 oneF) 2 i j := two (two (by decide +kernel) (by decide +kernel)) (two (by decide +kernel) (by decide +kernel))
    exact this i hi j hj
theorem ex_tall : Sol 2 1 1 (ent [1, 1] 1) (ent [f 5, f 5] 1) (ent [f 5] 1) where
  ker := kerT_left (r := 2) (L := ent [1, 0] 2) fun i j hi hj => by
    obtain rfl : i = 0 := by omega
    obtain rfl : j = 0 := by omega
    decide +kernel
  eq := fun i j hi hj => by
    obtain rfl : j = 0 := by omega
    exact two (P := fun i => mulF 1 (ent [1, 1] 1) (ent [f 5] 1) i 0 = ent [f 5, f 5] 1 i 0) (by decide +kernel) (by decide +kernel) i hi
theorem ex_tall_none : ¬ ∃ X, Sol 2 1 1 (ent [1, 1] 1) (ent [f 5, f 6] 1) X := by
  rintro ⟨X, hX⟩
  have h0 := hX.eq 0 0 (by omega) (by omega)
  have h1 := hX.eq 1 0 (by omega) (by omega)
  have e0 : mulF 1 (ent [1, 1] 1) X 0 0 = mulF 1 (ent [1, 1] 1) X 1 0 := by
    unfold mulF
    refine sum_congr fun j hj => ?_
    obtain rfl : j = 0 := by omega
    rw [show ent [1, 1] 1 0 0 = ent [1, 1] 1 1 0 by decide +kernel]
  rw [h0, h1] at e0
  exact absurd e0 (by decide +kernel)

/-- The bytes of a matrix that is a value. -/
theorem run_field2 (x y : Int) (A : Option Addr) (n c : Nat) (w : World) : (Instr.field 24 (.agg #[.int .i64 x, .int .i64 y, .slice A n c]) 2).run Try.prog w = .ok (.slice A n c) w := by kernel_rfl
set_option maxRecDepth 100000 in
set_option maxHeartbeats 1000000 in
theorem works_calls (w : World) : Calls Try.prog 12 #[] w fun e w' => e = .returned (.bool true) ∧ Below w.heap.size w w' := by
  have HQ := Q.start w
  go_enter Try.func12, Try.ntmps12
  go_wp2_with fail
  refine HQ.new.mono ?_
  rintro e w1 ⟨rfl, HN⟩
  have HW := Lib.hid HN
  clear HQ HN
  -- Mul
  go_wp2_with fail
  have H1 := HW.out.lit2 #[.int .u8 1, .int .u8 2, .int .u8 0, .int .u8 1] #[.int .u8 3, .int .u8 4] [1, f 2, 0, 1] [f 3, f 4] rfl rfl
  refine (mulW H1 2 2 1 4 2 2 4 2 (some ⟨w1.heap.size, 0, none⟩) (some ⟨w1.heap.size + 1, 0, none⟩) [1, f 2, 0, 1] [f 3, f 4] [f 11, f 4] (by simp) (by simp) (by decide) (by decide) (by decide) rfl rfl rfl (by decide) (by decide) rfl rfl (by decide +kernel)).mono ?_
  clear H1 HW
  rintro e w2 ⟨A1, c1, rfl, -, HN⟩
  obtain ⟨v2, hv2, hs2, HN⟩ := (HN.sub (ls' := [(A1, [f 11, f 4])]) (by simp)).var 2 1 A1 2 c1
  have HW := Lib.hid HN
  clear HN
  -- Rank
  go_wp2_with fail
  clear hv2
  have H1 := HW.out.litk _ hs2 #[.int .u8 1, .int .u8 1, .int .u8 1, .int .u8 1] [1, 1, 1, 1] rfl
  refine (rankW_is H1 2 2 4 4 1 (some ⟨w2.heap.size + 1, 0, none⟩) [1, 1, 1, 1] (by simp) (by decide) (by decide) rfl rfl ex_rank).mono ?_
  clear H1 HW
  rintro e w3 ⟨rfl, HN⟩
  have HW := Lib.hid (HN.sub (ls' := [(A1, [f 11, f 4])]) (by simp))
  clear HN
  -- Inverse, none
  go_wp2_with fail
  have H1 := HW.out.lit #[.int .u8 1, .int .u8 1, .int .u8 1, .int .u8 1] [1, 1, 1, 1] rfl
  refine (inverseW_no H1 2 4 4 (some ⟨w3.heap.size, 0, none⟩) [1, 1, 1, 1] (by simp) (by decide) rfl (by decide) rfl ex_none).mono ?_
  clear H1 HW
  rintro e w4 ⟨A2, c2, rfl, -, HN⟩
  obtain ⟨v4, hv4, hs4, HN⟩ := (HN.sub (ls' := [(A1, [f 11, f 4])]) (by simp)).var 0 0 A2 0 c2
  have HW := Lib.hid HN
  clear HN
  -- Inverse
  go_wp2_with fail
  clear hv4
  have H1 := HW.out.litk _ hs4 #[.int .u8 1, .int .u8 1, .int .u8 0, .int .u8 1] [1, 1, 0, 1] rfl
  refine (inverseW_ok H1 2 4 4 (some ⟨w4.heap.size + 1, 0, none⟩) [1, 1, 0, 1] [1, 1, 0, 1] _ (by simp) (by decide) rfl (by decide) rfl ex_inv (flat_self rfl)).mono ?_
  clear H1 HW
  rintro e w5 ⟨A3, c3, rfl, -, HN⟩
  obtain ⟨v5, hv5, hs5, HN⟩ := (HN.sub (ls' := [(A1, [f 11, f 4]), (A3, [1, 1, 0, 1])]) (by simp)).var 2 2 A3 4 c3
  have HW := Lib.hid HN
  clear HN
  -- Symmetric
  go_wp2_with fail
  clear hv5
  have H1 := HW.out.litk _ hs5 #[.int .u8 1, .int .u8 2, .int .u8 3] [1, f 2, f 3] rfl
  refine (symmW H1 2 3 4 3 (some ⟨w5.heap.size + 1, 0, none⟩) [1, f 2, f 3] [1, f 2, f 2, f 3] (by simp) (by decide) rfl rfl rfl (by decide) (by decide +kernel)).mono ?_
  clear H1 HW
  rintro e w6 ⟨A4, c4, rfl, -, HN⟩
  obtain ⟨v6, hv6, hs6, HN⟩ := (HN.sub (ls' := [(A1, [f 11, f 4]), (A3, [1, 1, 0, 1]), (A4, [1, f 2, f 2, f 3])]) (by simp)).var 2 2 A4 4 c4
  have HW := Lib.hid HN
  clear HN
  -- Solve
  go_wp2_with fail
  clear hv6
  have H1 := Lib.hid ((((HW.out.litk _ hs6 #[.int .u8 1, .int .u8 1] [1, 1] rfl).boxk (w6.heap.size + 1 + 1) (by rw [alloc_size, hs6]) 2 1 (some ⟨w6.heap.size + 1, 0, none⟩) 2 2)).litk (w6.heap.size + 1 + 1 + 1) (by rw [alloc_size, alloc_size, hs6]) #[.int .u8 5, .int .u8 5] [f 5, f 5] rfl)
  refine (solveW_ok H1.out 2 1 1 2 2 1 2 2 (some ⟨w6.heap.size + 1, 0, none⟩) (some ⟨w6.heap.size + 1 + 1 + 1, 0, none⟩) [1, 1] [f 5, f 5] [f 5] _ (by simp) (by simp) (by decide) (by decide) (by decide) rfl rfl rfl (by decide) (by decide) rfl rfl ex_tall (flat_self rfl)).mono ?_
  clear H1 HW hs6
  rintro e w7 ⟨A5, c5, rfl, -, HN⟩
  obtain ⟨v7, hv7, hs7, HN⟩ := (HN.sub (ls' := [(A1, [f 11, f 4]), (A3, [1, 1, 0, 1]), (A4, [1, f 2, f 2, f 3]), (some ⟨w6.heap.size + 1, 0, none⟩, [1, 1]), (A5, [f 5])]) (by simp)).var 1 1 A5 1 c5
  have HW := Lib.hid HN
  clear HN
  obtain ⟨t0, t1, t2⟩ := HW.out.at_ (b := w6.heap.size + 1 + 1) (R := 2) (C := 1) (A := some ⟨w6.heap.size + 1, 0, none⟩) (n := 2) (c := 2) (by simp)
  go_wp2_with fail
  clear hv7
  have H1 := HW.out.litk _ hs7 #[.int .u8 5, .int .u8 6] [f 5, f 6] rfl
  refine (solveW_no H1 2 1 1 2 2 2 2 (some ⟨w6.heap.size + 1, 0, none⟩) (some ⟨w7.heap.size + 1, 0, none⟩) [1, 1] [f 5, f 6] (by simp) (by simp) (by decide) (by decide) (by decide) rfl rfl (by decide) (by decide) rfl rfl ex_tall_none).mono ?_
  clear H1 HW hs7
  rintro e w8 ⟨A6, c6, rfl, -, HN⟩
  obtain ⟨v8, hv8, hs8, HN⟩ := (HN.sub (ls' := [(A1, [f 11, f 4]), (A3, [1, 1, 0, 1]), (A4, [1, f 2, f 2, f 3]), (A5, [f 5])]) (by simp)).var 0 0 A6 0 c6
  have HW := Lib.hid HN
  clear HN t0 t1 t2
  obtain ⟨p0, p1, p2⟩ := HW.out.at_ (b := w2.heap.size) (R := 2) (C := 1) (A := A1) (n := 2) (c := c1) (by simp)
  go_wp2_with fail
  have H1 := Lib.hid (HW.out.litk _ hs8 #[.int .u8 11, .int .u8 4] [f 11, f 4] rfl)
  refine (sameW H1.out A1 (some ⟨w8.heap.size + 1, 0, none⟩) [f 11, f 4] [f 11, f 4] 2 2 c1 2 (by simp) (by simp) rfl rfl true (by decide +kernel)).mono ?_
  rintro e wz ⟨rfl, rfl⟩
  have HW := Lib.hid (H1.out.sub (ls' := [(A3, [1, 1, 0, 1]), (A4, [1, f 2, f 2, f 3]), (A5, [f 5])]) (by simp))
  clear H1
  generalize v8.alloc (.cells #[.int .u8 11, .int .u8 4] 5) = v9 at HW ⊢
  clear hv8 hs8 p0 p1 p2
  obtain ⟨p0, p1, p2⟩ := HW.out.at_ (b := w5.heap.size) (R := 2) (C := 2) (A := A3) (n := 4) (c := c3) (by simp)
  go_wp2_with fail
  have H1 := Lib.hid (HW.out.lit #[.int .u8 1, .int .u8 1, .int .u8 0, .int .u8 1] [1, 1, 0, 1] rfl)
  refine (sameW H1.out A3 (some ⟨v9.heap.size, 0, none⟩) [1, 1, 0, 1] [1, 1, 0, 1] 4 4 c3 4 (by simp) (by simp) rfl rfl true (by decide +kernel)).mono ?_
  rintro e wz ⟨rfl, rfl⟩
  have HW := Lib.hid (H1.out.sub (ls' := [(A4, [1, f 2, f 2, f 3]), (A5, [f 5])]) (by simp))
  clear H1
  generalize v9.alloc (.cells #[.int .u8 1, .int .u8 1, .int .u8 0, .int .u8 1] 5) = v10 at HW ⊢
  clear p0 p1 p2
  -- Powers
  have hfd := run_field2
  go_wp2_with fail
  have H1 := HW.out.lit #[.int .u8 1, .int .u8 2] [1, f 2] rfl
  refine (powersW H1 2 3 6 2 (some ⟨v10.heap.size, 0, none⟩) [1, f 2] [1, 1, 1, 1, f 2, f 4] (by simp) (by decide) (by decide) rfl rfl (by decide +kernel)).mono ?_
  clear H1 HW
  rintro e v11 ⟨A7, c7, rfl, -, HN⟩
  have HW := Lib.hid (HN.sub (ls' := [(A4, [1, f 2, f 2, f 3]), (A5, [f 5]), (A7, [1, 1, 1, 1, f 2, f 4])]) (by simp))
  clear HN
  go_wp2_with fail
  have H1 := Lib.hid (HW.out.lit #[.int .u8 1, .int .u8 1, .int .u8 1, .int .u8 1, .int .u8 2, .int .u8 4] [1, 1, 1, 1, f 2, f 4] rfl)
  refine (sameW H1.out A7 (some ⟨v11.heap.size, 0, none⟩) [1, 1, 1, 1, f 2, f 4] [1, 1, 1, 1, f 2, f 4] 6 6 c7 6 (by simp) (by simp) rfl rfl true (by decide +kernel)).mono ?_
  rintro e wz ⟨rfl, rfl⟩
  have HW := Lib.hid (H1.out.sub (ls' := [(A4, [1, f 2, f 2, f 3]), (A5, [f 5])]) (by simp))
  clear H1
  generalize v11.alloc (.cells #[.int .u8 1, .int .u8 1, .int .u8 1, .int .u8 1, .int .u8 2, .int .u8 4] 5) = v12 at HW ⊢
  obtain ⟨p0, p1, p2⟩ := HW.out.at_ (b := w6.heap.size) (R := 2) (C := 2) (A := A4) (n := 4) (c := c4) (by simp)
  go_wp2_with fail
  have H1 := Lib.hid (HW.out.lit #[.int .u8 1, .int .u8 2, .int .u8 2, .int .u8 3] [1, f 2, f 2, f 3] rfl)
  refine (sameW H1.out A4 (some ⟨v12.heap.size, 0, none⟩) [1, f 2, f 2, f 3] [1, f 2, f 2, f 3] 4 4 c4 4 (by simp) (by simp) rfl rfl true (by decide +kernel)).mono ?_
  rintro e wz ⟨rfl, rfl⟩
  have HW := Lib.hid (H1.out.sub (ls' := [(A5, [f 5])]) (by simp))
  clear H1
  generalize v12.alloc (.cells #[.int .u8 1, .int .u8 2, .int .u8 2, .int .u8 3] 5) = v13 at HW ⊢
  clear p0 p1 p2
  obtain ⟨p0, p1, p2⟩ := HW.out.at_ (b := w7.heap.size) (R := 1) (C := 1) (A := A5) (n := 1) (c := c5) (by simp)
  go_wp2_with fail
  have H1 := Lib.hid (HW.out.lit #[.int .u8 5] [f 5] rfl)
  refine (sameW H1.out A5 (some ⟨v13.heap.size, 0, none⟩) [f 5] [f 5] 1 1 c5 1 (by simp) (by simp) rfl rfl true (by decide +kernel)).mono ?_
  rintro e wz ⟨rfl, rfl⟩
  have HW := Lib.hid (H1.out.sub (ls' := []) (by simp))
  clear H1
  generalize v13.alloc (.cells #[.int .u8 5] 5) = v14 at HW ⊢
  go_wp2
  go_ret
  exact ⟨rfl, HW.out.bel⟩
end Go.Proofs.Ytidelegamdibgaa.Mat
