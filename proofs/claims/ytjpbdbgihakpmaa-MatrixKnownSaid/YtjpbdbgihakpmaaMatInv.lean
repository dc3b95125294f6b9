/- What the program's Solve does, in one; Inverse. -/
import Derived.Test.YtjpbdbgihakpmaaMatSolve
import Derived.Test.YtjpbdbgihakpmaaMatOne
namespace Go.Proofs.Ytjpbdbgihakpmaa.Mat
open Go.RowKit Go.Shelf F8 Poly GF
attribute [local go_sem] Oper.semAt_some

theorem past_rb {w w5 w' : World} {pf : Option Addr} (hw : w.heap.size ≤ w5.heap.size) (h : Past w5.heap.size (rb w5 pf) w5 w') : Past w.heap.size (rb w pf) w5 w' := by
  cases pf with
  | none => exact Past.of_below ((h.below (Nat.le_refl _)).mono hw) _
  | some a => exact h.mono hw
theorem Sol.congr {r n q : Nat} {a a' b b' X : Nat → Nat → F8} (h : Sol r n q a b X) (ha : ∀ i j, i < r → j < n → a i j = a' i j) (hb : ∀ i k, i < r → k < q → b i k = b' i k) : Sol r n q a' b' X :=
  ⟨fun x hx => h.ker x ((ker_congr x ha).2 hx), fun i k hi hk => by rw [← hb i k hi hk, ← h.eq i k hi hk]; exact mulF_congr (fun j hj => (ha i j hi hj).symm) (fun _ _ => rfl)⟩
/-- What Solve gives, whichever it is. -/
def SolAny (r n q : Nat) (s t : List F8) (rr cc : Nat) (u : List F8) (k : Int) : Prop :=
  (∃ X, Sol r n q (ent s n) (ent t q) X ∧ rr = n ∧ cc = q ∧ u = flat n q X ∧ k = 0) ∨ ((¬ ∃ X, Sol r n q (ent s n) (ent t q) X) ∧ rr = 0 ∧ cc = 0 ∧ u = [] ∧ k = 51)
theorem solve_calls (pf : Option Addr) (r n q N1 N2 c1 c2 : Nat) (A B : Option Addr) (s t : List F8) (hr : r ≤ 65536) (hn : n ≤ 65536) (hq : q ≤ 65536) (hN1 : r * n = N1) (hN2 : r * q = N2) (hc1 : N1 ≤ c1) (hc2 : N2 ≤ c2) (hl1 : s.length = N1) (hl2 : t.length = N2) (hbig : N1 + N2 ≤ 1000000000) (w : World) (hb1 : Bytes w A (bs s)) (hb2 : Bytes w B (bs t)) (hf : FldP w pf) :
    Calls Try.prog 56 #[.pointer pf, .agg #[.int .i64 r, .int .i64 n, .slice A N1 c1], .agg #[.int .i64 r, .int .i64 q, .slice B N2 c2]] w fun e w' => ∃ (rr cc : Nat) (u : List F8) (k : Int), SolAny r n q s t rr cc u k ∧ MatResF pf w w' e rr cc u k := by
  by_cases h : r < n
  · refine (solve_wide pf r n q N1 N2 c1 c2 A B hr hn hq hN1 hN2 h w).mono ?_
    rintro e w' ⟨A', c', h1, h2, h3, h4⟩
    exact ⟨0, 0, [], 51, .inr ⟨fun ⟨X, hX⟩ => by have := sol_wide hX; omega, rfl, rfl, rfl, rfl⟩, A', c', h1, h2, h3, hf.below h4, Past.of_below h4 _⟩
  · refine (solve_tall pf r n q N1 N2 c1 c2 A B s t hr hn hq hN1 hN2 hc1 hc2 hl1 hl2 hbig (by omega) w hb1 hb2 hf).mono ?_
    rintro e w' (⟨X, hX, hm⟩ | ⟨hX, hm⟩)
    · exact ⟨n, q, _, 0, .inl ⟨X, hX, rfl, rfl, rfl, rfl⟩, hm⟩
    · exact ⟨0, 0, [], 51, .inr ⟨hX, rfl, rfl, rfl, rfl⟩, hm⟩
set_option maxRecDepth 100000 in
set_option maxHeartbeats 2000000 in
theorem inverse_bad (pf : Option Addr) (R C : Int) (A : Option Addr) (n cap : Nat) (h : ¬ (RightB R C n = true ∧ R = C ∧ R ≤ 4096)) (w : World) :
    Calls Try.prog 49 #[.pointer pf, .agg #[.int .i64 R, .int .i64 C, .slice A n cap]] w fun e w' => MatResE w w' e 0 0 [] 50 := by
  by_cases hr : RightB R C n = true
  · have HR := Lib.hid hr
    by_cases hc : R = C
    · subst hc
      have hgt : decide (4096 < R) = true := by
        by_cases h4 : R ≤ 4096
        · exact absurd ⟨hr, rfl, h4⟩ h
        · simp; omega
      have hne : (R != R) = false := by simp
      have hne2 : (R == R) = true := by simp
      clear h hr
      obtain ⟨wa, hwa⟩ : ∃ wa, (w.alloc (.cells #[.int .i64 R, .int .i64 R, .slice A n cap] 24)).alloc (.cells #[.int .i64 0, .int .i64 0, .slice none 0 0] 24) = wa := ⟨_, rfl⟩
      have hba : Block wa w.heap.size 24 #[.int .i64 R, .int .i64 R, .slice A n cap] := by rw [← hwa]; exact (Block.new _ _ _).alloc _
      have hbr : Block wa (w.heap.size + 1) 24 #[.int .i64 0, .int .i64 0, .slice none 0 0] := by
        rw [← hwa]
        have := Block.new (w.alloc (.cells #[.int .i64 R, .int .i64 R, .slice A n cap] 24)) 24 #[.int .i64 0, .int .i64 0, .slice none 0 0]
        rwa [World.size_alloc] at this
      have hBa : Below w.heap.size w wa := by rw [← hwa]; exact ((Below.refl _ w).alloc (Nat.le_refl _) _).alloc (by simp) _
      have hsa : wa.heap.size = w.heap.size + 2 := by rw [← hwa]; simp
      obtain ⟨n0, n1', n2'⟩ := cells3 hba
      go_enter Try.func49, Try.ntmps49
      go_wp2_with fail
      refine (right_calls R R A n cap _).mono ?_
      rintro e w1 ⟨rfl, hB1⟩
      rw [HR.out]
      have hba1 := hba.below hB1 hba.lt
      have hbr1 := hbr.below hB1 hbr.lt
      have hBw1 := hBa.trans (hB1.mono (by omega))
      have hs1 := hB1.size
      obtain ⟨p0, p1, p2⟩ := cells3 hba1
      clear hwa hba hbr hB1 hBa n0 n1' n2'
      have f0 := hbr1.frozen 0
      have f1 := hbr1.frozen 1
      have f2 := hbr1.frozen 2
      obtain ⟨r0, r1, r2⟩ := cells3 hbr1
      go_wp2
      refine bodyPost_ret (v := .tuple #[.agg #[.int .i64 0, .int .i64 0, .slice none 0 0], .int .i64 50]) (by simp [results, Try.results49, go_sem, r0, r1, r2]) rfl ?_
      exact ⟨none, 0, rfl, Nat.le_refl _, Own.nil _ _ _, below_set3 hBw1 (by omega) _ _ _⟩
    · have hne : (R != C) = true := by simpa using hc
      have hne2 : (R == C) = false := by simpa using hc
      clear h hr hc
      obtain ⟨wa, hwa⟩ : ∃ wa, (w.alloc (.cells #[.int .i64 R, .int .i64 C, .slice A n cap] 24)).alloc (.cells #[.int .i64 0, .int .i64 0, .slice none 0 0] 24) = wa := ⟨_, rfl⟩
      have hba : Block wa w.heap.size 24 #[.int .i64 R, .int .i64 C, .slice A n cap] := by rw [← hwa]; exact (Block.new _ _ _).alloc _
      have hbr : Block wa (w.heap.size + 1) 24 #[.int .i64 0, .int .i64 0, .slice none 0 0] := by
        rw [← hwa]
        have := Block.new (w.alloc (.cells #[.int .i64 R, .int .i64 C, .slice A n cap] 24)) 24 #[.int .i64 0, .int .i64 0, .slice none 0 0]
        rwa [World.size_alloc] at this
      have hBa : Below w.heap.size w wa := by rw [← hwa]; exact ((Below.refl _ w).alloc (Nat.le_refl _) _).alloc (by simp) _
      have hsa : wa.heap.size = w.heap.size + 2 := by rw [← hwa]; simp
      obtain ⟨n0, n1', n2'⟩ := cells3 hba
      go_enter Try.func49, Try.ntmps49
      go_wp2_with fail
      refine (right_calls R C A n cap _).mono ?_
      rintro e w1 ⟨rfl, hB1⟩
      rw [HR.out]
      have hba1 := hba.below hB1 hba.lt
      have hbr1 := hbr.below hB1 hbr.lt
      have hBw1 := hBa.trans (hB1.mono (by omega))
      have hs1 := hB1.size
      obtain ⟨p0, p1, p2⟩ := cells3 hba1
      clear hwa hba hbr hB1 hBa n0 n1' n2'
      have f0 := hbr1.frozen 0
      have f1 := hbr1.frozen 1
      have f2 := hbr1.frozen 2
      obtain ⟨r0, r1, r2⟩ := cells3 hbr1
      go_wp2
      refine bodyPost_ret (v := .tuple #[.agg #[.int .i64 0, .int .i64 0, .slice none 0 0], .int .i64 50]) (by simp [results, Try.results49, go_sem, r0, r1, r2]) rfl ?_
      exact ⟨none, 0, rfl, Nat.le_refl _, Own.nil _ _ _, below_set3 hBw1 (by omega) _ _ _⟩
  · have HR : Hid (RightB R C n = false) := Lib.hid (by simpa using hr)
    clear h hr
    obtain ⟨wa, hwa⟩ : ∃ wa, (w.alloc (.cells #[.int .i64 R, .int .i64 C, .slice A n cap] 24)).alloc (.cells #[.int .i64 0, .int .i64 0, .slice none 0 0] 24) = wa := ⟨_, rfl⟩
    have hba : Block wa w.heap.size 24 #[.int .i64 R, .int .i64 C, .slice A n cap] := by rw [← hwa]; exact (Block.new _ _ _).alloc _
    have hbr : Block wa (w.heap.size + 1) 24 #[.int .i64 0, .int .i64 0, .slice none 0 0] := by
      rw [← hwa]
      have := Block.new (w.alloc (.cells #[.int .i64 R, .int .i64 C, .slice A n cap] 24)) 24 #[.int .i64 0, .int .i64 0, .slice none 0 0]
      rwa [World.size_alloc] at this
    have hBa : Below w.heap.size w wa := by rw [← hwa]; exact ((Below.refl _ w).alloc (Nat.le_refl _) _).alloc (by simp) _
    have hsa : wa.heap.size = w.heap.size + 2 := by rw [← hwa]; simp
    obtain ⟨n0, n1', n2'⟩ := cells3 hba
    go_enter Try.func49, Try.ntmps49
    go_wp2_with fail
    refine (right_calls R C A n cap _).mono ?_
    rintro e w1 ⟨rfl, hB1⟩
    rw [HR.out]
    have hba1 := hba.below hB1 hba.lt
    have hbr1 := hbr.below hB1 hbr.lt
    have hBw1 := hBa.trans (hB1.mono (by omega))
    have hs1 := hB1.size
    obtain ⟨p0, p1, p2⟩ := cells3 hba1
    clear hwa hba hbr hB1 hBa n0 n1' n2'
    have f0 := hbr1.frozen 0
    have f1 := hbr1.frozen 1
    have f2 := hbr1.frozen 2
    obtain ⟨r0, r1, r2⟩ := cells3 hbr1
    go_wp2
    refine bodyPost_ret (v := .tuple #[.agg #[.int .i64 0, .int .i64 0, .slice none 0 0], .int .i64 50]) (by simp [results, Try.results49, go_sem, r0, r1, r2]) rfl ?_
    exact ⟨none, 0, rfl, Nat.le_refl _, Own.nil _ _ _, below_set3 hBw1 (by omega) _ _ _⟩
set_option maxRecDepth 100000 in
set_option maxHeartbeats 4000000 in
theorem inverse_calls (pf : Option Addr) (n N cap : Nat) (A : Option Addr) (s : List F8) (hn : n ≤ 4096) (hN : n * n = N) (hcap : N ≤ cap) (hl : s.length = N) (w : World) (hb : Bytes w A (bs s)) (hf : FldP w pf) :
    Calls Try.prog 49 #[.pointer pf, .agg #[.int .i64 n, .int .i64 n, .slice A N cap]] w fun e w' => ∃ (rr cc : Nat) (u : List F8) (k : Int), SolAny n n n s (flat n n oneF) rr cc u k ∧ MatResF pf w w' e rr cc u k := by
  have HR : Hid (RightB n n N = true) := Lib.hid (rightB_iff.2 ⟨n, n, rfl, rfl, by omega, by omega, hN.symm⟩)
  have hne : ((n : Int) != (n : Int)) = false := by simp
  have hne2 : ((n : Int) == (n : Int)) = true := by simp
  have hgt : decide (4096 < (n : Int)) = false := by simp; omega
  have hmx : Try.prog.follows .mixedOrders = true := by kernel_rfl
  have HB := Lib.hid hb
  have HL := Lib.hid hl
  have HN := Lib.hid hN
  have HF := Lib.hid hf
  have hN9 : N ≤ 16777216 := by rw [← hN]; exact mul_bound hn hn
  clear hb hl hN hf
  obtain ⟨wa, hwa⟩ : ∃ wa, (w.alloc (.cells #[.int .i64 n, .int .i64 n, .slice A N cap] 24)).alloc (.cells #[.int .i64 0, .int .i64 0, .slice none 0 0] 24) = wa := ⟨_, rfl⟩
  have hba : Block wa w.heap.size 24 #[.int .i64 n, .int .i64 n, .slice A N cap] := by rw [← hwa]; exact (Block.new _ _ _).alloc _
  have hbr : Block wa (w.heap.size + 1) 24 #[.int .i64 0, .int .i64 0, .slice none 0 0] := by
    rw [← hwa]
    have := Block.new (w.alloc (.cells #[.int .i64 n, .int .i64 n, .slice A N cap] 24)) 24 #[.int .i64 0, .int .i64 0, .slice none 0 0]
    rwa [World.size_alloc] at this
  have hBa : Below w.heap.size w wa := by rw [← hwa]; exact ((Below.refl _ w).alloc (Nat.le_refl _) _).alloc (by simp) _
  have hsa : wa.heap.size = w.heap.size + 2 := by rw [← hwa]; simp
  obtain ⟨n0, n1', n2'⟩ := cells3 hba
  go_enter Try.func49, Try.ntmps49
  go_wp2_with fail
  refine (right_calls n n A N cap _).mono ?_
  rintro e w1 ⟨rfl, hB1⟩
  rw [HR.out]
  have hba1 := hba.below hB1 hba.lt
  have hbr1 := hbr.below hB1 hbr.lt
  have hBw1 := hBa.trans (hB1.mono (by omega))
  have hs1 := hB1.size
  obtain ⟨p0, p1, p2⟩ := cells3 hba1
  clear hwa hba hbr hB1 hBa n0 n1' n2'
  go_wp2_with fail
  obtain ⟨S, hSdef⟩ : ∃ S : World → Prop, S = fun V => V.cell? ⟨w.heap.size, 0, none⟩ = some (.int .i64 n) ∧ V.cell? ⟨w.heap.size, 1, none⟩ = some (.int .i64 n) ∧ V.cell? ⟨w.heap.size, 2, none⟩ = some (.slice A N cap) := ⟨_, rfl⟩
  have hSi : ∀ V, Block V w.heap.size 24 #[.int .i64 n, .int .i64 n, .slice A N cap] → S V := fun V h => by rw [hSdef]; exact cells3 h
  have hSc : ∀ V, S V → V.cell? ⟨w.heap.size, 0, none⟩ = some (.int .i64 n) ∧ V.cell? ⟨w.heap.size, 1, none⟩ = some (.int .i64 n) ∧ V.cell? ⟨w.heap.size, 2, none⟩ = some (.slice A N cap) := fun V hV => by rw [hSdef] at hV; exact hV
  have hS0 : S w1.drew := hSi _ hba1.drew
  clear hSdef
  refine wp_region_held (S := S) hmx ?_
  refine wpAnyH_takeD (i := 0) (some 22) (.pointer pf) rfl rfl (by kernel_rfl) (by kernel_rfl) (by kernel_rfl) (fun _ _ _ h => h) (Or.inl ⟨by kernel_rfl, fun W hW => by go_simp⟩) hS0 ?_
  simp only [Act.put, List.setIfInBounds_toArray, List.set_cons_zero, List.set_cons_succ]
  refine wpAnyH_takeD (i := 1) (some 23) (.agg #[.int .i64 n, .int .i64 n, .slice A N cap]) rfl rfl (by kernel_rfl) (by kernel_rfl) (by kernel_rfl) (fun _ _ _ h => h) (Or.inl ⟨by kernel_rfl, fun W hW => by obtain ⟨s1, s2, s3⟩ := hSc W hW; go_simp⟩) hS0 ?_
  simp only [Act.put, List.setIfInBounds_toArray, List.set_cons_zero, List.set_cons_succ]
  refine wpAnyH_takeD (i := 2) (some 24) (.pointer (some ⟨w.heap.size, 0, none⟩)) rfl rfl (by kernel_rfl) (by kernel_rfl) (by kernel_rfl) (fun _ _ _ h => h) (Or.inl ⟨by kernel_rfl, fun W hW => by go_simp⟩) hS0 ?_
  simp only [Act.put, List.setIfInBounds_toArray, List.set_cons_zero, List.set_cons_succ]
  refine wpAnyH_takeD (i := 3) (some 25) (.int .i64 n) rfl rfl (by kernel_rfl) (by kernel_rfl) (by kernel_rfl) (fun _ _ _ h => h) (Or.inl ⟨by kernel_rfl, fun W hW => by obtain ⟨s1, s2, s3⟩ := hSc W hW; go_simp⟩) hS0 ?_
  simp only [Act.put, List.setIfInBounds_toArray, List.set_cons_zero, List.set_cons_succ]
  refine wpAnyH_one (i := 4) (by kernel_rfl) rfl (by kernel_rfl) ?_
  go_simp
  refine (one_calls n hn _).mono ?_
  obtain ⟨I, hI⟩ : ∃ I, flat n n oneF = I := ⟨_, rfl⟩
  have hIl : I.length = N := by rw [← hI, flat_length, HN.out]
  rw [hI]
  rintro e w2 ⟨A1, c1, rfl, hc1, hO1, hB2⟩
  rw [hIl] at hc1 hO1 ⊢
  have hs2 := hB2.size
  have hs1d : (w1.drewN 1).heap.size = w1.heap.size := rfl
  have hs1e : w1.drew.heap.size = w1.heap.size := rfl
  have hbl := hba1.lt
  have hbl2 := hbr1.lt
  have hba2 := hba1.drew.below hB2 (by show _ < w1.heap.size; omega)
  have hbr2 := hbr1.drew.below hB2 (by show _ < w1.heap.size; omega)
  have hBw2 : Below w.heap.size w w2 := (Below.drewN' hBw1 1).trans (hB2.mono hBw1.size)
  have hF2 := HF.out.below hBw2
  have hb2 := HB.out.below hBw2
  have hS2 := hSi _ hba2
  show S w2 ∧ _
  refine ⟨hS2, wpAnyH_one (i := 5) (by kernel_rfl) rfl (by kernel_rfl) ?_⟩
  go_simp
  refine (solve_calls pf n n n N N cap c1 A A1 s I (by omega) (by omega) (by omega) HN.out HN.out hcap hc1 HL.out hIl (by omega) w2 hb2 (Own.bytes hO1) hF2).mono ?_
  rintro e w3 ⟨rr, cc, u, k, hany, A2, c2, rfl, hc2, hO3, hF3, hP3⟩
  have hne0 : ∀ b, w.heap.size ≤ b → b < w1.heap.size → b ≠ rb w2 pf := fun b h1 h2 => by
    rcases HF.out with rfl | ⟨g0, rfl, hg0⟩
    · show b ≠ w2.heap.size; omega
    · have := hg0.lt; show b ≠ g0; omega
  have hba3 : Block w3 w.heap.size 24 #[.int .i64 n, .int .i64 n, .slice A N cap] := (hP3.block _ hba2.lt (hne0 _ (Nat.le_refl _) (by omega))).trans hba2
  have hbr3 : Block w3 (w.heap.size + 1) 24 #[.int .i64 0, .int .i64 0, .slice none 0 0] := (hP3.block _ hbr2.lt (hne0 _ (by omega) (by omega))).trans hbr2
  have HP3 : Hid (Past w.heap.size (rb w pf) w w3) := Lib.hid ((Past.of_below hBw2 _).trans (past_rb hBw2.size hP3))
  have HAny := Lib.hid hany
  have HO3 := Lib.hid hO3
  have HF3 := Lib.hid hF3
  obtain ⟨l0, l1, l2⟩ := cells3 hbr3
  have f0 := hbr3.frozen 0
  have f1 := hbr3.frozen 1
  have f2 := hbr3.frozen 2
  have hw3s := hP3.size
  have hS3 := hSi _ hba3
  clear hany hO3 hF3 hP3
  show S w3 ∧ _
  refine ⟨hS3, ?_⟩
  refine wpAnyH_takeD (i := 6) (some 28) (.agg #[.int .i64 rr, .int .i64 cc, .slice A2 u.length c2]) rfl rfl (by kernel_rfl) (by kernel_rfl) (by kernel_rfl) (fun _ _ _ h => h) (Or.inl ⟨by kernel_rfl, fun W hW => by go_simp⟩) hS3 ?_
  simp only [Act.put, List.setIfInBounds_toArray, List.set_cons_zero, List.set_cons_succ]
  refine wpAnyH_takeD (i := 7) (some 29) (.int .i64 k) rfl rfl (by kernel_rfl) (by kernel_rfl) (by kernel_rfl) (fun _ _ _ h => h) (Or.inl ⟨by kernel_rfl, fun W hW => by go_simp⟩) hS3 ?_
  simp only [Act.put, List.setIfInBounds_toArray, List.set_cons_zero, List.set_cons_succ]
  refine wpAnyH_one (i := 8) (by kernel_rfl) rfl (by kernel_rfl) ?_
  go_simp
  have hS4 := hSi _ (block_set3 (g := w.heap.size + 1) hba3 (by omega) (.int .i64 rr) (.int .i64 cc) (.slice A2 u.length c2))
  refine ⟨hS4, ?_⟩
  refine wpAnyH_takeD (i := 9) (some 5) (.int .i64 k) rfl rfl (by kernel_rfl) (by kernel_rfl) (by kernel_rfl) (fun _ _ _ h => h) (Or.inl ⟨by kernel_rfl, fun W hW => by go_simp⟩) hS4 ?_
  simp only [Act.put, List.setIfInBounds_toArray, List.set_cons_zero, List.set_cons_succ]
  refine wpAnyH_done (by kernel_rfl) ?_ _
  have hblk := block_set3_self hbr3 (.int .i64 rr) (.int .i64 cc) (.slice A2 u.length c2)
  obtain ⟨e0, e1, e2⟩ := cells3 hblk
  unfold set3 at e0 e1 e2
  go_wp2
  refine bodyPost_ret (v := .tuple #[.agg #[.int .i64 rr, .int .i64 cc, .slice A2 u.length c2], .int .i64 k]) (by simp [results, Try.results49, go_sem, e0, e1, e2]) rfl ?_
  refine ⟨rr, cc, u, k, ?_, A2, c2, rfl, hc2, own_set3 (HO3.out.more hBw2.size) (fun e => by have := (HO3.out.lt _ e).1; omega) _ _ _, fldP_set3 HF3.out HF.out (by omega) _ _ _, past_set3 HP3.out (.inr (by omega)) _ _ _⟩
  rw [hI]; exact HAny.out
end Go.Proofs.Ytjpbdbgihakpmaa.Mat
