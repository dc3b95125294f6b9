/- What the definition's Inverse and Packed do. -/
import Derived.Test.YthenpfcnpcgfbaaMatRefB
import Derived.Test.YthenpfcnpcgfbaaMatPacked
namespace Go.Proofs.Ythenpfcnpcgfbaa.Mat
open Go.RowKit F8 Poly GF

set_option maxRecDepth 100000 in
set_option maxHeartbeats 1000000 in
theorem refInverse_bad (R C : Int) (A : Option Addr) (n c : Nat) (h : ¬ (RightB R C n = true ∧ R = C)) (w : World) :
    Calls Try.prog 24 #[.agg #[.int .i64 R, .int .i64 C, .slice A n c]] w fun e w' => MatResE w w' e 0 0 [] 50 := by
  obtain ⟨wa, hwa, HQ, hsa⟩ := qr2 w (.int .i64 R) (.int .i64 C) (.slice A n c) (.int .i64 0) (.int .i64 0) (.slice none 0 0)
  obtain ⟨x0, x1, x2⟩ := HQ.at_ (b := w.heap.size) (x := .int .i64 R) (y := .int .i64 C) (z := .slice A n c) (by simp)
  obtain ⟨b1, HR1⟩ : ∃ b, Hid (RightB R C n = b) := ⟨_, Lib.hid rfl⟩
  have hfin : ∀ V, QR w [(w.heap.size + 1, #[.int .i64 0, .int .i64 0, .slice none 0 0]), (w.heap.size, #[.int .i64 R, .int .i64 C, .slice A n c])] V → Block V (w.heap.size + 1) 33 #[.int .i64 0, .int .i64 0, .slice none 0 0] ∧ Below w.heap.size w V := fun V hV => ⟨hV.bl (w.heap.size + 1, #[.int .i64 0, .int .i64 0, .slice none 0 0]) (by simp), hV.bel⟩
  go_enter Try.func24, Try.ntmps24
  go_wp2_with fail
  clear hwa hsa x0 x1 x2
  refine (refRight_calls R C A n c _).mono ?_
  rintro e w1 ⟨rfl, hB⟩
  have HQ := HQ.below hB
  clear hB
  rw [HR1.out]
  obtain ⟨x0, x1, x2⟩ := HQ.at_ (b := w.heap.size) (x := .int .i64 R) (y := .int .i64 C) (z := .slice A n c) (by simp)
  obtain ⟨hb, hbel⟩ := hfin _ HQ
  obtain ⟨s0, s1, s2⟩ := cells3 hb
  have f0 := hb.frozen 0
  have f1 := hb.frozen 1
  have f2 := hb.frozen 2
  clear hfin HQ
  cases b1
  case false =>
    clear h
    go_wp2
    refine bodyPost_ret (v := .tuple #[.agg #[.int .i64 0, .int .i64 0, .slice none 0 0], .int .i64 50]) (by simp [results, Try.results24, go_sem, s0, s1, s2]) rfl ?_
    exact ⟨none, 0, rfl, Nat.le_refl _, Own.nil _ _ _, below_set3 hbel (by omega) _ _ _⟩
  case true =>
    have hne : (R != C) = true := by
      have : R ≠ C := fun e => h ⟨HR1.out, e⟩
      simpa using this
    clear h
    go_wp2
    refine bodyPost_ret (v := .tuple #[.agg #[.int .i64 0, .int .i64 0, .slice none 0 0], .int .i64 50]) (by simp [results, Try.results24, go_sem, s0, s1, s2]) rfl ?_
    exact ⟨none, 0, rfl, Nat.le_refl _, Own.nil _ _ _, below_set3 hbel (by omega) _ _ _⟩

set_option maxRecDepth 100000 in
set_option maxHeartbeats 1000000 in
theorem refInverse_calls (n N c : Nat) (A : Option Addr) (s : List F8) (hn : n ≤ 100) (hN : n * n = N) (hcap : N ≤ c) (hl : s.length = N) (w : World) (hb : Bytes w A (bs s)) :
    Calls Try.prog 24 #[.agg #[.int .i64 n, .int .i64 n, .slice A N c]] w fun e w' => ∃ (rr cc : Nat) (u : List F8) (k : Int), SolAny n n n s (flat n n oneF) rr cc u k ∧ MatResE w w' e rr cc u k := by
  have HR : Hid (RightB n n N = true) := Lib.hid (rightB_iff.2 ⟨n, n, rfl, rfl, by omega, by omega, hN.symm⟩)
  have hne : ((n : Int) != (n : Int)) = false := by simp
  have hgt : decide (4096 < (n : Int)) = false := by simp; omega
  obtain ⟨I, hI⟩ : ∃ I, flat n n oneF = I := ⟨_, rfl⟩
  have hlI : I.length = N := by rw [← hI, flat_length, hN]
  have HLI := Lib.hid hlI
  have HN := Lib.hid hN
  have HL := Lib.hid hl
  have HB := Lib.hid hb
  have hone : ∀ V, Calls Try.prog 39 #[.int .i64 n] V fun e w' => MatRes V w' e n n I := fun V => hI ▸ refOne_calls n hn V
  have hmx : Try.prog.follows .mixedOrders = true := by kernel_rfl
  rw [hI]
  obtain ⟨wa, hwa, HQ, hsa⟩ := qr2 w (.int .i64 n) (.int .i64 n) (.slice A N c) (.int .i64 0) (.int .i64 0) (.slice none 0 0)
  obtain ⟨x0, x1, x2⟩ := HQ.at_ (b := w.heap.size) (x := .int .i64 n) (y := .int .i64 n) (z := .slice A N c) (by simp)
  clear hN hl hb hI hlI
  go_enter Try.func24, Try.ntmps24
  go_wp2_with fail
  clear hwa hsa x0 x1 x2
  refine (refRight_calls n n A N c _).mono ?_
  rintro e w1 ⟨rfl, hB⟩
  have HQ := HQ.below hB
  clear hB
  rw [HR.out]
  obtain ⟨x0, x1, x2⟩ := HQ.at_ (b := w.heap.size) (x := .int .i64 n) (y := .int .i64 n) (z := .slice A N c) (by simp)
  go_wp2_with fail
  clear x0 x1 x2 hne hgt
  obtain ⟨S, hSdef⟩ : ∃ S : World → Prop, S = fun V => Block V w.heap.size 33 #[.int .i64 n, .int .i64 n, .slice A N c] := ⟨_, rfl⟩
  have hSi : ∀ V, Block V w.heap.size 33 #[.int .i64 n, .int .i64 n, .slice A N c] → S V := fun V h1 => by rw [hSdef]; exact h1
  have hSc : ∀ V, S V → (V.cell? ⟨w.heap.size, 0, none⟩ = some (.int .i64 n) ∧ V.cell? ⟨w.heap.size, 1, none⟩ = some (.int .i64 n) ∧ V.cell? ⟨w.heap.size, 2, none⟩ = some (.slice A N c)) := fun V hV => by rw [hSdef] at hV; exact cells3 hV
  clear hSdef
  have HQ := HQ.drew
  have hS0 : S w1.drew := hSi _ (HQ.bl (w.heap.size, #[.int .i64 n, .int .i64 n, .slice A N c]) (by simp))
  refine wp_region_held (S := S) hmx ?_
  refine wpAnyH_takeD (i := 0) (some 20) (.agg #[.int .i64 n, .int .i64 n, .slice A N c]) rfl rfl (by kernel_rfl) (by kernel_rfl) (by kernel_rfl) (fun _ _ _ h => h) (Or.inl ⟨by kernel_rfl, fun W hW => by obtain ⟨s0, s1, s2⟩ := hSc W hW; go_simp⟩) hS0 ?_
  simp only [Act.put, List.setIfInBounds_toArray, List.set_cons_zero, List.set_cons_succ]
  refine wpAnyH_takeD (i := 1) (some 21) (.pointer (some ⟨w.heap.size, 0, none⟩)) rfl rfl (by kernel_rfl) (by kernel_rfl) (by kernel_rfl) (fun _ _ _ h => h) (Or.inl ⟨by kernel_rfl, fun W hW => by go_simp⟩) hS0 ?_
  simp only [Act.put, List.setIfInBounds_toArray, List.set_cons_zero, List.set_cons_succ]
  refine wpAnyH_takeD (i := 2) (some 22) (.int .i64 n) rfl rfl (by kernel_rfl) (by kernel_rfl) (by kernel_rfl) (fun _ _ _ h => h) (Or.inl ⟨by kernel_rfl, fun W hW => by obtain ⟨s0, s1, s2⟩ := hSc W hW; go_simp⟩) hS0 ?_
  simp only [Act.put, List.setIfInBounds_toArray, List.set_cons_zero, List.set_cons_succ]
  refine wpAnyH_one (i := 3) (by kernel_rfl) rfl (by kernel_rfl) ?_
  go_simp
  refine (hone _).mono ?_
  rintro e v1 ⟨A5, d5, rfl, hd5, hO5, hB5⟩
  rw [HLI.out] at hd5 hO5 ⊢
  have hb5 := own_bytes hO5
  have HQ := HQ.below hB5
  clear hB5 hO5
  have hS1 : S v1 := hSi _ (HQ.bl (w.heap.size, #[.int .i64 n, .int .i64 n, .slice A N c]) (by simp))
  show S v1 ∧ _
  refine ⟨hS1, ?_⟩
  refine wpAnyH_one (i := 4) (by kernel_rfl) rfl (by kernel_rfl) ?_
  go_simp
  refine (refSolve_calls n n n N N c d5 A A5 s I hn hn hn HN.out HN.out hcap hd5 HL.out HLI.out _ (HB.out.below HQ.bel) hb5).mono ?_
  rintro e v2 ⟨rr, cc, u, k, hs, A6, d6, rfl, hd6, hO6, hB6⟩
  obtain ⟨Nu, hNu⟩ : ∃ N, u.length = N := ⟨_, rfl⟩
  rw [hNu] at hd6 hO6 ⊢
  have hO6 := hO6.more HQ.bel.size
  have HQ := HQ.below hB6
  have HS := Lib.hid hs
  have HNu := Lib.hid hNu
  clear hB6 hb5 hs hNu
  have hS2 : S v2 := hSi _ (HQ.bl (w.heap.size, #[.int .i64 n, .int .i64 n, .slice A N c]) (by simp))
  show S v2 ∧ _
  refine ⟨hS2, ?_⟩
  refine wpAnyH_takeD (i := 5) (some 25) (.agg #[.int .i64 rr, .int .i64 cc, .slice A6 Nu d6]) rfl rfl (by kernel_rfl) (by kernel_rfl) (by kernel_rfl) (fun _ _ _ h => h) (Or.inl ⟨by kernel_rfl, fun W hW => by go_simp⟩) hS2 ?_
  simp only [Act.put, List.setIfInBounds_toArray, List.set_cons_zero, List.set_cons_succ]
  refine wpAnyH_takeD (i := 6) (some 26) (.int .i64 k) rfl rfl (by kernel_rfl) (by kernel_rfl) (by kernel_rfl) (fun _ _ _ h => h) (Or.inl ⟨by kernel_rfl, fun W hW => by go_simp⟩) hS2 ?_
  simp only [Act.put, List.setIfInBounds_toArray, List.set_cons_zero, List.set_cons_succ]
  refine wpAnyH_one (i := 7) (by kernel_rfl) rfl (by kernel_rfl) ?_
  have f0 := HQ.froz (b := w.heap.size + 1) (cs := #[.int .i64 0, .int .i64 0, .slice none 0 0]) (by simp) 0
  have f1 := HQ.froz (b := w.heap.size + 1) (cs := #[.int .i64 0, .int .i64 0, .slice none 0 0]) (by simp) 1
  have f2 := HQ.froz (b := w.heap.size + 1) (cs := #[.int .i64 0, .int .i64 0, .slice none 0 0]) (by simp) 2
  obtain ⟨y0, y1, y2⟩ := HQ.at_ (b := w.heap.size + 1) (x := .int .i64 0) (y := .int .i64 0) (z := .slice none 0 0) (by simp)
  obtain ⟨vy, hvy, HQ, hkeep⟩ := HQ.put (b := w.heap.size + 1) (x0 := .int .i64 0) (y0 := .int .i64 0) (z0 := .slice none 0 0) (by simp) (by omega) [(w.heap.size, #[.int .i64 n, .int .i64 n, .slice A N c])] (fun y hy => ⟨List.mem_cons_of_mem _ hy, by simp at hy; subst hy; simp⟩) (.int .i64 rr) (.int .i64 cc) (.slice A6 Nu d6)
  have hO7 := hkeep _ _ _ _ (by decide) hO6
  go_simp
  clear hvy f0 f1 f2 y0 y1 y2 hkeep hO6
  have hS3 : S vy := hSi _ (HQ.bl (w.heap.size, #[.int .i64 n, .int .i64 n, .slice A N c]) (by simp))
  refine ⟨hS3, ?_⟩
  refine wpAnyH_takeD (i := 8) (some 3) (.int .i64 k) rfl rfl (by kernel_rfl) (by kernel_rfl) (by kernel_rfl) (fun _ _ _ h => h) (Or.inl ⟨by kernel_rfl, fun W hW => by go_simp⟩) hS3 ?_
  simp only [Act.put, List.setIfInBounds_toArray, List.set_cons_zero, List.set_cons_succ]
  refine wpAnyH_done (by kernel_rfl) ?_ _
  obtain ⟨s0, s1, s2⟩ := HQ.at_ (b := w.heap.size + 1) (x := .int .i64 rr) (y := .int .i64 cc) (z := .slice A6 Nu d6) (by simp)
  go_wp2
  refine bodyPost_ret (v := .tuple #[.agg #[.int .i64 rr, .int .i64 cc, .slice A6 Nu d6], .int .i64 k]) (by simp [results, Try.results24, go_sem, s0, s1, s2]) rfl ?_
  exact ⟨rr, cc, u, k, HS.out, A6, d6, by rw [HNu.out], by rw [HNu.out]; exact hd6, by rw [HNu.out]; exact hO7, HQ.bel⟩

/-- What Packed has gathered. -/
structure PK (w0 : World) (cs : Array Value) (A : Option Addr) (n c : Nat) (X : List F8) (w : World) : Prop where
  bel : Below w0.heap.size w0 w
  blk : Block w w0.heap.size 33 cs
  own : Own w w0.heap.size 5 (.slice A n c) (bv (bs X))
  len : X.length = n
section
variable {w0 w w' : World} {cs : Array Value} {A : Option Addr} {n c : Nat} {X : List F8}
theorem PK.below (h : PK w0 cs A n c X w) (hb : Below w.heap.size w w') : PK w0 cs A n c X w' :=
  ⟨h.bel.trans (hb.mono h.bel.size), h.blk.below hb h.blk.lt, h.own.below hb, h.len⟩
theorem PK.drewN (h : PK w0 cs A n c X w) (k : Nat) : PK w0 cs A n c X (w.drewN k) := h.below (Below.drewN' (Below.refl _ _) k)
theorem PK.alloc (h : PK w0 cs A n c X w) (o : Obj) : PK w0 cs A n c X (w.alloc o) := h.below ((Below.refl _ _).alloc (Nat.le_refl _) o)
theorem PK.app (h : PK w0 cs A n c X w) {v' : Value} {x : F8} (ho : Own w' w0.heap.size 5 v' (bv (bs X) ++ [.int .u8 (x.n : Int)])) (hg : w.grownBy w' (Value.slice A n c).ownBlock) :
    ∃ A' c', v' = .slice A' (n + 1) c' ∧ PK w0 cs A' (n + 1) c' (X ++ [x]) w' := by
  have e : bv (bs X) ++ [.int .u8 (x.n : Int)] = bv (bs (X ++ [x])) := by rw [bs_append, bv_append]; rfl
  rw [e] at ho
  obtain ⟨A', c', rfl, hcl⟩ := Own.shape ho
  have hl : (X ++ [x]).length = n + 1 := by rw [List.length_append, h.len]; rfl
  rw [hl] at ho ⊢
  exact ⟨A', c', rfl, h.bel.grown hg h.bel.size (fun k hk => (h.own.lt k hk).1), (hg.block _ h.blk.lt (fun e => own_ne h.own h.blk (by decide) e.symm)).trans h.blk, ho, hl⟩
end
theorem pack_step {s : List F8} {n k m : Nat} (h : k + m < n) (hl : (k + 1) * n ≤ s.length) : ((rowL s n k).drop k).take (m + 1) = ((rowL s n k).drop k).take m ++ [ent s n k (k + m)] := by
  have hlt : k * n + (k + m) < s.length := by rw [Nat.succ_mul] at hl; omega
  rw [List.take_add_one]
  congr 1
  unfold rowL ent coef
  rw [List.getElem?_drop, List.getElem?_take, if_pos h, List.getElem?_drop, List.getD_eq_getElem?_getD, List.getElem?_eq_getElem hlt]
  rfl
/-- What Packed gives, for any square. -/
def PackIs (n : Nat) (s u : List F8) (k : Int) : Prop := (SymB n n s = true ∧ u = packL s n n ∧ k = 0) ∨ (SymB n n s = false ∧ u = [] ∧ k = 50)

set_option maxRecDepth 100000 in
set_option maxHeartbeats 1000000 in
theorem refPacked_bad (R C : Int) (A : Option Addr) (n c : Nat) (h : ¬ (RightB R C n = true ∧ R = C)) (w : World) :
    Calls Try.prog 26 #[.agg #[.int .i64 R, .int .i64 C, .slice A n c]] w (PackRes [] 50 w) := by
  obtain ⟨wa, hwa, HQ, hsa⟩ := qr1 w (.int .i64 R) (.int .i64 C) (.slice A n c)
  obtain ⟨x0, x1, x2⟩ := HQ.at_ (b := w.heap.size) (x := .int .i64 R) (y := .int .i64 C) (z := .slice A n c) (by simp)
  obtain ⟨b1, HR1⟩ : ∃ b, Hid (RightB R C n = b) := ⟨_, Lib.hid rfl⟩
  go_enter Try.func26, Try.ntmps26
  go_wp2_with fail
  clear hwa hsa x0 x1 x2
  refine (refRight_calls R C A n c _).mono ?_
  rintro e w1 ⟨rfl, hB⟩
  have HQ := HQ.below hB
  clear hB
  rw [HR1.out]
  obtain ⟨x0, x1, x2⟩ := HQ.at_ (b := w.heap.size) (x := .int .i64 R) (y := .int .i64 C) (z := .slice A n c) (by simp)
  cases b1
  case false =>
    clear h
    go_wp2
    refine bodyPost_ret (v := .tuple #[.slice none 0 0, .int .i64 50]) (by simp [results, Try.results26, go_sem]) rfl ?_
    exact ⟨none, 0, rfl, Nat.le_refl _, Own.nil _ _ _, HQ.bel⟩
  case true =>
    have hne : (R != C) = true := by
      have : R ≠ C := fun e => h ⟨HR1.out, e⟩
      simpa using this
    clear h
    go_wp2
    refine bodyPost_ret (v := .tuple #[.slice none 0 0, .int .i64 50]) (by simp [results, Try.results26, go_sem]) rfl ?_
    exact ⟨none, 0, rfl, Nat.le_refl _, Own.nil _ _ _, HQ.bel⟩

set_option maxRecDepth 100000 in
set_option maxHeartbeats 2000000 in
theorem refPacked_calls (n N c : Nat) (A : Option Addr) (s : List F8) (hn : n ≤ 100) (hN : n * n = N) (hl : s.length = N) (w : World) (hb : Bytes w A (bs s)) :
    Calls Try.prog 26 #[.agg #[.int .i64 n, .int .i64 n, .slice A N c]] w fun e w' => ∃ (u : List F8) (k : Int), PackIs n s u k ∧ PackRes u k w e w' := by
  have HR : Hid (RightB n n N = true) := Lib.hid (rightB_iff.2 ⟨n, n, rfl, rfl, by omega, by omega, hN.symm⟩)
  have hne : ((n : Int) != (n : Int)) = false := by simp
  have hrow : ∀ k, k < n → (k + 1) * n ≤ s.length := fun k hk => by rw [hl, ← hN]; exact Nat.mul_le_mul_right n (by omega)
  have HROW := Lib.hid hrow
  have hN9 : N ≤ 10000 := by rw [← hN]; exact mul_bound hn hn
  have HSB : Hid (SymB n n s = true ↔ ∀ i j, i < n → j < n → ent s n i j = ent s n j i) := Lib.hid (by rw [symB_iff (by rw [hl, hN])]; simp)
  have HN := Lib.hid hN
  have HL := Lib.hid hl
  have HB := Lib.hid hb
  have hmx : Try.prog.follows .mixedOrders = true := by kernel_rfl
  obtain ⟨wa, hwa, HQ, hsa⟩ := qr1 w (.int .i64 n) (.int .i64 n) (.slice A N c)
  obtain ⟨x0, x1, x2⟩ := HQ.at_ (b := w.heap.size) (x := .int .i64 n) (y := .int .i64 n) (z := .slice A N c) (by simp)
  clear hN hl hb hrow
  go_enter Try.func26, Try.ntmps26
  go_wp2_with fail
  clear hwa hsa x0 x1 x2
  refine (refRight_calls n n A N c _).mono ?_
  rintro e w1 ⟨rfl, hB⟩
  have HQ := HQ.below hB
  clear hB
  rw [HR.out]
  obtain ⟨x0, x1, x2⟩ := HQ.at_ (b := w.heap.size) (x := .int .i64 n) (y := .int .i64 n) (z := .slice A N c) (by simp)
  have HP : Hid (PK w #[.int .i64 n, .int .i64 n, .slice A N c] none 0 0 [] w1) := Lib.hid ⟨HQ.bel, HQ.bl (w.heap.size, #[.int .i64 n, .int .i64 n, .slice A N c]) (by simp), Own.nil _ _ _, rfl⟩
  clear HQ
  go_wp2_with fail
  clear x0 x1 x2 hne
  go_loopw [4, 5] (fun p i wr => ∃ (k : Nat) (X : List F8) (A7 : Option Addr) (n7 c7 : Nat), k ≤ n ∧ i = .int .i64 k ∧ p = .slice A7 n7 c7 ∧ Hid (X = packL s n k) ∧ Hid (PK w #[.int .i64 n, .int .i64 n, .slice A N c] A7 n7 c7 X wr) ∧ Hid (∀ a b, a < k → a ≤ b → b < n → ent s n a b = ent s n b a)) (fun _ i _ => n - (intOf i).toNat)
  case atStart => exact ⟨0, [], none, 0, 0, Nat.zero_le _, rfl, rfl, Lib.hid rfl, HP, Lib.hid (fun a b h => by omega)⟩
  case round =>
    clear HP
    obtain ⟨k, X, A7, n7, c7, hk, rfl, rfl, HX, HP, HS⟩ := hrel
    obtain ⟨x0, x1, x2⟩ := cells3 HP.out.blk
    by_cases hkn : k < n
    · go_wp2_with fail
      clear x0 x1 x2
      go_loopw [4, 6] (fun p j wr => ∃ (m t : Nat) (X : List F8) (A7 : Option Addr) (n7 c7 : Nat), k + m = t ∧ t ≤ n ∧ j = .int .i64 t ∧ p = .slice A7 n7 c7 ∧ Hid (X = packL s n k ++ ((rowL s n k).drop k).take m) ∧ Hid (PK w #[.int .i64 n, .int .i64 n, .slice A N c] A7 n7 c7 X wr) ∧ Hid (∀ b, k ≤ b → b < t → ent s n k b = ent s n b k)) (fun _ j _ => n - (intOf j).toNat)
      case atStart => exact ⟨0, k, X, A7, n7, c7, rfl, hk, rfl, rfl, Lib.hid (by rw [HX.out]; simp), HP, Lib.hid (fun b h1 h2 => by omega)⟩
      case round =>
        clear HP HX
        obtain ⟨m, t, X, A7, n7, c7, hmt, htn, rfl, rfl, HX, HP, HT⟩ := hrel
        obtain ⟨x0, x1, x2⟩ := cells3 HP.out.blk
        have HMT := Lib.hid hmt
        by_cases ht : t < n
        · have hx1 : k * n + t < s.length := by rw [HL.out, ← HN.out]; exact idx_lt hkn ht
          have hx2 : t * n + k < s.length := by rw [HL.out, ← HN.out]; exact idx_lt ht hkn
          have hbw := HB.out.below HP.out.bel
          obtain ⟨b3, o3, rfl⟩ := where_ hbw (by omega)
          have hc1 := cellAt hbw _ hx1
          have hc2 := cellAt hbw _ hx2
          have HE1 : Hid (ent s n k t = coef s (k * n + t)) := Lib.hid rfl
          have HE2 : Hid (ent s n t k = coef s (t * n + k)) := Lib.hid rfl
          obtain ⟨xa, ha⟩ : ∃ a, coef s (k * n + t) = a := ⟨_, rfl⟩
          obtain ⟨xb, hb⟩ : ∃ a, coef s (t * n + k) = a := ⟨_, rfl⟩
          rw [ha] at hc1 HE1
          rw [hb] at hc2 HE2
          obtain ⟨p1, hp1⟩ : ∃ p, k * n + t = p := ⟨_, rfl⟩
          obtain ⟨p2, hp2⟩ : ∃ p, t * n + k = p := ⟨_, rfl⟩
          rw [hp1, HL.out] at hx1
          rw [hp2, HL.out] at hx2
          rw [hp1] at hc1
          rw [hp2] at hc2
          obtain ⟨u1, hw1, hw2⟩ := index_at hp1 (by omega)
          obtain ⟨u2, hw3, hw4⟩ := index_at hp2 (by omega)
          have HSTEP := Lib.hid (pack_step (s := s) (n := n) (k := k) (m := m) (by omega) (HROW.out k hkn))
          have hlen : n7 ≤ 20000 := by
            have h1 := HP.out.len
            have h2 : (packL s n k).length ≤ k * n := packL_length (fun j hj => HROW.out j (by omega))
            have h3 : k * n ≤ 100 * 100 := Nat.mul_le_mul (by omega) hn
            rw [HX.out, List.length_append, List.length_take] at h1
            omega
          have HLEN := Lib.hid hlen
          clear ha hb hp1 hp2 hbw hlen hmt
          by_cases hxx : xa = xb
          · subst hxx
            have hxb : ((xa.n : Int) != (xa.n : Int)) = false := by simp
            go_wp2_with fail
            go_region
            have HLn := Lib.hid HP.out.len
            go_wp2_with (at_builtin; refine wpList_app _ rfl (.tmp 51) (.tmp 62) _ rfl w.heap.size 5 (.int .u8 0) 1 Try.underlying22 info_u8 rfl (by decide) (.slice A7 n7 c7) _ rfl ((HP.out.drewN _).alloc _).own _ 1 1 [.int .u8 (xa.n : Int)] rfl rfl (Row.one (by exact (cell_new _ _ _ _).trans (by simp))) (by simp [Value.oneCell']) (by have := HLEN.out; rw [bvs_length, HLn.out]; omega) (by have := HP.out.bel.size; simp; omega) ?_; intro v8 w8 hown hg8 _)
            obtain ⟨A8, c8, rfl, HPn⟩ := ((HP.out.drewN _).alloc _).app hown hg8
            have HPn := Lib.hid HPn
            clear hown hg8
            have HX2 : Hid (X ++ [xa] = packL s n k ++ ((rowL s n k).drop k).take (m + 1)) := Lib.hid (by rw [HSTEP.out, HX.out, List.append_assoc, HMT.out, HE1.out])
            have HT2 : Hid (∀ b, k ≤ b → b < t + 1 → ent s n k b = ent s n b k) := Lib.hid (fun b h1 h2 => by
              by_cases e : b = t
              · rw [e, HE1.out, HE2.out]
              · exact HT.out b h1 (by omega))
            have hmt2 : k + (m + 1) = t + 1 := by have := HMT.out; omega
            go_roundw
            case rel => exact ⟨m + 1, t + 1, _, _, _, _, hmt2, by omega, by go_num, rfl, HX2, HPn, HT2⟩
            case measure => simp [intOf]; omega
          · have hxb : ((xa.n : Int) != (xb.n : Int)) = true := by have := n_beq_false hxx; simp [bne, this]
            have HNo : Hid (SymB n n s = false) := Lib.hid (by
              by_cases h : SymB n n s = true
              · exact absurd (by rw [← HE1.out, ← HE2.out]; exact HSB.out.1 h k t hkn ht) hxx
              · simpa using h)
            clear hxx
            go_wp2_with fail
            go_region
            go_wp2
            refine bodyPost_ret (v := .tuple #[.slice none 0 0, .int .i64 50]) (by simp [results, Try.results26, go_sem]) rfl ?_
            exact ⟨[], 50, .inr ⟨HNo.out, rfl, rfl⟩, none, 0, rfl, Nat.le_refl _, Own.nil _ _ _, (HP.out.drewN _).bel⟩
        · have etn : n = t := by omega
          subst etn
          have HX2 : Hid (X = packL s n (k + 1)) := Lib.hid (by
            rw [HX.out, List.take_of_length_le (by rw [List.length_drop, rowL_length (HROW.out k hkn)]; have := HMT.out; omega)]; rfl)
          have HS2 : Hid (∀ a b, a < k + 1 → a ≤ b → b < n → ent s n a b = ent s n b a) := Lib.hid (fun a b h1 h2 h3 => by
            by_cases e : a = k
            · subst e; exact HT.out b h2 h3
            · exact HS.out a b (by omega) h2 h3)
          clear hmt
          go_wp2
          go_roundw
          case rel => exact ⟨k + 1, X, A7, n7, c7, by omega, by go_num, rfl, HX2, HP, HS2⟩
          case measure => simp [intOf]; omega
    · have ekn : n = k := by omega
      subst ekn
      have HYes : Hid (SymB n n s = true) := Lib.hid (HSB.out.2 (fun i j hi hj => by
        rcases Nat.le_total i j with h | h
        · exact HS.out i j hi h hj
        · exact (HS.out j i hj h hi).symm))
      have HLn := Lib.hid HP.out.len
      go_wp2
      refine bodyPost_ret (v := .tuple #[.slice A7 n7 c7, .int .i64 0]) (by simp [results, Try.results26, go_sem]) rfl ?_
      have hcap := HP.out.own
      obtain ⟨A9, c9, e9, hc9⟩ := Own.shape hcap
      injection e9 with e1 e2 e3
      exact ⟨X, 0, .inl ⟨HYes.out, HX.out, rfl⟩, A7, c7, by rw [HLn.out], by omega, by rw [HLn.out]; exact HP.out.own, HP.out.bel⟩
end Go.Proofs.Ythenpfcnpcgfbaa.Mat
