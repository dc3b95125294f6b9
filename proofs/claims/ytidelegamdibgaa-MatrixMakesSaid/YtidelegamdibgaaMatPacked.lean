/- What the program's Packed does. -/
import Derived.Test.YtidelegamdibgaaMatOne
import Derived.Test.YtidelegamdibgaaMatSame
import Derived.Test.YtidelegamdibgaaMatPart
namespace Go.Proofs.Ytidelegamdibgaa.Mat
open Go.RowKit Go.Shelf F8 Poly GF
attribute [local go_sem] Oper.semAt_some

/-- The bytes that tell a symmetric matrix of n columns: of its first k rows each from the diagonal on. -/
def packL (s : List F8) (n : Nat) : Nat → List F8
  | 0 => []
  | k + 1 => packL s n k ++ (rowL s n k).drop k
theorem packL_length {s : List F8} {n : Nat} : ∀ {k : Nat}, (∀ j, j < k → (j + 1) * n ≤ s.length) → (packL s n k).length ≤ k * n
  | 0, _ => by simp [packL]
  | k + 1, h => by
    have ih := packL_length (k := k) (fun j hj => h j (by omega))
    simp only [packL, List.length_append, List.length_drop]
    rw [rowL_length (h k (by omega)), Nat.succ_mul]; omega
/-- Is it symmetric? -/
def SymB (r c : Nat) (s : List F8) : Bool := SameB r c c r s (flat c r (tr (ent s c)))
theorem symB_iff {r c : Nat} {s : List F8} (hl : s.length = r * c) : SymB r c s = true ↔ r = c ∧ ∀ i j, i < r → j < r → ent s c i j = ent s c j i := by
  unfold SymB SameB
  rw [decide_eq_true_iff]
  constructor
  · rintro ⟨h1, -, h2⟩
    obtain rfl : r = c := by omega
    refine ⟨rfl, fun i j hi hj => ?_⟩
    have h3 : ent s r i j = ent (flat r r (tr (ent s r))) r i j := by rw [← h2]
    rw [ent_flat hi hj] at h3
    exact h3
  · rintro ⟨rfl, h⟩
    refine ⟨rfl, rfl, (isM_self hl).only (isM_flat _ _ _) (fun i j hi hj => by rw [h i j hi hj]; rfl)⟩
/-- What Packed gives. -/
def PackRes (s : List F8) (n : Int) (w : World) (e : Ending) (w' : World) : Prop :=
  ∃ A c, e = .returned (.tuple #[.slice A s.length c, .int .i64 n]) ∧ s.length ≤ c ∧ Own w' w.heap.size 5 (.slice A s.length c) (bv (bs s)) ∧ Below w.heap.size w w'
set_option maxRecDepth 100000 in
set_option maxHeartbeats 2000000 in
theorem packed_bad (R C : Int) (A : Option Addr) (n cap : Nat) (h : RightB R C n = false) (w : World) : Calls Try.prog 65 #[.agg #[.int .i64 R, .int .i64 C, .slice A n cap]] w (PackRes [] 50 w) := by
  have HR := Lib.hid h
  clear h
  go_enter Try.func65, Try.ntmps65
  go_wp2_with fail
  refine (turned_bad R C A n cap HR.out _).mono ?_
  rintro e w1 ⟨A1, c1, rfl, h1, h2, h3⟩
  have hB1 : Below w.heap.size w w1 := ((Below.refl _ w).alloc (Nat.le_refl _) _).trans (h3.mono (by simp))
  clear h1 h2 h3
  go_wp2
  refine bodyPost_ret (v := .tuple #[.slice none 0 0, .int .i64 50]) (by simp [results, Try.results65, go_sem]) rfl ?_
  exact ⟨none, 0, rfl, Nat.le_refl _, Own.nil _ _ _, hB1.alloc hB1.size _⟩
set_option maxRecDepth 100000 in
set_option maxHeartbeats 2000000 in
theorem packed_unlike (r c N cap : Nat) (A : Option Addr) (s : List F8) (hN : N = r * c) (hr : r ≤ 65536) (hc : c ≤ 65536) (hN9 : N ≤ 1000000000) (hcap : N ≤ cap) (hl : s.length = N) (h : SymB r c s = false) (w : World) (hb : Bytes w A (bs s)) :
    Calls Try.prog 65 #[.agg #[.int .i64 r, .int .i64 c, .slice A N cap]] w (PackRes [] 50 w) := by
  have HB := Lib.hid hb
  have HL := Lib.hid hl
  have HS : Hid (SameB r c c r s (flat c r (tr (ent s c))) = false) := Lib.hid h
  have hTl : (flat c r (tr (ent s c))).length = N := by rw [flat_length, hN, Nat.mul_comm]
  have HN := Lib.hid hN
  clear hb hl h hN
  obtain ⟨wa, hwa⟩ : ∃ wa, w.alloc (.cells #[.int .i64 r, .int .i64 c, .slice A N cap] 24) = wa := ⟨_, rfl⟩
  have hba : Block wa w.heap.size 24 #[.int .i64 r, .int .i64 c, .slice A N cap] := by rw [← hwa]; exact Block.new _ _ _
  have hBa : Below w.heap.size w wa := by rw [← hwa]; exact (Below.refl _ w).alloc (Nat.le_refl _) _
  obtain ⟨n0, n1', n2'⟩ := cells3 hba
  go_enter Try.func65, Try.ntmps65
  go_wp2_with fail
  refine (turned_calls r c N cap A s HN.out hr hc hN9 hcap HL.out _ (HB.out.below hBa)).mono ?_
  obtain ⟨T, hT⟩ : ∃ T, flat c r (tr (ent s c)) = T := ⟨_, rfl⟩
  rw [hT] at HS hTl ⊢
  rintro e w1 ⟨A1, c1, rfl, h1, h2, h3⟩
  rw [hTl] at h1 h2 ⊢
  have hba1 := hba.below h3 hba.lt
  have hBw1 := hBa.trans (h3.mono hBa.size)
  have hbt := Block.new w1 24 #[.int .i64 c, .int .i64 r, .slice A1 N c1]
  have hBw2 := hBw1.alloc hBw1.size (.cells #[.int .i64 c, .int .i64 r, .slice A1 N c1] 24)
  have hba2 := hba1.alloc (.cells #[.int .i64 c, .int .i64 r, .slice A1 N c1] 24)
  have hO2 := Lib.hid (h2.alloc (.cells #[.int .i64 c, .int .i64 r, .slice A1 N c1] 24))
  obtain ⟨m0, m1, m2⟩ := cells3 hba2
  obtain ⟨t0, t1, t2⟩ := cells3 hbt
  clear hwa hba hBa n0 n1' n2' h2 h3 hba1 hBw1
  go_wp2_with fail
  refine (msame_calls r c c r A A1 s T N N cap c1 _ HL.out hTl (HB.out.below hBw2) (Own.bytes hO2.out)).mono ?_
  rintro e w3 ⟨rfl, hB3⟩
  rw [HS.out]
  have hBw3 := hBw2.trans (hB3.mono hBw2.size)
  clear hbt hBw2 hba2 m0 m1 m2 t0 t1 t2 hB3
  go_wp2
  refine bodyPost_ret (v := .tuple #[.slice none 0 0, .int .i64 50]) (by simp [results, Try.results65, go_sem]) rfl ?_
  exact ⟨none, 0, rfl, Nat.le_refl _, Own.nil _ _ _, hBw3⟩
set_option maxRecDepth 100000 in
set_option maxHeartbeats 4000000 in
theorem packed_calls (n N cap : Nat) (A : Option Addr) (s : List F8) (hN : N = n * n) (hn : n ≤ 65536) (hN9 : N ≤ 1000000000) (hcap : N ≤ cap) (hl : s.length = N) (h : SymB n n s = true) (w : World) (hb : Bytes w A (bs s)) :
    Calls Try.prog 65 #[.agg #[.int .i64 n, .int .i64 n, .slice A N cap]] w (PackRes (packL s n n) 0 w) := by
  have HB := Lib.hid hb
  have HL := Lib.hid hl
  have HN := Lib.hid hN
  have HS : Hid (SameB n n n n s (flat n n (tr (ent s n))) = true) := Lib.hid h
  have hTl : (flat n n (tr (ent s n))).length = N := by rw [flat_length, hN]
  obtain ⟨P, hP⟩ : ∃ P, n * (n + 1) = P := ⟨_, rfl⟩
  have hP9 : P ≤ 2000000000 := by rw [← hP, Nat.mul_succ, ← hN]; omega
  have harea : ∀ V, Calls Try.prog 49 #[.int .i64 n, .int .i64 ((n : Int) + 1)] V fun e w' => e = .returned (.int .i64 (P : Nat)) ∧ w' = V := fun V => by
    have e : (n : Int) * ((n : Int) + 1) = (P : Int) := by rw [← hP]; push_cast; rfl
    exact (area_calls n ((n : Int) + 1) (by rw [e]; omega) V).mono fun _ _ h => ⟨by rw [← e]; exact h.1, h.2.symm⟩
  obtain ⟨K, hK⟩ : ∃ K, P / 2 = K := ⟨_, rfl⟩
  have hKi : (P : Int) / 2 = (K : Int) := by omega
  have hK9 : K ≤ 1000000000 := by omega
  clear hb hl h hP hN hK
  refine (callsIn_wide (n := 9)).1 (callsIn_of_wp_marks Try.func65 rfl trivial ?_ rfl)
  simp only [Try.ntmps65, List.size_toArray, List.length_cons, List.length_nil, Nat.reduceAdd, Nat.reduceSub, Array.replicate_succ, Array.replicate_zero, List.push_toArray, List.append_toArray, List.nil_append, List.cons_append]
  refine wpIn_wide.2 ?_
  obtain ⟨wa, hwa⟩ : ∃ wa, w.alloc (.cells #[.int .i64 n, .int .i64 n, .slice A N cap] 24) = wa := ⟨_, rfl⟩
  have hba : Block wa w.heap.size 24 #[.int .i64 n, .int .i64 n, .slice A N cap] := by rw [← hwa]; exact Block.new _ _ _
  have hBa : Below w.heap.size w wa := by rw [← hwa]; exact (Below.refl _ w).alloc (Nat.le_refl _) _
  obtain ⟨n0, n1', n2'⟩ := cells3 hba
  have hmx : Try.prog.follows .mixedOrders = true := by kernel_rfl
  go_wp2_with fail
  refine (turned_calls n n N cap A s HN.out hn hn hN9 hcap HL.out _ (HB.out.below hBa)).mono ?_
  obtain ⟨T, hT⟩ : ∃ T, flat n n (tr (ent s n)) = T := ⟨_, rfl⟩
  rw [hT] at HS hTl ⊢
  rintro e w1 ⟨A1, c1, rfl, h1, h2, h3⟩
  rw [hTl] at h1 h2 ⊢
  have hba1 := hba.below h3 hba.lt
  have hBw1 := hBa.trans (h3.mono hBa.size)
  have hbt := Block.new w1 24 #[.int .i64 n, .int .i64 n, .slice A1 N c1]
  have hBw2 := hBw1.alloc hBw1.size (.cells #[.int .i64 n, .int .i64 n, .slice A1 N c1] 24)
  have hba2 := hba1.alloc (.cells #[.int .i64 n, .int .i64 n, .slice A1 N c1] 24)
  have hO2 := Lib.hid (h2.alloc (.cells #[.int .i64 n, .int .i64 n, .slice A1 N c1] 24))
  obtain ⟨m0, m1, m2⟩ := cells3 hba2
  obtain ⟨t0, t1, t2⟩ := cells3 hbt
  clear hwa hba hBa n0 n1' n2' h2 h3 hba1 hBw1
  go_wp2_with fail
  refine (msame_calls n n n n A A1 s T N N cap c1 _ HL.out hTl (HB.out.below hBw2) (Own.bytes hO2.out)).mono ?_
  rintro e w3 ⟨rfl, hB3⟩
  rw [HS.out]
  have hBw3 := hBw2.trans (hB3.mono hBw2.size)
  have hba3 := hba2.below hB3 hba2.lt
  obtain ⟨p0, p1, p2⟩ := cells3 hba3
  clear hbt hBw2 hba2 m0 m1 m2 t0 t1 t2 hB3 hO2
  go_wp2_with fail
  refine (harea _).mono ?_
  rintro e w4 ⟨rfl, rfl⟩
  obtain ⟨w5, hmk, hO5, hB5⟩ := make_room w4 K hK9
  have hba5 := hba3.below hB5 hba3.lt
  have hBw5 := hBw3.trans (hB5.mono hBw3.size)
  have hs5 := hB5.size
  obtain ⟨q0, q1, q2⟩ := cells3 (hba5.alloc (.cells #[.slice (some ⟨w4.heap.size, 0, none⟩) 0 K] 22))
  have HBa5 := Lib.hid hba5
  have HBw5 := Lib.hid hBw5
  have HO5 := Lib.hid hO5
  have hw4 := hBw3.size
  clear hba3 hBw3 hba5 hBw5 hB5 hO5 p0 p1 p2 harea
  go_wp2_with fail
  refine (all_calls n n N cap A (by omega) _).mono ?_
  rintro e W0 ⟨Bat, Bm, gi, rfl, a1, a2, a3, hV, hB0, a4⟩
  simp only [World.size_alloc] at a1 a2 a3
  have hbp0 : Block W0 w5.heap.size 22 #[.slice (some ⟨w4.heap.size, 0, none⟩) 0 K] := (Block.new _ _ _).below hB0 (by simp)
  have hO0 : Own W0 w4.heap.size 5 (.slice (some ⟨w4.heap.size, 0, none⟩) 0 K) (bv (bs [])) := (HO5.out.alloc _).below hB0
  have hBw0 : Below w.heap.size w W0 := (HBw5.out.alloc (by omega) _).trans (hB0.mono (by simp; omega))
  have hs0 := hB0.size
  simp only [World.size_alloc] at hs0
  have hg5 := HO5.out.blk.2
  have hN2 : ∀ k, k < n → (k + 1) * n ≤ N := fun k hk => by rw [HN.out]; exact Nat.mul_le_mul_right n (by omega)
  clear hB0 q0 q1 q2 HBw5 HBa5 HO5 hmk
  go_wp2_with fail
  refine wpIn_wide.1 (wpIn_rows (n := 9) (by omega) (Bat := Bat) (Bm := Bm) (na := n) (ca := n) (c := n) (N := N) (cap := cap) (Aat := some ⟨gi, 0, none⟩) (A := A) (ats := List.range n) (R := n) (fun k => k) (by simp) (by omega) (fun k hk => List.getElem?_range hk)
    (by omega) hcap (by omega) (fun k hk => ⟨hN2 k hk, by omega⟩) rfl
    (fun k W => Vis W Bat Bm (some ⟨gi, 0, none⟩) n n (List.range n) n n A N cap ∧ Below w.heap.size w W ∧ ∃ v, Block W w5.heap.size 22 #[v] ∧ Own W w4.heap.size 5 v (bv (bs (packL s n k))) ∧ (∀ b, v.ownBlock = some b → b = w4.heap.size ∨ W0.heap.size ≤ b))
    (fun _ _ => False)
    (fun k W W' ⟨h1, h4, v, h5, h6, h7⟩ t => ⟨h1.turn t, h4.trans (t.below.mono (by omega)), v, t.block h5, t.own h6, h7⟩)
    (fun _ _ _ h _ => h)
    (fun k W h => h.1)
    ⟨hV, hBw0, _, hbp0, hO0, fun b hb => .inl (by simpa [Value.ownBlock] using hb.symm)⟩
    ?a1 ?assign ?body ?done (fun _ _ h => h.elim))
  case assign =>
    intro l k W K' hk hK'
    gi_wp2
    exact hK'
  case body =>
    rintro l k W hk ⟨h1, h4, v, h5, h6, h7⟩ hsz
    have hrow := hN2 k hk
    have hbw := HB.out.below h4
    have hrl : (rowL s n k).length = n := rowL_length (by rw [HL.out]; exact hrow)
    obtain ⟨A2, hrun, hb2, _⟩ := slice_from (rowA_bytes (c := n) (i := k) hbw) n k (by rw [hrl]; omega) (by rw [hrl]; exact Nat.le_refl _)
    rw [hrl] at hrun
    have hdl : ((rowL s n k).drop k).length = n - k := by rw [List.length_drop, hrl]
    have hpl : (packL s n k).length ≤ N := by
      have h1 := packL_length (s := s) (n := n) (k := k) (fun j hj => by rw [HL.out]; exact hN2 j (by omega))
      have h2 := Nat.mul_le_mul_right n (show k ≤ n by omega)
      rw [← HN.out] at h2
      omega
    obtain ⟨d, hd⟩ : ∃ d, n - k = d := ⟨_, rfl⟩
    have hdn : d ≤ n := by omega
    rw [hd] at hrun hdl
    have p0 := h5.cell 0
    have pf := h5.frozen 0
    have H1 := Lib.hid h1
    have H4 := Lib.hid h4
    have H5 := Lib.hid h5
    have H6 := Lib.hid h6
    have H7 := Lib.hid h7
    have HRl := Lib.hid hdl
    have Hb2 := Lib.hid hb2
    have hww := h4.size
    clear h1 h4 h5 h6 h7 hrl hdl hb2 hbw hd
    generalize rowA A (k * n) n = RA at hrun ⊢
    gi_wp2
    refine region_round_tail 4 hmx (by kernel_rfl) (by kernel_rfl) (fun h => by obtain ⟨a, w, h⟩ := h; exact h) ?_
    simp only [List.take_succ_cons, List.take_zero, List.drop_succ_cons, List.drop_zero]
    iterate 4 still_step
    refine wpStill_nil ?_
    refine wpList_app (w := W.drew) rfl (.tmp 34) (.tmp 37) 22 rfl w4.heap.size 5 (.int .u8 0) 1 Try.underlying22 info_u8 rfl (by decide) v _ rfl H6.out.drew A2 d d (bv (bs ((rowL s n k).drop k))) rfl (by rw [bvs_length, HRl.out]) (Hb2.out.row.drew) (bv_one _) (by rw [bvs_length]; omega) (by show w4.heap.size ≤ W.heap.size; omega) ?_
    intro v' W2 hO2 hgr hob
    obtain ⟨A7, n7, c7, hv7⟩ : ∃ A7 n7 c7, v' = .slice A7 n7 c7 := by obtain ⟨A7, c7, e, _⟩ := Own.form hO2; exact ⟨A7, _, c7, e⟩
    subst hv7
    have hB2 : But W.heap.size (fun b => v.ownBlock = some b) W W2 := (But.refl _ _ W).drew.trans (but_grown hgr)
    have hsz2 := hB2.size
    have hnb : ∀ b, b < W0.heap.size → b ≠ w4.heap.size → ¬ v.ownBlock = some b := fun b hb hn e => by
      rcases H7.out b e with h | h <;> omega
    have hl2 := hB2.blk H5.out H5.out.lt (hnb w5.heap.size (by omega) (by omega))
    have y0 := hl2.cell 0
    have yf := hl2.frozen 0
    have hkp : KeepsFrom W0.heap.size W W2 := keeps_but hB2 (fun b o hb ho => own_isCells' H6.out hb ho)
    have G1 := Lib.hid (H1.out.keep (W' := W2.setCell ⟨w5.heap.size, 0, none⟩ (.slice A7 n7 c7)) (fun q hq e => by
      have hq0 : q ≠ w5.heap.size ∧ ¬ v.ownBlock = some q := by
        rcases e with rfl | rfl | ⟨a, ha, rfl⟩
        · exact ⟨by omega, fun e => by
            rcases H7.out _ e with h | h
            · omega
            · exact own_ne H6.out H1.out.at_ (by decide) e⟩
        · exact ⟨by omega, fun e => by
            rcases H7.out _ e with h | h
            · omega
            · exact own_ne H6.out H1.out.m_ (by decide) e⟩
        · cases ha
          exact ⟨by show gi ≠ w5.heap.size; omega, hnb gi a4 (by omega)⟩
      rw [Below.heap_setCell _ _ _ _ (by simpa using hq0.1)]
      exact hB2.block q hq hq0.2))
    have G4 : Hid (Below w.heap.size w (W2.setCell ⟨w5.heap.size, 0, none⟩ (.slice A7 n7 c7))) := Lib.hid ((H4.out.trans ((hB2.mono (S' := fun _ => False) hww (fun b hb e => by rcases H7.out b e with h | h <;> omega)) |> fun h => ⟨h.os, h.tape, h.output, h.size, fun k hk => h.block k hk id⟩)).setCell (p := ⟨w5.heap.size, 0, none⟩) (by simp; omega) _)
    have G5 : Hid (Block (W2.setCell ⟨w5.heap.size, 0, none⟩ (.slice A7 n7 c7)) w5.heap.size 22 #[.slice A7 n7 c7]) := Lib.hid (by simpa using hl2.set_ 0 (.slice A7 n7 c7))
    have hne' : (Value.slice A7 n7 c7).ownBlock ≠ some w5.heap.size := by
      rcases hob with h | h
      · rw [h]; exact hnb w5.heap.size (by omega) (by omega)
      · rw [h]
        intro e
        injection e with e
        have : W.drew.heap.size = W.heap.size := rfl
        omega
    have G6 := Lib.hid (Own.far (p := ⟨w5.heap.size, 0, none⟩) hO2 hne' (.slice A7 n7 c7))
    have G7 : Hid (∀ b, (Value.slice A7 n7 c7).ownBlock = some b → b = w4.heap.size ∨ W0.heap.size ≤ b) := Lib.hid (fun b hb => by
      rcases hob with h | h
      · rw [h] at hb; exact H7.out b hb
      · rw [h] at hb
        injection hb with hb
        have : W.drew.heap.size = W.heap.size := rfl
        exact .inr (by omega))
    have GP : Hid (bv (bs (packL s n k)) ++ bv (bs ((rowL s n k).drop k)) = bv (bs (packL s n (k + 1)))) := Lib.hid (by simp only [packL, bs_append, bv_append])
    have hkp2 : KeepsFrom W0.heap.size W (W2.setCell ⟨w5.heap.size, 0, none⟩ (.slice A7 n7 c7)) := hkp.trans ((KeepsOthers.setCell _ _ _).from _)
    rw [GP.out] at G6
    clear hO2 hgr hob hB2 hnb hl2 hkp hne' p0 pf
    go_wp2
    exact ⟨hkp2, G1.out, G4.out, .slice A7 n7 c7, G5.out, G6.out, G7.out⟩
  case done =>
    rintro W ⟨h1, h4, v, h5, h6, h7⟩ hD
    obtain ⟨A9, c9, rfl, hc9⟩ := Own.shape h6
    have l0 := h5.cell 0
    go_wp2
    refine ⟨by simp, .inl ⟨_, _, rfl, run_takeDeferred hD, ?_⟩⟩
    have ht : Turn w.heap.size W _ := Turn.put hD rfl (by omega) (.deferred none)
    exact ⟨.tuple #[.slice A9 (packL s n n).length c9, .int .i64 0], by simp [results, Try.results65, go_sem], A9, c9, rfl, hc9, (ht.own h6).more (B' := w.heap.size) (by omega), h4.trans ht.below⟩
end Go.Proofs.Ytidelegamdibgaa.Mat
