/- Of the program, joined: MatPart, MatRank. -/
import Derived.Test.YtjoghbmedfmioaaGreatPb15
import Derived.Test.YtjoghbmedfmioaaGreatPb20
namespace Go.Proofs.YtjoghbmedfmioaaGreat.Mat
open Go.RowKit Go.Shelf F8 Poly GF
attribute [local go_sem] Oper.semAt_some
theorem make_room (w : World) (n : Nat) (hn : n ≤ 1000000000) :
  ∃ w', (Instr.makeSlice 34 (.int .i64 0) (.int .i64 (n : Int))).run Tryz.prog w = .ok (.slice (some ⟨w.heap.size, 0, none⟩) 0 n) w' ∧ Own w' w.heap.size 5 (.slice (some ⟨w.heap.size, 0, none⟩) 0 n) (bv (bs [])) ∧ Below w.heap.size w w' := by
 obtain ⟨i0, hi, hi1, hi2, hi3⟩ := info_parts info_u8
 obtain ⟨w1, h1, h2, h3⟩ := run_make_own (P := Tryz.prog) w w.heap.size 34 5 i0 _ 1 Tryz.underlying34 hi hi1 hi2 .i64 .i64 n (by rw [hi3]; omega) (by simp only [maxLen]; omega) (Nat.le_refl _)
 exact ⟨w1, h1, h2, (Below.refl w.heap.size w).grown h3 (Nat.le_refl _) (fun _ h => by cases h)⟩
theorem wp_to_two {P : Program} {c : Code} {Q : Exit → Act → World → Prop} {a : Act} {w : World} (a2 : Nat → Nat → Act) (R : Nat → Nat → World → Prop) (h : c.wp P (fun e a' w' => e = .normal ∧ ∃ m n, a' = a2 m n ∧ R m n w') a w) (hK : ∀ m n w', R m n w' → Q .normal (a2 m n) w') : c.wp P Q a w :=
 wp_mono h (by rintro e a w ⟨rfl, m, n, rfl, hr⟩; exact hK m n _ hr)
def partL (s : List F8) (c from_ : Nat) (pos : Nat → Nat) : Nat → List F8
 | 0 => []
 | k + 1 => partL s c from_ pos k ++ (rowL s c (pos k)).drop from_
theorem partL_length {s : List F8} {c from_ : Nat} {pos : Nat → Nat} : ∀ {k : Nat}, (∀ j, j < k → (pos j + 1) * c ≤ s.length) → (partL s c from_ pos k).length = k * (c - from_)
 | 0, _ => by simp [partL]
 | k + 1, h => by
  simp only [partL, List.length_append, List.length_drop]
  rw [partL_length (fun j hj => h j (by omega)), rowL_length (h k (by omega)), Nat.succ_mul]
def CutRes (na : Nat) (c from_ : Nat) (s : List F8) (pos : Nat → Nat) (w : World) (e : Ending) (w' : World) : Prop := MatRes w w' e na (c - from_) (partL s c from_ pos na)
theorem own_isCells' {w : World} {B b : Nat} {e : TypeId} {v : Value} {xs : List Value} {o : Obj} (h : Own w B e v xs) (hv : v.ownBlock = some b) (ho : w.heap[b]? = some o) : o.isCells = true := by
 rcases h.2 with ⟨rfl, _⟩ | ⟨g', cap, cur, rfl, h2, h3, _⟩
 ·simp [Value.ownBlock] at hv
 ·obtain rfl : g' = b := by simpa [Value.ownBlock] using hv
  rw [h3] at ho; cases ho; rfl
theorem but_grown {w w' : World} {row : Option Nat} (h : w.grownBy w' row) : But w.heap.size (fun b => row = some b) w w' :=
 ⟨h.os, h.tape, h.output, h.size, fun k hk hn => h.block k hk (fun e => hn e.symm)⟩
set_option maxRecDepth 100000 in
set_option maxHeartbeats 4000000 in
theorem cut_calls (R : Int) (c N cap from_ na ca : Nat) (A Aat : Option Addr) (s : List F8) (ats : List Nat) (pos : Nat → Nat) (hna : ats.length = na) (hna2 : na ≤ 65536) (hpos : ∀ k, k < na → ats[k]? = some (pos k)) (hc : c ≤ 1000000) (hf : from_ ≤ c) (hN : N ≤ 140737488355328) (hcap : N ≤ cap) (hin : ∀ k, k < na → (pos k + 1) * c ≤ N ∧ pos k ≤ 65536) (hbig : na * (c - from_) ≤ 1000000000)
  (w : World) (hl : s.length = N) (hb : Bytes w A (bs s)) (hr : Row w Aat (iv ats)) :
  Calls Tryz.prog 181 #[.agg #[.int .i64 R, .int .i64 c, .slice A N cap], .int .i64 from_, .slice Aat na ca] w (CutRes na c from_ s pos w) := by
 have HB := Lib.hid hb
 have HL := Lib.hid hl
 have HRow := Lib.hid hr
 have HNa := Lib.hid hna
 have HPos := Lib.hid hpos
 have HIn := Lib.hid hin
 obtain ⟨d, hd⟩ : ∃ d, c - from_ = d := ⟨_, rfl⟩
 obtain ⟨K, hK⟩ : ∃ K, na * d = K := ⟨_, rfl⟩
 have HD := Lib.hid hd
 have HKK := Lib.hid hK
 have hsub : (c : Int) - (from_ : Int) = (d : Int) := by omega
 rw [hd, hK] at hbig
 clear hb hl hr hna hpos hin hd hK
 refine (callsIn_wide (n := 9)).1 (callsIn_of_wp_marks Tryz.func181 rfl trivial ?_ rfl)
 simp only [Tryz.ntmps181, List.size_toArray, List.length_cons, List.length_nil, Nat.reduceAdd, Nat.reduceSub, Array.replicate_succ, Array.replicate_zero, List.push_toArray, List.append_toArray, List.nil_append, List.cons_append]
 refine wpIn_wide.2 ?_
 go_wp2_with fail
 obtain ⟨wa, hwa⟩ : ∃ wa, ((w.alloc (.cells #[.int .i64 R, .int .i64 c, .slice A N cap] 62)).alloc (.cells #[.int .i64 from_] 3)).alloc (.cells #[.int .i64 0, .int .i64 0, .slice none 0 0] 62) = wa := ⟨_, rfl⟩
 have hba : Block wa w.heap.size 62 #[.int .i64 R, .int .i64 c, .slice A N cap] := by rw [← hwa]; exact ((Block.new _ _ _).alloc _).alloc _
 have hbc : Block wa (w.heap.size + 1) 3 #[.int .i64 from_] := by
  rw [← hwa]
  have := Block.new (w.alloc (.cells #[.int .i64 R, .int .i64 c, .slice A N cap] 62)) 3 #[.int .i64 from_]
  rw [World.size_alloc] at this
  exact this.alloc _
 have hbr : Block wa (w.heap.size + 2) 62 #[.int .i64 0, .int .i64 0, .slice none 0 0] := by
  rw [← hwa]
  have := Block.new ((w.alloc (.cells #[.int .i64 R, .int .i64 c, .slice A N cap] 62)).alloc (.cells #[.int .i64 from_] 3)) 62 #[.int .i64 0, .int .i64 0, .slice none 0 0]
  rwa [World.size_alloc, World.size_alloc] at this
 have hBa : Below w.heap.size w wa := by rw [← hwa]; exact (((Below.refl _ w).alloc (Nat.le_refl _) _).alloc (by simp) _).alloc (by simp; omega) _
 have hsa : wa.heap.size = w.heap.size + 3 := by rw [← hwa]; simp
 have hmx : Tryz.prog.follows .mixedOrders = true := by kernel_rfl
 rw [hwa]
 have HSA := Lib.hid hsa
 clear hwa hsa
 have harea : ∀ V, Calls Tryz.prog 67 #[.int .i64 na, .int .i64 d] V fun e w' => e = .returned (.int .i64 (K : Nat)) ∧ w' = V := fun V => by
  rw [← HKK.out]
  exact (area_nat na d (by rw [HKK.out]; omega) V).mono fun _ _ h => ⟨h.1, h.2.symm⟩
 have hwd : IntKind.i64.wrap (d : Int) = (d : Int) := IntWalk.i64_in _ (by omega)
 obtain ⟨S, hSdef⟩ : ∃ S : World → Prop, S = fun V => Below wa.heap.size wa V := ⟨_, rfl⟩
 have hSi : ∀ V, Below wa.heap.size wa V → S V := fun V h => by rw [hSdef]; exact h
 have hSc : ∀ V, S V → V.cell? ⟨w.heap.size, 1, none⟩ = some (.int .i64 c) ∧ V.cell? ⟨w.heap.size + 1, 0, none⟩ = some (.int .i64 from_) := fun V hV => by
  rw [hSdef] at hV
  exact ⟨(hba.below hV hba.lt).cell 1, (hbc.below hV hbc.lt).cell 0⟩
 have hS0 : S wa.drew := hSi _ (Below.drewN' (Below.refl _ _) 1)
 clear hSdef
 apply wp_to_two (a2 := fun lb g => { tmps := #[.agg #[.int .i64 R, .int .i64 c, .slice A N cap], .int .i64 from_, .slice Aat na ca, .pointer (some ⟨w.heap.size, 0, none⟩), .pointer (some ⟨w.heap.size + 1, 0, none⟩), undef, .pointer (some ⟨w.heap.size + 1 + 1, 0, none⟩), .pointer (some ⟨lb, 0, none⟩), undef, undef, .slice Aat na ca, .int .i64 na, .pointer (some ⟨w.heap.size, 1, none⟩), .int .i64 c, .int .i64 from_, .int .i64 d, .slice Aat na ca, .int .i64 na, .pointer (some ⟨w.heap.size, 1, none⟩), .int .i64 c, .int .i64 from_, .int .i64 d, .int .i64 K, .slice (some ⟨g, 0, none⟩) 0 K, .agg #[.int .i64 na, .int .i64 d, .slice (some ⟨g, 0, none⟩) 0 K], undef, undef, undef, undef, undef, undef, undef, undef, undef, undef, undef, undef, undef], defers := [] }) (R := fun lb g V => wa.heap.size ≤ lb ∧ wa.heap.size ≤ g ∧ Block V lb 62 #[.int .i64 na, .int .i64 d, .slice (some ⟨g, 0, none⟩) 0 K] ∧ Own V wa.heap.size 5 (.slice (some ⟨g, 0, none⟩) 0 K) (bv (bs [])) ∧ Below wa.heap.size wa V)
 case h =>
  refine wp_region_held (S := S) hmx ?_
  refine wpAnyH_takeD (i := 0) (some 10) (.slice Aat na ca) rfl rfl (by kernel_rfl) (by kernel_rfl) (by kernel_rfl) (fun _ _ _ h => by cases h.1) (Or.inl ⟨by kernel_rfl, fun W hW => by go_simp⟩) hS0 ?_
  simp only [Act.put, List.setIfInBounds_toArray, List.set_cons_zero, List.set_cons_succ]
  refine wpAnyH_takeD (i := 1) (some 11) (.int .i64 (na : Int)) rfl rfl (by kernel_rfl) (by kernel_rfl) (by kernel_rfl) (fun _ _ _ h => by cases h.1) (Or.inl ⟨by kernel_rfl, fun W hW => by go_simp⟩) hS0 ?_
  simp only [Act.put, List.setIfInBounds_toArray, List.set_cons_zero, List.set_cons_succ]
  refine wpAnyH_takeD (i := 2) (some 12) (.pointer (some ⟨w.heap.size, 1, none⟩)) rfl rfl (by kernel_rfl) (by kernel_rfl) (by kernel_rfl) (fun _ _ _ h => by cases h.1) (Or.inl ⟨by kernel_rfl, fun W hW => by go_simp⟩) hS0 ?_
  simp only [Act.put, List.setIfInBounds_toArray, List.set_cons_zero, List.set_cons_succ]
  refine wpAnyH_takeD (i := 3) (some 13) (.int .i64 (c : Int)) rfl rfl (by kernel_rfl) (by kernel_rfl) (by kernel_rfl) (fun _ _ _ h => by cases h.1) (Or.inl ⟨by kernel_rfl, fun W hW => by obtain ⟨s1, s2⟩ := hSc W hW; go_simp⟩) hS0 ?_
  simp only [Act.put, List.setIfInBounds_toArray, List.set_cons_zero, List.set_cons_succ]
  refine wpAnyH_takeD (i := 4) (some 14) (.int .i64 (from_ : Int)) rfl rfl (by kernel_rfl) (by kernel_rfl) (by kernel_rfl) (fun _ _ _ h => by cases h.1) (Or.inl ⟨by kernel_rfl, fun W hW => by obtain ⟨s1, s2⟩ := hSc W hW; go_simp⟩) hS0 ?_
  simp only [Act.put, List.setIfInBounds_toArray, List.set_cons_zero, List.set_cons_succ]
  refine wpAnyH_takeD (i := 5) (some 15) (.int .i64 (d : Int)) rfl rfl (by kernel_rfl) (by kernel_rfl) (by kernel_rfl) (fun _ _ _ h => by cases h.1) (Or.inl ⟨by kernel_rfl, fun W hW => by go_simp⟩) hS0 ?_
  simp only [Act.put, List.setIfInBounds_toArray, List.set_cons_zero, List.set_cons_succ]
  refine wpAnyH_takeD (i := 6) (some 16) (.slice Aat na ca) rfl rfl (by kernel_rfl) (by kernel_rfl) (by kernel_rfl) (fun _ _ _ h => by cases h.1) (Or.inl ⟨by kernel_rfl, fun W hW => by go_simp⟩) hS0 ?_
  simp only [Act.put, List.setIfInBounds_toArray, List.set_cons_zero, List.set_cons_succ]
  refine wpAnyH_takeD (i := 7) (some 17) (.int .i64 (na : Int)) rfl rfl (by kernel_rfl) (by kernel_rfl) (by kernel_rfl) (fun _ _ _ h => by cases h.1) (Or.inl ⟨by kernel_rfl, fun W hW => by go_simp⟩) hS0 ?_
  simp only [Act.put, List.setIfInBounds_toArray, List.set_cons_zero, List.set_cons_succ]
  refine wpAnyH_takeD (i := 8) (some 18) (.pointer (some ⟨w.heap.size, 1, none⟩)) rfl rfl (by kernel_rfl) (by kernel_rfl) (by kernel_rfl) (fun _ _ _ h => by cases h.1) (Or.inl ⟨by kernel_rfl, fun W hW => by go_simp⟩) hS0 ?_
  simp only [Act.put, List.setIfInBounds_toArray, List.set_cons_zero, List.set_cons_succ]
  refine wpAnyH_takeD (i := 9) (some 19) (.int .i64 (c : Int)) rfl rfl (by kernel_rfl) (by kernel_rfl) (by kernel_rfl) (fun _ _ _ h => by cases h.1) (Or.inl ⟨by kernel_rfl, fun W hW => by obtain ⟨s1, s2⟩ := hSc W hW; go_simp⟩) hS0 ?_
  simp only [Act.put, List.setIfInBounds_toArray, List.set_cons_zero, List.set_cons_succ]
  refine wpAnyH_takeD (i := 10) (some 20) (.int .i64 (from_ : Int)) rfl rfl (by kernel_rfl) (by kernel_rfl) (by kernel_rfl) (fun _ _ _ h => by cases h.1) (Or.inl ⟨by kernel_rfl, fun W hW => by obtain ⟨s1, s2⟩ := hSc W hW; go_simp⟩) hS0 ?_
  simp only [Act.put, List.setIfInBounds_toArray, List.set_cons_zero, List.set_cons_succ]
  refine wpAnyH_takeD (i := 11) (some 21) (.int .i64 (d : Int)) rfl rfl (by kernel_rfl) (by kernel_rfl) (by kernel_rfl) (fun _ _ _ h => by cases h.1) (Or.inl ⟨by kernel_rfl, fun W hW => by go_simp⟩) hS0 ?_
  simp only [Act.put, List.setIfInBounds_toArray, List.set_cons_zero, List.set_cons_succ]
  refine wpAnyH_two (i := 12) (j := 15) (by kernel_rfl) rfl rfl (by kernel_rfl) (by kernel_rfl) ?_ ?_
  ·go_simp
   refine (harea _).mono ?_
   rintro e V1 ⟨rfl, rfl⟩
   refine ⟨hS0, ?_⟩
   refine wpAnyH_two (i := 13) (j := 15) (by kernel_rfl) rfl rfl (by kernel_rfl) (by kernel_rfl) ?_ ?_
   ·obtain ⟨V2, hmk, hO2, hB2⟩ := make_room wa.drew K hbig
    have hb2 : Below wa.heap.size wa V2 := (Below.drewN' (Below.refl _ _) 1).trans hB2
    have hO2' : Own V2 wa.heap.size 5 (.slice (some ⟨wa.heap.size, 0, none⟩) 0 K) (bv (bs [])) := hO2
    go_simp
    refine ⟨hSi _ hb2, ?_⟩
    refine wpAnyH_takeD (i := 14) (some 24) (.agg #[.int .i64 na, .int .i64 d, .slice (some ⟨wa.heap.size, 0, none⟩) 0 K]) rfl rfl (by kernel_rfl) (by kernel_rfl) (by kernel_rfl) (fun _ _ _ h => by cases h.1) (Or.inl ⟨by kernel_rfl, fun W hW => by go_simp⟩) (hSi _ hb2) ?_
    simp only [Act.put, List.setIfInBounds_toArray, List.set_cons_zero, List.set_cons_succ]
    refine wpAnyH_one (i := 15) (by kernel_rfl) rfl (by kernel_rfl) ?_
    go_simp
    refine ⟨hSi _ (hb2.alloc hb2.size _), wpAnyH_one (i := 16) (by kernel_rfl) rfl (by kernel_rfl) ?_⟩
    go_simp
    refine ⟨hSi _ (hb2.alloc hb2.size _), wpAnyH_done (by kernel_rfl) ?_ _⟩
    exact ⟨rfl, V2.heap.size, wa.heap.size, rfl, hb2.size, Nat.le_refl _, Block.new _ _ _, hO2'.alloc _, hb2.alloc hb2.size _⟩
   ·go_simp
    have hbA : Below wa.heap.size wa (wa.alloc (.cells #[.int .i64 0, .int .i64 0, .slice none 0 0] 62)).drew := Below.drewN' ((Below.refl _ _).alloc (Nat.le_refl _) _) 1
    refine ⟨hSi _ hbA, wpAnyH_one (i := 13) (by kernel_rfl) rfl (by kernel_rfl) ?_⟩
    obtain ⟨V2, hmk, hO2, hB2⟩ := make_room (wa.alloc (.cells #[.int .i64 0, .int .i64 0, .slice none 0 0] 62)).drew K hbig
    have hb2 : Below wa.heap.size wa V2 := hbA.trans (hB2.mono (by simp))
    have hbn := (Block.drew (Block.new wa 62 #[.int .i64 0, .int .i64 0, .slice none 0 0])).below hB2 (by simp)
    obtain ⟨y0, y1, y2⟩ := cells3 hbn
    have z0 := hbn.frozen 0
    have z1 := hbn.frozen 1
    have z2 := hbn.frozen 2
    simp only [World.size_drew, World.size_alloc] at hmk hO2
    go_simp
    refine ⟨hSi _ hb2, ?_⟩
    refine wpAnyH_takeD (i := 14) (some 24) (.agg #[.int .i64 na, .int .i64 d, .slice (some ⟨wa.heap.size + 1, 0, none⟩) 0 K]) rfl rfl (by kernel_rfl) (by kernel_rfl) (by kernel_rfl) (fun _ _ _ h => by cases h.1) (Or.inl ⟨by kernel_rfl, fun W hW => by go_simp⟩) (hSi _ hb2) ?_
    simp only [Act.put, List.setIfInBounds_toArray, List.set_cons_zero, List.set_cons_succ]
    refine wpAnyH_one (i := 16) (by kernel_rfl) rfl (by kernel_rfl) ?_
    have hb3 := below_set3 hb2 (Nat.le_refl _) (.int .i64 na) (.int .i64 d) (.slice (some ⟨wa.heap.size + 1, 0, none⟩) 0 K)
    have hbl3 := block_set3_self hbn (.int .i64 na) (.int .i64 d) (.slice (some ⟨wa.heap.size + 1, 0, none⟩) 0 K)
    have hO3 := own_set3 hO2 (g := wa.heap.size) (by simp [Value.ownBlock]) (.int .i64 na) (.int .i64 d) (.slice (some ⟨wa.heap.size + 1, 0, none⟩) 0 K)
    go_simp
    refine ⟨hSi _ hb3, wpAnyH_done (by kernel_rfl) ?_ _⟩
    exact ⟨rfl, wa.heap.size, wa.heap.size + 1, rfl, Nat.le_refl _, by omega, hbl3, hO3.more (by omega), hb3⟩
  ·go_simp
   have hbA : Below wa.heap.size wa (wa.alloc (.cells #[.int .i64 0, .int .i64 0, .slice none 0 0] 62)).drew := Below.drewN' ((Below.refl _ _).alloc (Nat.le_refl _) _) 1
   refine ⟨hSi _ hbA, wpAnyH_one (i := 12) (by kernel_rfl) rfl (by kernel_rfl) ?_⟩
   go_simp
   refine (harea _).mono ?_
   rintro e V1 ⟨rfl, rfl⟩
   refine ⟨hSi _ hbA, wpAnyH_one (i := 13) (by kernel_rfl) rfl (by kernel_rfl) ?_⟩
   obtain ⟨V2, hmk, hO2, hB2⟩ := make_room (wa.alloc (.cells #[.int .i64 0, .int .i64 0, .slice none 0 0] 62)).drew K hbig
   have hb2 : Below wa.heap.size wa V2 := hbA.trans (hB2.mono (by simp))
   have hbn := (Block.drew (Block.new wa 62 #[.int .i64 0, .int .i64 0, .slice none 0 0])).below hB2 (by simp)
   obtain ⟨y0, y1, y2⟩ := cells3 hbn
   have z0 := hbn.frozen 0
   have z1 := hbn.frozen 1
   have z2 := hbn.frozen 2
   simp only [World.size_drew, World.size_alloc] at hmk hO2
   go_simp
   refine ⟨hSi _ hb2, ?_⟩
   refine wpAnyH_takeD (i := 14) (some 24) (.agg #[.int .i64 na, .int .i64 d, .slice (some ⟨wa.heap.size + 1, 0, none⟩) 0 K]) rfl rfl (by kernel_rfl) (by kernel_rfl) (by kernel_rfl) (fun _ _ _ h => by cases h.1) (Or.inl ⟨by kernel_rfl, fun W hW => by go_simp⟩) (hSi _ hb2) ?_
   simp only [Act.put, List.setIfInBounds_toArray, List.set_cons_zero, List.set_cons_succ]
   refine wpAnyH_one (i := 16) (by kernel_rfl) rfl (by kernel_rfl) ?_
   have hb3 := below_set3 hb2 (Nat.le_refl _) (.int .i64 na) (.int .i64 d) (.slice (some ⟨wa.heap.size + 1, 0, none⟩) 0 K)
   have hbl3 := block_set3_self hbn (.int .i64 na) (.int .i64 d) (.slice (some ⟨wa.heap.size + 1, 0, none⟩) 0 K)
   have hO3 := own_set3 hO2 (g := wa.heap.size) (by simp [Value.ownBlock]) (.int .i64 na) (.int .i64 d) (.slice (some ⟨wa.heap.size + 1, 0, none⟩) 0 K)
   go_simp
   refine ⟨hSi _ hb3, wpAnyH_done (by kernel_rfl) ?_ _⟩
   exact ⟨rfl, wa.heap.size, wa.heap.size + 1, rfl, Nat.le_refl _, by omega, hbl3, hO3.more (by omega), hb3⟩
 case hK =>
  rintro lb g W1 ⟨c1, c2, c3, c4, c5⟩
  have hs1 := c5.size
  have hba1 := hba.below c5 hba.lt
  have hbc1 := hbc.below c5 hbc.lt
  have hbr1 := hbr.below c5 hbr.lt
  have hBw1 := hBa.trans (c5.mono (by have := HSA.out; omega))
  have hlb1 := c3.lt
  have hg1 := (Own.blk c4).2
  have hlg : lb ≠ g := fun e => own_ne c4 c3 (by decide) (by rw [e]; rfl)
  obtain ⟨n0, n1, n2⟩ := cells3 hba1
  clear hba hbc hbr hBa hS0 hSi hSc harea
  clear S
  go_wp2_with fail
  refine (rows_any R c N cap na ca A Aat ats _ (HRow.out.below hBw1)).mono ?_
  rintro e W0 ⟨Bat, Bm, rfl, a1, a2, hV, hB0⟩
  have hs0 := hB0.size
  have hbc0 := hbc1.below hB0 hbc1.lt
  have hbr0 := hbr1.below hB0 hbr1.lt
  have hbp0 := c3.below hB0 c3.lt
  have hO0 := c4.below hB0
  have hBw0 := hBw1.trans (hB0.mono hBw1.size)
  have hw0 := hBw0.size
  have hw1 := hs1
  have halt : ∀ a, Aat = some a → 0 < na → a.block < w.heap.size := fun a ha h0 => by
   subst ha
   obtain ⟨b, off, e, hc⟩ := intAt HRow.out 0 (by rw [HNa.out]; exact h0)
   cases e
   exact cell_lt hc
  clear hba1 hbc1 hbr1 hBw1 hB0 n0 n1 n2 c3 c4 c5
  go_wp2_with fail
  refine wpIn_wide.1 (wpIn_rows (n := 9) (by omega) (Bat := Bat) (Bm := Bm) (na := na) (ca := ca) (c := c) (N := N) (cap := cap) (Aat := Aat) (A := A) (ats := ats) (R := R) pos HNa.out (by omega) HPos.out hN hcap hc HIn.out rfl
   (fun k W => Vis W Bat Bm Aat na ca ats R c A N cap ∧ Block W (w.heap.size + 1) 3 #[.int .i64 from_] ∧ Block W (w.heap.size + 2) 62 #[.int .i64 0, .int .i64 0, .slice none 0 0] ∧ Below w.heap.size w W ∧ ∃ v, Block W lb 62 #[.int .i64 na, .int .i64 d, v] ∧ Own W wa.heap.size 5 v (bv (bs (partL s c from_ pos k))) ∧ (∀ b, v.ownBlock = some b → b = g ∨ W0.heap.size ≤ b))
   (fun _ _ => False)
   (fun k W W' ⟨h1, h2, h3, h4, v, h5, h6, h7⟩ t => ⟨h1.turn t, t.block h2, t.block h3, h4.trans (t.below.mono (by omega)), v, t.block h5, t.own h6, h7⟩)
   (fun _ _ _ h _ => h)
   (fun k W h => h.1)
   ⟨hV, hbc0, hbr0, hBw0, _, hbp0, hO0, fun b hb => .inl (by simpa [Value.ownBlock] using hb.symm)⟩
   ?a1 ?assign ?body ?done (fun _ _ h => h.elim))
  case assign =>
   intro l k W K' hk hK'
   gi_wp2
   exact hK'
  case body =>
   rintro l k W hk ⟨h1, h2, h3, h4, v, h5, h6, h7⟩ hsz
   have hrow := (HIn.out k hk).1
   have hbw := HB.out.below h4
   have hrl : (rowL s c (pos k)).length = c := rowL_length (by rw [HL.out]; exact hrow)
   obtain ⟨A2, hrun, hb2, _⟩ := slice_from (rowA_bytes (c := c) (i := pos k) hbw) c from_ (by rw [hrl]; exact hf) (by rw [hrl]; exact Nat.le_refl _)
   rw [hrl, HD.out] at hrun
   have hdl : ((rowL s c (pos k)).drop from_).length = d := by rw [List.length_drop, hrl, HD.out]
   have hpl : (partL s c from_ pos k).length = k * d := by
    have := partL_length (s := s) (c := c) (from_ := from_) (pos := pos) (k := k) (fun j hj => by rw [HL.out]; exact (HIn.out j (by omega)).1)
    rw [this, HD.out]
   have hkd : k * d + d ≤ K := by rw [← HKK.out, ← Nat.succ_mul]; exact Nat.mul_le_mul_right d (by omega)
   have hc2 := h2.cell 0
   obtain ⟨p0, p1, p2⟩ := cells3 h5
   have pf2 := h5.frozen 2
   have H1 := Lib.hid h1
   have H2 := Lib.hid h2
   have H3 := Lib.hid h3
   have H4 := Lib.hid h4
   have H5 := Lib.hid h5
   have H6 := Lib.hid h6
   have H7 := Lib.hid h7
   have HRl := Lib.hid hdl
   have HPl := Lib.hid hpl
   have Hb2 := Lib.hid hb2
   have hww := h4.size
   clear h1 h2 h3 h4 h5 h6 h7 hrl hdl hpl hb2 hbw
   generalize rowA A (pos k * c) c = RA at hrun ⊢
   gi_wp2
   refine region_round_tail 5 hmx (by kernel_rfl) (by kernel_rfl) (fun h => by obtain ⟨a, w, h⟩ := h; exact h) ?_
   simp only [List.take_succ_cons, List.take_zero, List.drop_succ_cons, List.drop_zero]
   iterate 5 still_step
   refine wpStill_nil ?_
   refine wpList_app (w := W.drew) rfl (.tmp 31) (.tmp 34) 34 rfl wa.heap.size 5 (.int .u8 0) 1 Tryz.underlying34 info_u8 rfl (by decide) v _ rfl H6.out.drew A2 d d (bv (bs ((rowL s c (pos k)).drop from_))) rfl (by rw [bvs_length, HRl.out]) (Hb2.out.row.drew) (bv_one _) (by rw [bvs_length, HPl.out]; omega) (by show wa.heap.size ≤ W.heap.size; omega) ?_
   intro v' W2 hO2 hgr hob
   obtain ⟨A7, n7, c7, hv7⟩ : ∃ A7 n7 c7, v' = .slice A7 n7 c7 := by obtain ⟨A7, c7, e, _⟩ := Own.form hO2; exact ⟨A7, _, c7, e⟩
   subst hv7
   have hB2 : But W.heap.size (fun b => v.ownBlock = some b) W W2 := (But.refl _ _ W).drew.trans (but_grown hgr)
   have hsz2 := hB2.size
   have hnb : ∀ b, b < W0.heap.size → b ≠ g → ¬ v.ownBlock = some b := fun b hb hn e => by
    rcases H7.out b e with h | h <;> omega
   have hl2 := hB2.blk H5.out H5.out.lt (hnb lb (by omega) hlg)
   obtain ⟨y0, y1, y2⟩ := cells3 hl2
   have yf := hl2.frozen 2
   have hkp : KeepsFrom W0.heap.size W W2 := keeps_but hB2 (fun b o hb ho => own_isCells' H6.out hb ho)
   have hgw : w.heap.size + 2 < g := by have := HSA.out; omega
   have hlw : w.heap.size + 2 < lb := by have := HSA.out; omega
   have G1 := Lib.hid (H1.out.keep (W' := W2.setCell ⟨lb, 2, none⟩ (.slice A7 n7 c7)) (fun q hq e => by
    have hq0 : q ≠ lb ∧ ¬ v.ownBlock = some q := by
     rcases e with rfl | rfl | ⟨a, ha, rfl⟩
     ·exact ⟨by omega, fun e => by
       rcases H7.out _ e with h | h
       ·omega
       ·exact own_ne H6.out H1.out.at_ (by decide) e⟩
     ·exact ⟨by omega, fun e => by
       rcases H7.out _ e with h | h
       ·omega
       ·exact own_ne H6.out H1.out.m_ (by decide) e⟩
     ·have := halt a ha (by omega)
      exact ⟨by omega, hnb _ (by omega) (by omega)⟩
    rw [Below.heap_setCell _ _ _ _ (by simpa using hq0.1)]
    exact hB2.block q hq hq0.2))
   have G2 := Lib.hid ((hB2.blk H2.out H2.out.lt (hnb _ (by omega) (by omega))).far (p := ⟨lb, 2, none⟩) (by simp; omega) (.slice A7 n7 c7))
   have G3 := Lib.hid ((hB2.blk H3.out H3.out.lt (hnb _ (by omega) (by omega))).far (p := ⟨lb, 2, none⟩) (by simp; omega) (.slice A7 n7 c7))
   have G4 : Hid (Below w.heap.size w (W2.setCell ⟨lb, 2, none⟩ (.slice A7 n7 c7))) := Lib.hid ((H4.out.trans ((hB2.mono (S' := fun _ => False) hww (fun b hb e => by rcases H7.out b e with h | h <;> omega)) |> fun h => ⟨h.os, h.tape, h.output, h.size, fun k hk => h.block k hk id⟩)).setCell (p := ⟨lb, 2, none⟩) (by simp; omega) _)
   have G5 := Lib.hid (hl2.set_ 2 (.slice A7 n7 c7))
   have hne' : (Value.slice A7 n7 c7).ownBlock ≠ some lb := by
    rcases hob with h | h
    ·rw [h]; exact hnb lb (by omega) hlg
    ·rw [h]
     intro e
     injection e with e
     have : W.drew.heap.size = W.heap.size := rfl
     omega
   have G6 := Lib.hid (Own.far (p := ⟨lb, 2, none⟩) hO2 hne' (.slice A7 n7 c7))
   have G7 : Hid (∀ b, (Value.slice A7 n7 c7).ownBlock = some b → b = g ∨ W0.heap.size ≤ b) := Lib.hid (fun b hb => by
    rcases hob with h | h
    ·rw [h] at hb; exact H7.out b hb
    ·rw [h] at hb
     injection hb with hb
     have : W.drew.heap.size = W.heap.size := rfl
     exact .inr (by omega))
   have GP : Hid (bv (bs (partL s c from_ pos k)) ++ bv (bs ((rowL s c (pos k)).drop from_)) = bv (bs (partL s c from_ pos (k + 1)))) := Lib.hid (by simp only [partL, bs_append, bv_append])
   have hkp2 : KeepsFrom W0.heap.size W (W2.setCell ⟨lb, 2, none⟩ (.slice A7 n7 c7)) := hkp.trans ((KeepsOthers.setCell _ _ _).from _)
   rw [GP.out] at G6
   clear hO2 hgr hob hB2 hnb hl2 hkp hne' p0 p1 p2 pf2 hc2
   go_wp2
   exact ⟨hkp2, G1.out, G2.out, G3.out, G4.out, .slice A7 n7 c7, by simpa using G5.out, G6.out, G7.out⟩
  case done =>
   rintro W ⟨h1, h2, h3, h4, v, h5, h6, h7⟩ hD
   obtain ⟨A9, c9, rfl, hc9⟩ := Own.shape h6
   obtain ⟨l0, l1, l2⟩ := cells3 h5
   have d0 := h3.cell 0
   have d1 := h3.cell 1
   have d2 := h3.cell 2
   have f0 := h3.frozen 0
   have f1 := h3.frozen 1
   have f2 := h3.frozen 2
   have hne3 : (Value.slice A9 (partL s c from_ pos na).length c9).ownBlock ≠ some (w.heap.size + 2) := fun e => own_ne h6 h3 (by decide) e
   have hlen : (partL s c from_ pos na).length = K := by
    have := partL_length (s := s) (c := c) (from_ := from_) (pos := pos) (k := na) (fun j hj => by rw [HL.out]; exact (HIn.out j hj).1)
    rw [this, HD.out, HKK.out]
   have HLen := Lib.hid hlen
   have hw3 := h3.lt
   clear hlen
   go_wp2
   have hK := set3_other hD (show W0.heap.size ≠ w.heap.size + 2 by have := HSA.out; omega) (.int .i64 na) (.int .i64 d) (.slice A9 (partL s c from_ pos na).length c9)
   refine ⟨by simp, .inl ⟨_, _, rfl, run_takeDeferred hK, ?_⟩⟩
   have ht : Turn w.heap.size (set3 W (w.heap.size + 2) (.int .i64 na) (.int .i64 d) (.slice A9 (partL s c from_ pos na).length c9)) _ := Turn.put hK rfl (by omega) (.deferred none)
   obtain ⟨e0, e1, e2⟩ := cells3 (ht.block (block_set3_self h3 (.int .i64 na) (.int .i64 d) (.slice A9 (partL s c from_ pos na).length c9)))
   have hO3 := (ht.own (own_set3 h6 hne3 (.int .i64 na) (.int .i64 d) (.slice A9 (partL s c from_ pos na).length c9))).more (B' := w.heap.size) (by have := HSA.out; omega)
   refine ⟨.agg #[.int .i64 na, .int .i64 d, .slice A9 (partL s c from_ pos na).length c9], ?_, A9, c9, by rw [HD.out], hc9, hO3, (below_set3 h4 (by omega) _ _ _).trans ht.below⟩
   unfold set3 at e0 e1 e2
   simp [results, Tryz.results181, go_sem, e0, e1, e2]
end Go.Proofs.YtjoghbmedfmioaaGreat.Mat

namespace Go.Proofs.YtjoghbmedfmioaaGreat.Mat
open Go.RowKit Go.Shelf F8 Poly GF
attribute [local go_sem] Oper.semAt_some
theorem wp_to_any {α : Type} {P : Program} {c : Code} {Q : Exit → Act → World → Prop} {a : Act} {w : World} (a2 : α → Act) (R : α → World → Prop) (h : c.wp P (fun e a' w' => e = .normal ∧ ∃ m, a' = a2 m ∧ R m w') a w) (hK : ∀ m w', R m w' → Q .normal (a2 m) w') : c.wp P Q a w :=
 wp_mono h (by rintro e a w ⟨rfl, m, rfl, hr⟩; exact hK m _ hr)
end Go.Proofs.YtjoghbmedfmioaaGreat.Mat
namespace Go.Proofs.YtjoghbmedfmioaaGreat.Mat
open Go.RowKit Go.Shelf F8 Poly GF
attribute [local go_sem] Oper.semAt_some
theorem wp_loop_once {P : Program} {c : Code} {Q : Exit → Act → World → Prop} {a : Act} {w : World} (h : c.wp P (Exit.then (fun _ _ => False) Q) a w) : (Code.loop c).wp P Q a w :=
 wp_loop (fun a' w' => a' = a ∧ w' = w) (fun _ _ => 0) ⟨rfl, rfl⟩ (by
  rintro _ _ ⟨rfl, rfl⟩
  refine wp_mono h ?_
  intro e a w hq
  revert hq
  unfold Exit.then
  split
  ·exact False.elim
  ·exact id)
def RedNil (gf r C cols : Nat) (w : World) (e : Ending) (w' : World) : Prop :=
 ∃ g : Nat, e = .returned (.tuple #[.slice (some ⟨g, 0, none⟩) r r, .int .i64 0]) ∧ w.heap.size ≤ g ∧ Own w' w.heap.size 3 (.slice (some ⟨g, 0, none⟩) r r) (iv (List.range r)) ∧
  Red r C (ent [] C) (ent [] C) (fun i => (List.range r).getD i 0) [] cols ∧ Fld w' gf ∧ Below w.heap.size w w'
set_option maxRecDepth 100000 in
set_option maxHeartbeats 4000000 in
theorem reduce_nil (gf cap r C cols : Nat) (A : Option Addr) (hr : r ≤ 65536) (hcols : cols ≤ C) (hN : r * C = 0) (w : World) (hF : Fld w gf) :
  Calls Tryz.prog 179 #[.pointer (some ⟨gf, 0, none⟩), .agg #[.int .i64 r, .int .i64 C, .slice A 0 cap], .int .i64 cols] w (RedNil gf r C cols w) := by
 have hred : Hid (Red r C (ent [] C) (ent [] C) (fun i => (List.range r).getD i 0) [] cols) := Lib.hid (by
  have h := Red.start r C (ent [] C)
  have e : ∀ i, i < r → (List.range r).getD i 0 = i := fun i hi => by rw [List.getD_eq_getElem?_getD, List.getElem?_range hi]; rfl
  have h0 : Red r C (ent [] C) (ent [] C) (fun i => (List.range r).getD i 0) [] 0 := ⟨h.ker, fun i hi => by rw [e i hi]; exact hi, fun a b ha hb k => by rw [e a ha, e b hb] at k; exact k, fun i hi => ⟨i, hi, e i hi⟩, h.le, h.up, h.in_, fun _ _ hu => by simp at hu, fun _ _ _ _ hj => by omega, fun _ ht => by simp at ht⟩
  by_cases hc0 : cols = 0
  ·rw [hc0]; exact h0
  ·have hr0 : r = 0 := by
    rcases Nat.mul_eq_zero.1 hN with h | h
    ·exact h
    ·omega
   exact h0.finish (by simp [hr0]) (Nat.zero_le _))
 have hcase : cols = 0 ∨ (0 < cols ∧ r = 0) := by
  rcases Nat.mul_eq_zero.1 hN with h | h
  ·by_cases hc0 : cols = 0
   ·exact .inl hc0
   ·exact .inr ⟨by omega, h⟩
  ·exact .inl (by omega)
 have HC := Lib.hid hcase
 have HF := Lib.hid hF
 clear hcase hN
 have hz := zero_multiplier
 have hgf := hF.lt
 clear hF
 refine (callsIn_wide (n := 9)).1 (callsIn_of_wp_marks Tryz.func179 rfl trivial ?_ rfl)
 simp only [Tryz.ntmps179, List.size_toArray, List.length_cons, List.length_nil, Nat.reduceAdd, Nat.reduceSub, Array.replicate_succ, Array.replicate_zero, List.push_toArray, List.append_toArray, List.nil_append, List.cons_append]
 refine wpIn_wide.2 ?_
 go_wp2_with fail
 refine (upTo_calls r (by omega) _).mono ?_
 rintro e w1 ⟨gi, rfl, u1, u2, hI, hB1⟩
 simp only [World.size_alloc] at u1
 have hs1 := hB1.size
 simp only [World.size_alloc] at hs1
 have hbm1 : Block w1 w.heap.size 62 #[.int .i64 r, .int .i64 C, .slice A 0 cap] := (Block.new _ _ _).below hB1 (by simp)
 have hBw1 : Below w.heap.size w w1 := ((Below.refl _ w).alloc (Nat.le_refl _) _).trans (hB1.mono (by simp))
 have hst := store_mul gf ((w1.alloc (.cells #[.slice (some ⟨gi, 0, none⟩) r r] 44)).alloc (.cells #[.int .i64 0] 3))
 simp only [World.size_alloc] at hst
 go_wp2_with fail
 obtain ⟨W0, hW0⟩ : ∃ W0, (((w1.alloc (.cells #[.slice (some ⟨gi, 0, none⟩) r r] 44)).alloc (.cells #[.int .i64 0] 3)).alloc (.cells (mcells gf (fun _ => 0) (fun _ => none)) 135)).alloc (.cells #[.int .i64 0] 3) = W0 := ⟨_, rfl⟩
 obtain ⟨ob, hob⟩ : ∃ ob, w1.heap.size = ob := ⟨_, rfl⟩
 have q0 : Block W0 ob 44 #[.slice (some ⟨gi, 0, none⟩) r r] := by rw [← hW0, ← hob]; exact (((Block.new _ _ _).alloc _).alloc _).alloc _
 have q1 : Block W0 (ob + 1) 3 #[.int .i64 0] := by
  rw [← hW0, ← hob]
  have := Block.new (w1.alloc (.cells #[.slice (some ⟨gi, 0, none⟩) r r] 44)) 3 #[.int .i64 0]
  rw [World.size_alloc] at this
  exact (this.alloc _).alloc _
 have q3 : Block W0 (ob + 3) 3 #[.int .i64 0] := by
  rw [← hW0, ← hob]
  have := Block.new (((w1.alloc (.cells #[.slice (some ⟨gi, 0, none⟩) r r] 44)).alloc (.cells #[.int .i64 0] 3)).alloc (.cells (mcells gf (fun _ => 0) (fun _ => none)) 135)) 3 #[.int .i64 0]
  rwa [World.size_alloc, World.size_alloc, World.size_alloc] at this
 have hB10 : Below w1.heap.size w1 W0 := by rw [← hW0]; exact ((((Below.refl _ w1).alloc (Nat.le_refl _) _).alloc (by simp) _).alloc (by simp; omega) _).alloc (by simp; omega) _
 have q4 : Block W0 w.heap.size 62 #[.int .i64 r, .int .i64 C, .slice A 0 cap] := hbm1.below hB10 hbm1.lt
 have q5 : Own W0 w.heap.size 3 (.slice (some ⟨gi, 0, none⟩) r r) (iv (List.range r)) := (hI.more (by simp)).below hB10
 have hBw : Below w.heap.size w W0 := hBw1.trans (hB10.mono (by omega))
 have q6 : Fld W0 gf := HF.out.below hBw hgf
 have hsz0 : W0.heap.size = ob + 4 := by rw [← hW0, ← hob]; simp
 have hobw : w.heap.size + 1 ≤ ob := by omega
 have hgiob : gi < ob := by omega
 have HQ0 := Lib.hid q0
 have HQ1 := Lib.hid q1
 have HQ3 := Lib.hid q3
 have HQ4 := Lib.hid q4
 have HQ5 := Lib.hid q5
 have HQ6 := Lib.hid q6
 obtain ⟨x1, x2⟩ : W0.cell? ⟨ob + 1, 0, none⟩ = some (.int .i64 0) ∧ W0.cell? ⟨ob + 3, 0, none⟩ = some (.int .i64 0) := ⟨HQ1.out.cell 0, HQ3.out.cell 0⟩
 obtain ⟨x3, x4, x5⟩ := cells3 HQ4.out
 have x6 : W0.cell? ⟨ob, 0, none⟩ = some (.slice (some ⟨gi, 0, none⟩) r r) := HQ0.out.cell 0
 rw [hW0]
 simp only [hob, Nat.add_assoc, Nat.reduceAdd]
 clear hst hz hI hB1 hbm1 hBw1 hW0 q0 q1 q3 q4 q5 q6 hB10 hs1 u2 HF
 refine wp_loop_once ?_
 rcases HC.out with h0 | ⟨h0, h1⟩
 ·subst h0
  go_wp2
  go_quiet (fail)
  go_wp2
  refine leaves_marks (B := w.heap.size) [] _ (MarksOk.nil _ _) (fun w' ht => ⟨.tuple #[.slice (some ⟨gi, 0, none⟩) r r, .int .i64 0], by simp [results, Tryz.results179, go_sem], ?_⟩)
  exact ⟨gi, rfl, by omega, ht.own (HQ5.out.drewN _), hred.out, (HQ6.out.drewN _).imp ht.block ht.block, (Below.drewN' hBw _).trans (ht.below.mono (by simp))⟩
 ·subst h1
  go_wp2
  go_quiet (fail)
  go_wp2
  refine leaves_marks (B := w.heap.size) [] _ (MarksOk.nil _ _) (fun w' ht => ⟨.tuple #[.slice (some ⟨gi, 0, none⟩) 0 0, .int .i64 0], by simp [results, Tryz.results179, go_sem], ?_⟩)
  exact ⟨gi, rfl, by omega, ht.own (HQ5.out.drewN _), hred.out, (HQ6.out.drewN _).imp ht.block ht.block, (Below.drewN' hBw _).trans (ht.below.mono (by simp))⟩
end Go.Proofs.YtjoghbmedfmioaaGreat.Mat
