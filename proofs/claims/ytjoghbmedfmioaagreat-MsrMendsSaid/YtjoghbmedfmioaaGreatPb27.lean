/- Of the program, joined: MatBeside, MatBad. -/
import Derived.Test.YtjoghbmedfmioaaGreatPb26
namespace Go.Proofs.YtjoghbmedfmioaaGreat.Mat
open Go.RowKit Go.Shelf F8 Poly GF
attribute [local go_sem] Oper.semAt_some
def besL (s q : List F8) (ca cb : Nat) : Nat → List F8
 | 0 => []
 | k + 1 => besL s q ca cb k ++ rowL s ca k ++ rowL q cb k
theorem besL_length {s q : List F8} {ca cb : Nat} : ∀ {k : Nat}, (∀ j, j < k → (j + 1) * ca ≤ s.length) → (∀ j, j < k → (j + 1) * cb ≤ q.length) → (besL s q ca cb k).length = k * (ca + cb)
 | 0, _, _ => by simp [besL]
 | k + 1, h1, h2 => by
  simp only [besL, List.length_append]
  rw [besL_length (fun j hj => h1 j (by omega)) (fun j hj => h2 j (by omega)), rowL_length (h1 k (by omega)), rowL_length (h2 k (by omega)), Nat.succ_mul]
  omega
set_option maxRecDepth 100000 in
set_option maxHeartbeats 4000000 in
theorem beside_calls (r ca cb N1 N2 c1 c2 : Nat) (R2 : Int) (A B : Option Addr) (s q : List F8) (hr : r ≤ 65536) (hca : ca ≤ 65536) (hcb : cb ≤ 65536) (hN1 : r * ca = N1) (hN2 : r * cb = N2) (hc1 : N1 ≤ c1) (hc2 : N2 ≤ c2) (hl1 : s.length = N1) (hl2 : q.length = N2) (hbig : N1 + N2 ≤ 1000000000) (w : World) (hb1 : Bytes w A (bs s)) (hb2 : Bytes w B (bs q)) :
  Calls Tryz.prog 178 #[.agg #[.int .i64 r, .int .i64 ca, .slice A N1 c1], .agg #[.int .i64 R2, .int .i64 cb, .slice B N2 c2]] w fun e w' => MatRes w w' e r (ca + cb) (besL s q ca cb r) := by
 have HB1 := Lib.hid hb1
 have HB2 := Lib.hid hb2
 have HL1 := Lib.hid hl1
 have HL2 := Lib.hid hl2
 have HN1 := Lib.hid hN1
 have HN2 := Lib.hid hN2
 obtain ⟨d, hd⟩ : ∃ d, ca + cb = d := ⟨_, rfl⟩
 obtain ⟨K, hK⟩ : ∃ K, N1 + N2 = K := ⟨_, rfl⟩
 have HD := Lib.hid hd
 have HKK := Lib.hid hK
 have hrow1 : ∀ k, k < r → (k + 1) * ca ≤ N1 := fun k hk => by rw [← hN1]; exact Nat.mul_le_mul_right ca (by omega)
 have hrow2 : ∀ k, k < r → (k + 1) * cb ≤ N2 := fun k hk => by rw [← hN2]; exact Nat.mul_le_mul_right cb (by omega)
 have hsum : (ca : Int) + (cb : Int) = (d : Int) := by omega
 have hsum2 : (N1 : Int) + (N2 : Int) = (K : Int) := by omega
 have hwd : IntKind.i64.wrap (d : Int) = (d : Int) := IntWalk.i64_in _ (by omega)
 have hwK : IntKind.i64.wrap (K : Int) = (K : Int) := IntWalk.i64_in _ (by omega)
 rw [hK] at hbig
 rw [hd]
 clear hb1 hb2 hl1 hl2 hN1 hN2 hd hK
 refine (callsIn_wide (n := 9)).1 (callsIn_of_wp_marks Tryz.func178 rfl trivial ?_ rfl)
 simp only [Tryz.ntmps178, List.size_toArray, List.length_cons, List.length_nil, Nat.reduceAdd, Nat.reduceSub, Array.replicate_succ, Array.replicate_zero, List.push_toArray, List.append_toArray, List.nil_append, List.cons_append]
 refine wpIn_wide.2 ?_
 go_wp2_with fail
 obtain ⟨wa, hwa⟩ : ∃ wa, ((w.alloc (.cells #[.int .i64 r, .int .i64 ca, .slice A N1 c1] 62)).alloc (.cells #[.int .i64 R2, .int .i64 cb, .slice B N2 c2] 62)).alloc (.cells #[.int .i64 0, .int .i64 0, .slice none 0 0] 62) = wa := ⟨_, rfl⟩
 have hba : Block wa w.heap.size 62 #[.int .i64 r, .int .i64 ca, .slice A N1 c1] := by rw [← hwa]; exact ((Block.new _ _ _).alloc _).alloc _
 have hbb : Block wa (w.heap.size + 1) 62 #[.int .i64 R2, .int .i64 cb, .slice B N2 c2] := by
  rw [← hwa]
  have := Block.new (w.alloc (.cells #[.int .i64 r, .int .i64 ca, .slice A N1 c1] 62)) 62 #[.int .i64 R2, .int .i64 cb, .slice B N2 c2]
  rw [World.size_alloc] at this
  exact this.alloc _
 have hbr : Block wa (w.heap.size + 2) 62 #[.int .i64 0, .int .i64 0, .slice none 0 0] := by
  rw [← hwa]
  have := Block.new ((w.alloc (.cells #[.int .i64 r, .int .i64 ca, .slice A N1 c1] 62)).alloc (.cells #[.int .i64 R2, .int .i64 cb, .slice B N2 c2] 62)) 62 #[.int .i64 0, .int .i64 0, .slice none 0 0]
  rwa [World.size_alloc, World.size_alloc] at this
 have hBa : Below w.heap.size w wa := by rw [← hwa]; exact (((Below.refl _ w).alloc (Nat.le_refl _) _).alloc (by simp) _).alloc (by simp; omega) _
 have hsa : wa.heap.size = w.heap.size + 3 := by rw [← hwa]; simp
 have hmx : Tryz.prog.follows .mixedOrders = true := by kernel_rfl
 rw [hwa]
 have HSA := Lib.hid hsa
 clear hwa hsa
 obtain ⟨S, hSdef⟩ : ∃ S : World → Prop, S = fun V => Below wa.heap.size wa V := ⟨_, rfl⟩
 have hSi : ∀ V, Below wa.heap.size wa V → S V := fun V h => by rw [hSdef]; exact h
 have hSc : ∀ V, S V → (V.cell? ⟨w.heap.size, 0, none⟩ = some (.int .i64 r) ∧ V.cell? ⟨w.heap.size, 1, none⟩ = some (.int .i64 ca) ∧ V.cell? ⟨w.heap.size, 2, none⟩ = some (.slice A N1 c1)) ∧ (V.cell? ⟨w.heap.size + 1, 0, none⟩ = some (.int .i64 R2) ∧ V.cell? ⟨w.heap.size + 1, 1, none⟩ = some (.int .i64 cb) ∧ V.cell? ⟨w.heap.size + 1, 2, none⟩ = some (.slice B N2 c2)) := fun V hV => by
  rw [hSdef] at hV
  exact ⟨cells3 (hba.below hV hba.lt), cells3 (hbb.below hV hbb.lt)⟩
 have hS0 : S wa.drew := hSi _ (Below.drewN' (Below.refl _ _) 1)
 clear hSdef
 apply wp_to_two (a2 := fun lb g => { tmps := #[.agg #[.int .i64 r, .int .i64 ca, .slice A N1 c1], .agg #[.int .i64 R2, .int .i64 cb, .slice B N2 c2], .pointer (some ⟨w.heap.size, 0, none⟩), .pointer (some ⟨w.heap.size + 1, 0, none⟩), .pointer (some ⟨w.heap.size + 1 + 1, 0, none⟩), .pointer (some ⟨lb, 0, none⟩), undef, undef, .pointer (some ⟨w.heap.size, 0, none⟩), .int .i64 r, .pointer (some ⟨w.heap.size, 1, none⟩), .int .i64 ca, .pointer (some ⟨w.heap.size + 1, 1, none⟩), .int .i64 cb, .int .i64 d, .pointer (some ⟨w.heap.size, 2, none⟩), .slice A N1 c1, .int .i64 N1, .pointer (some ⟨w.heap.size + 1, 2, none⟩), .slice B N2 c2, .int .i64 N2, .int .i64 K, .slice (some ⟨g, 0, none⟩) 0 K, .agg #[.int .i64 r, .int .i64 d, .slice (some ⟨g, 0, none⟩) 0 K], undef, undef, undef, undef, undef, undef, undef, undef, undef, undef, undef, undef, undef, undef], defers := [] }) (R := fun lb g V => wa.heap.size ≤ lb ∧ wa.heap.size ≤ g ∧ Block V lb 62 #[.int .i64 r, .int .i64 d, .slice (some ⟨g, 0, none⟩) 0 K] ∧ Own V wa.heap.size 5 (.slice (some ⟨g, 0, none⟩) 0 K) (bv (bs [])) ∧ Below wa.heap.size wa V)
 case h =>
  refine wp_region_held (S := S) hmx ?_
  refine wpAnyH_takeD (i := 0) (some 8) (.pointer (some ⟨w.heap.size, 0, none⟩)) rfl rfl (by kernel_rfl) (by kernel_rfl) (by kernel_rfl) (fun _ _ _ h => by cases h.1) (Or.inl ⟨by kernel_rfl, fun W hW => by go_simp⟩) hS0 ?_
  simp only [Act.put, List.setIfInBounds_toArray, List.set_cons_zero, List.set_cons_succ]
  refine wpAnyH_takeD (i := 1) (some 9) (.int .i64 (r : Int)) rfl rfl (by kernel_rfl) (by kernel_rfl) (by kernel_rfl) (fun _ _ _ h => by cases h.1) (Or.inl ⟨by kernel_rfl, fun W hW => by obtain ⟨⟨s1, s2, s3⟩, s4, s5, s6⟩ := hSc W hW; go_simp⟩) hS0 ?_
  simp only [Act.put, List.setIfInBounds_toArray, List.set_cons_zero, List.set_cons_succ]
  refine wpAnyH_takeD (i := 2) (some 10) (.pointer (some ⟨w.heap.size, 1, none⟩)) rfl rfl (by kernel_rfl) (by kernel_rfl) (by kernel_rfl) (fun _ _ _ h => by cases h.1) (Or.inl ⟨by kernel_rfl, fun W hW => by go_simp⟩) hS0 ?_
  simp only [Act.put, List.setIfInBounds_toArray, List.set_cons_zero, List.set_cons_succ]
  refine wpAnyH_takeD (i := 3) (some 11) (.int .i64 (ca : Int)) rfl rfl (by kernel_rfl) (by kernel_rfl) (by kernel_rfl) (fun _ _ _ h => by cases h.1) (Or.inl ⟨by kernel_rfl, fun W hW => by obtain ⟨⟨s1, s2, s3⟩, s4, s5, s6⟩ := hSc W hW; go_simp⟩) hS0 ?_
  simp only [Act.put, List.setIfInBounds_toArray, List.set_cons_zero, List.set_cons_succ]
  refine wpAnyH_takeD (i := 4) (some 12) (.pointer (some ⟨w.heap.size + 1, 1, none⟩)) rfl rfl (by kernel_rfl) (by kernel_rfl) (by kernel_rfl) (fun _ _ _ h => by cases h.1) (Or.inl ⟨by kernel_rfl, fun W hW => by go_simp⟩) hS0 ?_
  simp only [Act.put, List.setIfInBounds_toArray, List.set_cons_zero, List.set_cons_succ]
  refine wpAnyH_takeD (i := 5) (some 13) (.int .i64 (cb : Int)) rfl rfl (by kernel_rfl) (by kernel_rfl) (by kernel_rfl) (fun _ _ _ h => by cases h.1) (Or.inl ⟨by kernel_rfl, fun W hW => by obtain ⟨⟨s1, s2, s3⟩, s4, s5, s6⟩ := hSc W hW; go_simp⟩) hS0 ?_
  simp only [Act.put, List.setIfInBounds_toArray, List.set_cons_zero, List.set_cons_succ]
  refine wpAnyH_takeD (i := 6) (some 14) (.int .i64 (d : Int)) rfl rfl (by kernel_rfl) (by kernel_rfl) (by kernel_rfl) (fun _ _ _ h => by cases h.1) (Or.inl ⟨by kernel_rfl, fun W hW => by go_simp⟩) hS0 ?_
  simp only [Act.put, List.setIfInBounds_toArray, List.set_cons_zero, List.set_cons_succ]
  refine wpAnyH_takeD (i := 7) (some 15) (.pointer (some ⟨w.heap.size, 2, none⟩)) rfl rfl (by kernel_rfl) (by kernel_rfl) (by kernel_rfl) (fun _ _ _ h => by cases h.1) (Or.inl ⟨by kernel_rfl, fun W hW => by go_simp⟩) hS0 ?_
  simp only [Act.put, List.setIfInBounds_toArray, List.set_cons_zero, List.set_cons_succ]
  refine wpAnyH_takeD (i := 8) (some 16) (.slice A N1 c1) rfl rfl (by kernel_rfl) (by kernel_rfl) (by kernel_rfl) (fun _ _ _ h => by cases h.1) (Or.inl ⟨by kernel_rfl, fun W hW => by obtain ⟨⟨s1, s2, s3⟩, s4, s5, s6⟩ := hSc W hW; go_simp⟩) hS0 ?_
  simp only [Act.put, List.setIfInBounds_toArray, List.set_cons_zero, List.set_cons_succ]
  refine wpAnyH_takeD (i := 9) (some 17) (.int .i64 (N1 : Int)) rfl rfl (by kernel_rfl) (by kernel_rfl) (by kernel_rfl) (fun _ _ _ h => by cases h.1) (Or.inl ⟨by kernel_rfl, fun W hW => by go_simp⟩) hS0 ?_
  simp only [Act.put, List.setIfInBounds_toArray, List.set_cons_zero, List.set_cons_succ]
  refine wpAnyH_takeD (i := 10) (some 18) (.pointer (some ⟨w.heap.size + 1, 2, none⟩)) rfl rfl (by kernel_rfl) (by kernel_rfl) (by kernel_rfl) (fun _ _ _ h => by cases h.1) (Or.inl ⟨by kernel_rfl, fun W hW => by go_simp⟩) hS0 ?_
  simp only [Act.put, List.setIfInBounds_toArray, List.set_cons_zero, List.set_cons_succ]
  refine wpAnyH_takeD (i := 11) (some 19) (.slice B N2 c2) rfl rfl (by kernel_rfl) (by kernel_rfl) (by kernel_rfl) (fun _ _ _ h => by cases h.1) (Or.inl ⟨by kernel_rfl, fun W hW => by obtain ⟨⟨s1, s2, s3⟩, s4, s5, s6⟩ := hSc W hW; go_simp⟩) hS0 ?_
  simp only [Act.put, List.setIfInBounds_toArray, List.set_cons_zero, List.set_cons_succ]
  refine wpAnyH_takeD (i := 12) (some 20) (.int .i64 (N2 : Int)) rfl rfl (by kernel_rfl) (by kernel_rfl) (by kernel_rfl) (fun _ _ _ h => by cases h.1) (Or.inl ⟨by kernel_rfl, fun W hW => by go_simp⟩) hS0 ?_
  simp only [Act.put, List.setIfInBounds_toArray, List.set_cons_zero, List.set_cons_succ]
  refine wpAnyH_takeD (i := 13) (some 21) (.int .i64 (K : Int)) rfl rfl (by kernel_rfl) (by kernel_rfl) (by kernel_rfl) (fun _ _ _ h => by cases h.1) (Or.inl ⟨by kernel_rfl, fun W hW => by go_simp⟩) hS0 ?_
  simp only [Act.put, List.setIfInBounds_toArray, List.set_cons_zero, List.set_cons_succ]
  refine wpAnyH_two (i := 14) (j := 16) (by kernel_rfl) rfl rfl (by kernel_rfl) (by kernel_rfl) ?_ ?_
  ·obtain ⟨V2, hmk, hO2, hB2⟩ := make_room wa.drew K hbig
   have hb2 : Below wa.heap.size wa V2 := (Below.drewN' (Below.refl _ _) 1).trans hB2
   have hO2' : Own V2 wa.heap.size 5 (.slice (some ⟨wa.heap.size, 0, none⟩) 0 K) (bv (bs [])) := hO2
   go_simp
   refine ⟨hSi _ hb2, ?_⟩
   refine wpAnyH_takeD (i := 15) (some 23) (.agg #[.int .i64 r, .int .i64 d, .slice (some ⟨wa.heap.size, 0, none⟩) 0 K]) rfl rfl (by kernel_rfl) (by kernel_rfl) (by kernel_rfl) (fun _ _ _ h => by cases h.1) (Or.inl ⟨by kernel_rfl, fun W hW => by go_simp⟩) (hSi _ hb2) ?_
   simp only [Act.put, List.setIfInBounds_toArray, List.set_cons_zero, List.set_cons_succ]
   refine wpAnyH_one (i := 16) (by kernel_rfl) rfl (by kernel_rfl) ?_
   go_simp
   refine ⟨hSi _ (hb2.alloc hb2.size _), wpAnyH_one (i := 17) (by kernel_rfl) rfl (by kernel_rfl) ?_⟩
   go_simp
   refine ⟨hSi _ (hb2.alloc hb2.size _), wpAnyH_done (by kernel_rfl) ?_ _⟩
   exact ⟨rfl, V2.heap.size, wa.heap.size, rfl, hb2.size, Nat.le_refl _, Block.new _ _ _, hO2'.alloc _, hb2.alloc hb2.size _⟩
  ·go_simp
   have hbA : Below wa.heap.size wa (wa.alloc (.cells #[.int .i64 0, .int .i64 0, .slice none 0 0] 62)).drew := Below.drewN' ((Below.refl _ _).alloc (Nat.le_refl _) _) 1
   refine ⟨hSi _ hbA, wpAnyH_one (i := 14) (by kernel_rfl) rfl (by kernel_rfl) ?_⟩
   obtain ⟨V2, hmk, hO2, hB2⟩ := make_room (wa.alloc (.cells #[.int .i64 0, .int .i64 0, .slice none 0 0] 62)).drew K hbig
   have hb2 : Below wa.heap.size wa V2 := hbA.trans (hB2.mono (by simp))
   have hbn := (Block.drew (Block.new wa 62 #[.int .i64 0, .int .i64 0, .slice none 0 0])).below hB2 (by simp)
   obtain ⟨y0, y1, y2⟩ := cells3 hbn
   have z0 := hbn.frozen 0
   have z1 := hbn.frozen 1
   have z2 := hbn.frozen 2
   simp only [World.size_drew, World.size_alloc] at hmk hO2
   go_simp
   refine ⟨hSi _ hb2, ?_⟩
   refine wpAnyH_takeD (i := 15) (some 23) (.agg #[.int .i64 r, .int .i64 d, .slice (some ⟨wa.heap.size + 1, 0, none⟩) 0 K]) rfl rfl (by kernel_rfl) (by kernel_rfl) (by kernel_rfl) (fun _ _ _ h => by cases h.1) (Or.inl ⟨by kernel_rfl, fun W hW => by go_simp⟩) (hSi _ hb2) ?_
   simp only [Act.put, List.setIfInBounds_toArray, List.set_cons_zero, List.set_cons_succ]
   refine wpAnyH_one (i := 17) (by kernel_rfl) rfl (by kernel_rfl) ?_
   have hb3 := below_set3 hb2 (Nat.le_refl _) (.int .i64 r) (.int .i64 d) (.slice (some ⟨wa.heap.size + 1, 0, none⟩) 0 K)
   have hbl3 := block_set3_self hbn (.int .i64 r) (.int .i64 d) (.slice (some ⟨wa.heap.size + 1, 0, none⟩) 0 K)
   have hO3 := own_set3 hO2 (g := wa.heap.size) (by simp [Value.ownBlock]) (.int .i64 r) (.int .i64 d) (.slice (some ⟨wa.heap.size + 1, 0, none⟩) 0 K)
   go_simp
   refine ⟨hSi _ hb3, wpAnyH_done (by kernel_rfl) ?_ _⟩
   exact ⟨rfl, wa.heap.size, wa.heap.size + 1, rfl, Nat.le_refl _, by omega, hbl3, hO3.more (by omega), hb3⟩
 case hK =>
  rintro lb g W1 ⟨b1, b2, b3, b4, b5⟩
  have hs1 := b5.size
  have hba1 := hba.below b5 hba.lt
  have hbb1 := hbb.below b5 hbb.lt
  have hbr1 := hbr.below b5 hbr.lt
  have hBw1 := hBa.trans (b5.mono (by have := HSA.out; omega))
  have hlb1 := b3.lt
  have hg1 := (Own.blk b4).2
  have hlg : lb ≠ g := fun e => own_ne b4 b3 (by decide) (by rw [e]; rfl)
  obtain ⟨n0, n1, n2⟩ := cells3 hba1
  clear hba hbb hbr hBa hS0 hSi hSc
  clear S
  go_wp2_with fail
  refine (all_calls r ca N1 c1 A (by omega) _).mono ?_
  rintro e W0 ⟨Bat, Bm, gi, rfl, a1, a2, a3, hV, hB0, a4⟩
  have hs0 := hB0.size
  have hbb0 := hbb1.below hB0 hbb1.lt
  have hbr0 := hbr1.below hB0 hbr1.lt
  have hbp0 := b3.below hB0 b3.lt
  have hO0 := b4.below hB0
  have hBw0 := hBw1.trans (hB0.mono hBw1.size)
  have hw0 := hBw0.size
  have hb16 := mul_bound16 hr hca
  rw [HN1.out] at hb16
  have hb26 := mul_bound16 hr hcb
  rw [HN2.out] at hb26
  clear hba1 hbb1 hbr1 hBw1 hB0 n0 n1 n2 b3 b4 b5
  go_wp2_with fail
  refine wpIn_wide.1 (wpIn_rows (n := 9) (by omega) (Bat := Bat) (Bm := Bm) (na := r) (ca := r) (c := ca) (N := N1) (cap := c1) (Aat := some ⟨gi, 0, none⟩) (A := A) (ats := List.range r) (R := r) (fun k => k) (by simp) (by omega) (fun k hk => List.getElem?_range hk) (by omega) hc1 (by omega) (fun k hk => ⟨hrow1 k hk, by omega⟩) rfl
   (fun k W => Vis W Bat Bm (some ⟨gi, 0, none⟩) r r (List.range r) r ca A N1 c1 ∧ Block W (w.heap.size + 1) 62 #[.int .i64 R2, .int .i64 cb, .slice B N2 c2] ∧ Block W (w.heap.size + 2) 62 #[.int .i64 0, .int .i64 0, .slice none 0 0] ∧ Below w.heap.size w W ∧ ∃ v, Block W lb 62 #[.int .i64 r, .int .i64 d, v] ∧ Own W wa.heap.size 5 v (bv (bs (besL s q ca cb k))) ∧ (∀ b, v.ownBlock = some b → b = g ∨ W0.heap.size ≤ b))
   (fun _ _ => False)
   (fun k W W' ⟨h1, h2, h3, h4, v, h5, h6, h7⟩ t => ⟨h1.turn t, t.block h2, t.block h3, h4.trans (t.below.mono (by omega)), v, t.block h5, t.own h6, h7⟩)
   (fun _ _ _ h _ => h)
   (fun k W h => h.1)
   ⟨hV, hbb0, hbr0, hBw0, _, hbp0, hO0, fun b hb => .inl (by simpa [Value.ownBlock] using hb.symm)⟩
   ?a1 ?assign ?body ?done (fun _ _ h => h.elim))
  case assign =>
   intro l k W K' hk hK'
   gi_wp2
   exact hK'
  case body =>
   rintro l k W hk ⟨h1, h2, h3, h4, v, h5, h6, h7⟩ hsz
   have hbw1 := HB1.out.below h4
   have hrl1 : (rowL s ca k).length = ca := rowL_length (by rw [HL1.out]; exact hrow1 k hk)
   have hrl2 : (rowL q cb k).length = cb := rowL_length (by rw [HL2.out]; exact hrow2 k hk)
   have hRA : Bytes W (rowA A (k * ca) ca) (bs (rowL s ca k)) := rowA_bytes hbw1
   have hpl : (besL s q ca cb k).length = k * d := by
    have := besL_length (s := s) (q := q) (ca := ca) (cb := cb) (k := k) (fun j hj => by rw [HL1.out]; exact hrow1 j (by omega)) (fun j hj => by rw [HL2.out]; exact hrow2 j (by omega))
    rw [this, HD.out]
   have hkd : k * d + d ≤ K := by
    have e : r * d = K := by rw [← HKK.out, ← HD.out, Nat.mul_add, HN1.out, HN2.out]
    rw [← e, ← Nat.succ_mul]; exact Nat.mul_le_mul_right d (by omega)
   obtain ⟨p0, p1, p2⟩ := cells3 h5
   have HH1 := Lib.hid h1
   have HH2 := Lib.hid h2
   have HH3 := Lib.hid h3
   have HH4 := Lib.hid h4
   have HH5 := Lib.hid h5
   have HH6 := Lib.hid h6
   have HH7 := Lib.hid h7
   have HRl1 := Lib.hid hrl1
   have HRl2 := Lib.hid hrl2
   have HPl := Lib.hid hpl
   have HRA := Lib.hid hRA
   have hww := h4.size
   have hsaO : wa.heap.size = w.heap.size + 3 := HSA.out
   have hbat := hV.at_.lt
   have hbm := hV.m_.lt
   have hgb : ∀ b, v.ownBlock = some b → b = g ∨ W0.heap.size ≤ b := h7
   have HSB := Lib.hid hsaO
   clear h1 h2 h3 h4 h5 h6 h7 hrl1 hrl2 hpl hRA hbw1 p0 p1 hsaO
   generalize rowA A (k * ca) ca = RA at HRA ⊢
   obtain ⟨S, hSdef⟩ : ∃ S : World → Prop, S = fun V => V.cell? ⟨w.heap.size + 1, 0, none⟩ = some (.int .i64 R2) ∧ V.cell? ⟨w.heap.size + 1, 1, none⟩ = some (.int .i64 cb) ∧ V.cell? ⟨w.heap.size + 1, 2, none⟩ = some (.slice B N2 c2) := ⟨_, rfl⟩
   have hSi : ∀ V, Block V (w.heap.size + 1) 62 #[.int .i64 R2, .int .i64 cb, .slice B N2 c2] → S V := fun V h => by rw [hSdef]; exact cells3 h
   have hSc : ∀ V, S V → V.cell? ⟨w.heap.size + 1, 0, none⟩ = some (.int .i64 R2) ∧ V.cell? ⟨w.heap.size + 1, 1, none⟩ = some (.int .i64 cb) ∧ V.cell? ⟨w.heap.size + 1, 2, none⟩ = some (.slice B N2 c2) := fun V hV => by rw [hSdef] at hV; exact hV
   have hS0 : S W.drew := hSi _ HH2.out.drew
   clear hSdef
   gi_wp2
   refine region_round_held (S := S) hmx (by kernel_rfl) (fun h => by obtain ⟨a, w, h⟩ := h; exact h) hS0 (fun hS0 => ?_)
   refine wpAnyH_takeD (i := 0) (some 28) (.pointer (some ⟨lb, 2, none⟩)) rfl rfl (by kernel_rfl) (by kernel_rfl) (by kernel_rfl) (fun _ _ _ h => h) (Or.inl ⟨by kernel_rfl, fun W hW => by go_simp⟩) hS0 ?_
   simp only [Act.put, List.setIfInBounds_toArray, List.set_cons_zero, List.set_cons_succ]
   refine wpAnyH_takeD (i := 2) (some 30) (.slice RA ca ca) rfl rfl (by kernel_rfl) (by kernel_rfl) (by kernel_rfl) (fun _ _ _ h => h) (Or.inl ⟨by kernel_rfl, fun W hW => by go_simp⟩) hS0 ?_
   simp only [Act.put, List.setIfInBounds_toArray, List.set_cons_zero, List.set_cons_succ]
   refine wpAnyH_takeD (i := 4) (some 32) (.agg #[.int .i64 R2, .int .i64 cb, .slice B N2 c2]) rfl rfl (by kernel_rfl) (by kernel_rfl) (by kernel_rfl) (fun _ _ _ h => h) (Or.inl ⟨by kernel_rfl, fun W hW => by obtain ⟨s1, s2, s3⟩ := hSc W hW; go_simp⟩) hS0 ?_
   simp only [Act.put, List.setIfInBounds_toArray, List.set_cons_zero, List.set_cons_succ]
   refine wpAnyH_takeD (i := 5) (some 33) (.int .i64 (k : Int)) rfl rfl (by kernel_rfl) (by kernel_rfl) (by kernel_rfl) (fun _ _ _ h => h) (Or.inl ⟨by kernel_rfl, fun W hW => by go_simp⟩) hS0 ?_
   simp only [Act.put, List.setIfInBounds_toArray, List.set_cons_zero, List.set_cons_succ]
   refine wpAnyH_one (i := 1) (by kernel_rfl) rfl (by kernel_rfl) ?_
   go_simp
   refine ⟨hS0, wpAnyH_one (i := 3) (by kernel_rfl) rfl (by kernel_rfl) ?_⟩
   refine wp_app W.drew (.tmp 29) (.tmp 30) 34 rfl wa.heap.size 5 (.int .u8 0) 1 Tryz.underlying34 info_u8 rfl (by decide) v _ rfl HH6.out.drew RA ca ca (bv (bs (rowL s ca k))) rfl (by rw [bvs_length, HRl1.out]) (HRA.out.row.drew) (bv_one _) (by rw [bvs_length, HPl.out]; omega) (by show wa.heap.size ≤ W.heap.size; omega) ?_
   intro v1 W2 hO2 hgr hob
   have hsaO := HSB.out
   have hB2 : But W.heap.size (fun b => v.ownBlock = some b) W W2 := (But.refl _ _ W).drew.trans (but_grown hgr)
   have hsz2 := hB2.size
   have hnb : ∀ b, b < W0.heap.size → b ≠ g → ¬ v.ownBlock = some b := fun b hb hn e => by
    rcases hgb b e with h | h <;> omega
   have hgb1 : ∀ b, v1.ownBlock = some b → b = g ∨ W0.heap.size ≤ b := fun b hb => by
    rcases hob with h | h
    ·rw [h] at hb; exact hgb b hb
    ·rw [h] at hb
     injection hb with hb
     have : W.drew.heap.size = W.heap.size := rfl
     exact .inr (by omega)
   have hk2 : ∀ b, b < W0.heap.size → b ≠ g → W2.heap[b]? = W.heap[b]? := fun b hb hn => hB2.block b (by omega) (hnb b hb hn)
   have hb2 : Block W2 (w.heap.size + 1) 62 #[.int .i64 R2, .int .i64 cb, .slice B N2 c2] := (hk2 _ (by omega) (by omega)).trans HH2.out
   have hkp2 : KeepsFrom W0.heap.size W W2 := keeps_but hB2 (fun b o hb ho => own_isCells' HH6.out hb ho)
   have hBl2 : Below w.heap.size w W2 := HH4.out.trans ((hB2.mono (S' := fun _ => False) hww (fun b hb e => by rcases hgb b e with h | h <;> omega)) |> fun h => ⟨h.os, h.tape, h.output, h.size, fun k hk => h.block k hk id⟩)
   refine ⟨hSi _ hb2, wpAnyH_one (i := 6) (by kernel_rfl) rfl (by kernel_rfl) ?_⟩
   go_simp
   refine (rowAt_laid R2 B N2 c2 k cb (by omega) (hrow2 k hk) hc2 hcb (by omega) _).mono ?_
   rintro e W3 ⟨rfl, ht⟩
   have hb3 := ht.block hb2
   have hO3 := ht.own hO2
   have hRB : Bytes W3 (rowA B (k * cb) cb) (bs (rowL q cb k)) := rowA_bytes (HB2.out.below (hBl2.trans (ht.below.mono hBl2.size)))
   show S W3 ∧ _
   refine ⟨hSi _ hb3, wpAnyH_one (i := 7) (by kernel_rfl) rfl (by kernel_rfl) ?_⟩
   have hdO := HD.out
   refine wp_app W3 (.tmp 31) (.tmp 34) 34 rfl wa.heap.size 5 (.int .u8 0) 1 Tryz.underlying34 info_u8 rfl (by decide) v1 _ rfl hO3 (rowA B (k * cb) cb) cb cb (bv (bs (rowL q cb k))) rfl (by rw [bvs_length, HRl2.out]) hRB.row (bv_one _) (by rw [List.length_append, bvs_length, bvs_length, HPl.out, HRl1.out]; omega) (by have := ht.size; omega) ?_
   intro v2 W4 hO4 hgr4 hob4
   obtain ⟨A7, n7, c7, hv7⟩ : ∃ A7 n7 c7, v2 = .slice A7 n7 c7 := by obtain ⟨A7, c7, e, _⟩ := Own.form hO4; exact ⟨A7, _, c7, e⟩
   subst hv7
   have hsz3 : W2.heap.size ≤ W3.heap.size := ht.size
   have hB3 : But W2.heap.size (fun b => v.ownBlock = some b) W2 W3 := But.of_below ht.below
   have hob1 : ∀ b, b < W.heap.size → v1.ownBlock = some b → v.ownBlock = some b := fun b hb e => by
    rcases hob with h | h
    ·rw [← h]; exact e
    ·rw [h] at e
     injection e with e
     have : W.drew.heap.size = W.heap.size := rfl
     omega
   have hB4 : But W.heap.size (fun b => v.ownBlock = some b) W W4 := (hB2.trans (hB3.mono hsz2 (fun _ _ h => h))).trans ((but_grown hgr4).mono (by omega) hob1)
   have hsz4 := hB4.size
   have hl4 := hB4.blk HH5.out HH5.out.lt (hnb lb (by omega) hlg)
   obtain ⟨y0, y1, y2⟩ := cells3 hl4
   have yf := hl4.frozen 2
   have hkp4 : KeepsFrom W0.heap.size W W4 := (hkp2.trans (keeps_turn ht)).trans (keeps_but (but_grown hgr4) (fun b o hb ho => own_isCells' hO3 hb ho))
   have hgw : w.heap.size + 2 < g := by omega
   have hlw : w.heap.size + 2 < lb := by omega
   have G1 := Lib.hid (HH1.out.keep (W' := W4.setCell ⟨lb, 2, none⟩ (.slice A7 n7 c7)) (fun q hq e => by
    have hq0 : q ≠ lb ∧ ¬ v.ownBlock = some q := by
     rcases e with rfl | rfl | ⟨a, ha, rfl⟩
     ·exact ⟨by omega, hnb _ (by omega) (by omega)⟩
     ·exact ⟨by omega, hnb _ (by omega) (by omega)⟩
     ·injection ha with ha
      subst ha
      exact ⟨by show gi ≠ lb; omega, hnb _ (by show gi < _; omega) (by show gi ≠ g; omega)⟩
    rw [Below.heap_setCell _ _ _ _ (by simpa using hq0.1)]
    exact hB4.block q hq hq0.2))
   have G2 := Lib.hid ((hB4.blk HH2.out HH2.out.lt (hnb _ (by omega) (by omega))).far (p := ⟨lb, 2, none⟩) (by simp; omega) (.slice A7 n7 c7))
   have G3 := Lib.hid ((hB4.blk HH3.out HH3.out.lt (hnb _ (by omega) (by omega))).far (p := ⟨lb, 2, none⟩) (by simp; omega) (.slice A7 n7 c7))
   have G4 : Hid (Below w.heap.size w (W4.setCell ⟨lb, 2, none⟩ (.slice A7 n7 c7))) := Lib.hid ((HH4.out.trans ((hB4.mono (S' := fun _ => False) hww (fun b hb e => by rcases hgb b e with h | h <;> omega)) |> fun h => ⟨h.os, h.tape, h.output, h.size, fun k hk => h.block k hk id⟩)).setCell (p := ⟨lb, 2, none⟩) (by simp; omega) _)
   have G5 := Lib.hid (hl4.set_ 2 (.slice A7 n7 c7))
   have hgb2 : ∀ b, (Value.slice A7 n7 c7).ownBlock = some b → b = g ∨ W0.heap.size ≤ b := fun b hb => by
    rcases hob4 with h | h
    ·rw [h] at hb; exact hgb1 b hb
    ·rw [h] at hb
     injection hb with hb
     exact .inr (by omega)
   have hne' : (Value.slice A7 n7 c7).ownBlock ≠ some lb := fun e => by
    rcases hgb2 _ e with h | h <;> omega
   have G6 := Lib.hid (Own.far (p := ⟨lb, 2, none⟩) hO4 hne' (.slice A7 n7 c7))
   have GP : Hid (bv (bs (besL s q ca cb k)) ++ bv (bs (rowL s ca k)) ++ bv (bs (rowL q cb k)) = bv (bs (besL s q ca cb (k + 1)))) := Lib.hid (by simp only [besL, bs_append, bv_append])
   have hkp5 : KeepsFrom W0.heap.size W (W4.setCell ⟨lb, 2, none⟩ (.slice A7 n7 c7)) := hkp4.trans ((KeepsOthers.setCell _ _ _).from _)
   have hb4 : Block W4 (w.heap.size + 1) 62 #[.int .i64 R2, .int .i64 cb, .slice B N2 c2] := hB4.blk HH2.out HH2.out.lt (hnb _ (by omega) (by omega))
   have hS4 := hSi _ hb4
   have hS5 := hSi _ G2.out
   rw [GP.out] at G6
   have HG7 := Lib.hid hgb2
   clear hO4 hgr4 hob4 hB4 hnb hl4 hkp4 hne' hO2 hgr hob hB2 hk2 hb2 hb4 hkp2 hBl2 ht hb3 hO3 hRB hob1 hB3 hgb1 hgb2 hgb
   refine ⟨hS4, ?_⟩
   simp only [Act.put, List.setIfInBounds_toArray]
   refine wpAnyH_takeD (i := 8) (some 36) (.pointer (some ⟨lb, 2, none⟩)) rfl rfl (by kernel_rfl) (by kernel_rfl) (by kernel_rfl) (fun _ _ _ h => h) (Or.inl ⟨by kernel_rfl, fun W hW => by go_simp⟩) hS4 ?_
   simp only [Act.put]
   refine wpAnyH_one (i := 9) (by kernel_rfl) rfl (by kernel_rfl) ?_
   go_simp
   refine ⟨hS5, wpAnyH_done (by kernel_rfl) ?_ _⟩
   exact ⟨hkp5, G1.out, G2.out, G3.out, G4.out, .slice A7 n7 c7, by simpa using G5.out, G6.out, HG7.out⟩
  case done =>
   rintro W ⟨h1, h2, h3, h4, v, h5, h6, h7⟩ hD
   obtain ⟨A9, c9, rfl, hc9⟩ := Own.shape h6
   obtain ⟨l0, l1, l2⟩ := cells3 h5
   have d0 := h3.cell 0
   have d1 := h3.cell 1
   have d2 := h3.cell 2
   have f0 := h3.frozen 0
   have f1 := h3.frozen 1
   have f2 := h3.frozen 2
   have hne3 : (Value.slice A9 (besL s q ca cb r).length c9).ownBlock ≠ some (w.heap.size + 2) := fun e => own_ne h6 h3 (by decide) e
   have hw3 := h3.lt
   go_wp2
   have hK := set3_other hD (show W0.heap.size ≠ w.heap.size + 2 by have := HSA.out; omega) (.int .i64 r) (.int .i64 d) (.slice A9 (besL s q ca cb r).length c9)
   refine ⟨by simp, .inl ⟨_, _, rfl, run_takeDeferred hK, ?_⟩⟩
   have ht : Turn w.heap.size (set3 W (w.heap.size + 2) (.int .i64 r) (.int .i64 d) (.slice A9 (besL s q ca cb r).length c9)) _ := Turn.put hK rfl (by omega) (.deferred none)
   obtain ⟨e0, e1, e2⟩ := cells3 (ht.block (block_set3_self h3 (.int .i64 r) (.int .i64 d) (.slice A9 (besL s q ca cb r).length c9)))
   have hO3 := (ht.own (own_set3 h6 hne3 (.int .i64 r) (.int .i64 d) (.slice A9 (besL s q ca cb r).length c9))).more (B' := w.heap.size) (by have := HSA.out; omega)
   refine ⟨.agg #[.int .i64 r, .int .i64 d, .slice A9 (besL s q ca cb r).length c9], ?_, A9, c9, rfl, hc9, hO3, (below_set3 h4 (by omega) _ _ _).trans ht.below⟩
   unfold set3 at e0 e1 e2
   simp [results, Tryz.results178, go_sem, e0, e1, e2]
end Go.Proofs.YtjoghbmedfmioaaGreat.Mat
