/- What Powers does beyond its bounds; Pick at its bound; the law's function bounds. The law's function bounds. What MatrixKnown's walk rests on: the laws at its values. -/
import Derived.Test.YtjpbdbgihakpmaaMatTwo
import Derived.Test.YtjpbdbgihakpmaaMatWorks
import Derived.Deep.RegionHeld
import Derived.Test.YtjpbdbgihakpmaaMatWalks5
import Derived.Test.YtjpbdbgihakpmaaMatrixSolvesWalk
import Derived.Test.YtjpbdbgihakpmaaMatrixTwoWalk
import Derived.IntWalk
namespace Go.Proofs.Ytjpbdbgihakpmaa.Mat
open Go.RowKit Go.Shelf F8 Poly GF
attribute [local go_sem] Oper.semAt_some

set_option maxRecDepth 100000 in
set_option maxHeartbeats 4000000 in
theorem powers_wide (pf A : Option Addr) (xs : List F8) (m cap n0 : Nat) (hl : xs.length = m) (hm : m ≤ 65536) (hn : n0 ≤ 65536) (hwide : 16777216 < m * n0) (w : World) (_hb : Bytes w A (bs xs)) (hf : FldP w pf) :
  Calls Try.prog 61 #[.pointer pf, .slice A m cap, .int .i64 n0] w (PowRes pf m 0 [] w) := by
 have g1 : decide ((m : Int) > 65536) = false := by simp; omega
 have hside : sideB n0 = true := sideB_true hn
 obtain ⟨N0, hN0⟩ : ∃ N, m * n0 = N := ⟨_, rfl⟩
 have hN9 : N0 ≤ 1000000000000 := by rw [← hN0]; exact Nat.le_trans (Nat.mul_le_mul hm hn) (by decide)
 rw [hN0] at hwide
 have g2 : decide (((N0 : Nat) : Int) > 16777216) = true := by simp; omega
 have harea : ∀ V, Calls Try.prog 68 #[.int .i64 m, .int .i64 n0] V fun e w' => e = .returned (.int .i64 (N0 : Nat)) ∧ w' = V := fun V => by
  rw [← hN0]
  exact (area_nat m n0 (by rw [hN0]; omega) V).mono fun _ _ h => ⟨h.1, h.2.symm⟩
 clear hN0
 have HF := Lib.hid hf
 have hmx : Try.prog.follows .mixedOrders = true := by kernel_rfl
 clear hl hf
 refine (callsIn_wide (n := 9)).1 (callsIn_of_wp_marks Try.func61 rfl trivial ?_ rfl)
 simp only [Try.ntmps61, List.size_toArray, List.length_cons, List.length_nil, Nat.reduceAdd, Nat.reduceSub, Array.replicate_succ, Array.replicate_zero, List.push_toArray, List.append_toArray, List.nil_append, List.cons_append]
 refine wpIn_wide.2 ?_
 obtain ⟨wa, hwa⟩ : ∃ wa, ((w.alloc (.cells #[.pointer pf] 40)).alloc (.cells #[.slice A m cap] 22)).alloc (.cells #[.int .i64 0, .int .i64 0, .slice none 0 0] 24) = wa := ⟨_, rfl⟩
 have hbf : Block wa w.heap.size 40 #[.pointer pf] := by rw [← hwa]; exact ((Block.new _ _ _).alloc _).alloc _
 have hbx : Block wa (w.heap.size + 1) 22 #[.slice A m cap] := by
  rw [← hwa]
  have := Block.new (w.alloc (.cells #[.pointer pf] 40)) 22 #[.slice A m cap]
  rw [World.size_alloc] at this
  exact this.alloc _
 have hbr : Block wa (w.heap.size + 2) 24 #[.int .i64 0, .int .i64 0, .slice none 0 0] := by
  rw [← hwa]
  have := Block.new ((w.alloc (.cells #[.pointer pf] 40)).alloc (.cells #[.slice A m cap] 22)) 24 #[.int .i64 0, .int .i64 0, .slice none 0 0]
  rwa [World.size_alloc, World.size_alloc] at this
 have hBa : Below w.heap.size w wa := by rw [← hwa]; exact (((Below.refl _ w).alloc (Nat.le_refl _) _).alloc (by simp) _).alloc (by simp; omega) _
 have hsa : wa.heap.size = w.heap.size + 3 := by rw [← hwa]; simp
 have x0 := hbx.cell 0
 have y0 := hbf.cell 0
 go_wp2_with fail
 refine (isSide_calls n0 _).mono ?_
 rintro e w1 ⟨rfl, rfl⟩
 rw [hside]
 go_wp2_with fail
 refine (harea _).mono ?_
 rintro e w1 ⟨rfl, rfl⟩
 go_wp2_with fail
 refine (orNew_f pf w _ HF.out hBa).mono ?_
 rintro e w2 ⟨gf, rfl, hg, hF2, hB2⟩
 have hs2 := hB2.size
 have hgf0 : w.heap.size ≠ gf := hg.ne (Nat.le_refl _) (by omega)
 have hgfr : w.heap.size + 2 ≠ gf := hg.ne (by omega) (by omega)
 have hbf2 := hbf.below hB2 hbf.lt
 have hbx2 := hbx.below hB2 hbx.lt
 have hbr2 := hbr.below hB2 hbr.lt
 have hBw2 := hBa.trans (hB2.mono (by omega))
 have z0 := hbf2.frozen 0
 obtain ⟨w3, hw3⟩ : ∃ w3, w2.setCell ⟨w.heap.size, 0, none⟩ (.pointer (some ⟨gf, 0, none⟩)) = w3 := ⟨_, rfl⟩
 have hbf3 : Block w3 w.heap.size 40 #[.pointer (some ⟨gf, 0, none⟩)] := by rw [← hw3]; simpa using hbf2.set_ 0 (.pointer (some ⟨gf, 0, none⟩))
 have hbx3 : Block w3 (w.heap.size + 1) 22 #[.slice A m cap] := by rw [← hw3]; exact hbx2.far (p := ⟨w.heap.size, 0, none⟩) (by simp) _
 have hbr3 : Block w3 (w.heap.size + 2) 24 #[.int .i64 0, .int .i64 0, .slice none 0 0] := by rw [← hw3]; exact hbr2.far (p := ⟨w.heap.size, 0, none⟩) (by simp) _
 have hF3 : Fld w3 gf := by rw [← hw3]; exact hF2.imp (fun h => h.far (p := ⟨w.heap.size, 0, none⟩) (Ne.symm hgf0) _) (fun h => h.far (p := ⟨w.heap.size, 0, none⟩) (Ne.symm hgf0) _)
 have hBw3 : Below w.heap.size w w3 := by rw [← hw3]; exact hBw2.setCell (p := ⟨w.heap.size, 0, none⟩) (Nat.le_refl _) _
 have hs3 : w3.heap.size = w2.heap.size := by rw [← hw3]; simp [World.setCell]
 have x3 := hbx3.cell 0
 have y2 := hbf2.cell 0
 clear hbf hbx hbr hBa hwa x0 y0 hB2 hbf2 hbx2 hbr2 hBw2 hF2
 go_wp2_with fail
 clear x3 y2 z0 hw3
 refine (zeros_calls m 0 0 (Nat.mul_zero m) (by omega) _).mono ?_
 rintro e w4 ⟨gz, rfl, z1, z2, hO, hB4⟩
 have hs4 := hB4.size
 have hbf4 := hbf3.below hB4 hbf3.lt
 have hbx4 := hbx3.below hB4 hbx3.lt
 have hbr4 := hbr3.below hB4 hbr3.lt
 have hF4 := hF3.below hB4 hF3.lt
 have hBw4 := hBw3.trans (hB4.mono (by omega))
 clear hbf3 hbx3 hbr3 hF3 hBw3 hB4
 go_wp2_with fail
 refine (all_calls m 0 0 0 (some ⟨gz, 0, none⟩) (by omega) _).mono ?_
 rintro e W0 ⟨Bat, Bm, gi, rfl, a1, a2, a3, hV, hB0, a4⟩
 simp only [World.size_alloc] at a1 a2 a3
 have hbf0 := (hbf4.alloc (.cells #[.int .i64 m, .int .i64 0, .slice (some ⟨gz, 0, none⟩) 0 0] 24)).below hB0 (by simp; have := hbf4.lt; omega)
 have hbx0 := (hbx4.alloc (.cells #[.int .i64 m, .int .i64 0, .slice (some ⟨gz, 0, none⟩) 0 0] 24)).below hB0 (by simp; have := hbx4.lt; omega)
 have hbr0 := (hbr4.alloc (.cells #[.int .i64 m, .int .i64 0, .slice (some ⟨gz, 0, none⟩) 0 0] 24)).below hB0 (by simp; have := hbr4.lt; omega)
 have hbo0 : Block W0 w4.heap.size 24 #[.int .i64 m, .int .i64 0, .slice (some ⟨gz, 0, none⟩) 0 0] := (Block.new _ _ _).below hB0 (by simp)
 have hO0 : Own W0 w.heap.size 5 (.slice (some ⟨gz, 0, none⟩) 0 0) (bv (bs (List.replicate 0 0))) := ((hO.more (by omega)).alloc _).below hB0
 have hF0 := (hF4.alloc (.cells #[.int .i64 m, .int .i64 0, .slice (some ⟨gz, 0, none⟩) 0 0] 24)).below hB0 (by simp; have := hF4.lt; omega)
 have hBw : Below w.heap.size w W0 := (hBw4.alloc (by omega) _).trans (hB0.mono (by simp; omega))
 have hs0 := hB0.size
 simp only [World.size_alloc] at hs0
 have hgp : w4.heap.size ≠ gf := fun e => Fld.ne_block hF0 hbo0 (by decide) e.symm
 have hVf : Bat ≠ gf ∧ Bm ≠ gf ∧ gi ≠ gf := by
  have := hF4.lt
  omega
 clear hbf4 hbx4 hbr4 hF4 hBw4 hB0 hO
 go_wp2_with fail
 refine wpIn_wide.1 (wpIn_rows (n := 9) (by omega) (Bat := Bat) (Bm := Bm) (na := m) (ca := m) (c := 0) (N := 0) (cap := 0) (Aat := some ⟨gi, 0, none⟩) (A := some ⟨gz, 0, none⟩) (ats := List.range m) (R := m) (fun k => k) (by simp) (by omega) (fun k hk => List.getElem?_range hk)
  (by omega) (Nat.le_refl _) (by omega) (fun k hk => ⟨by simp, by omega⟩) rfl
  (fun k W => Vis W Bat Bm (some ⟨gi, 0, none⟩) m m (List.range m) m 0 (some ⟨gz, 0, none⟩) 0 0 ∧ Block W (w.heap.size + 2) 24 #[.int .i64 0, .int .i64 0, .slice none 0 0] ∧ Block W w4.heap.size 24 #[.int .i64 m, .int .i64 0, .slice (some ⟨gz, 0, none⟩) 0 0] ∧ Past w.heap.size gf w W ∧ Fld W gf ∧ Own W w.heap.size 5 (.slice (some ⟨gz, 0, none⟩) 0 0) [])
  (fun _ _ => False)
  (fun k W W' ⟨h1, h2, h5, h6, h7, h9⟩ t => ⟨h1.turn t, t.block h2, t.block h5, t.past h6 (by omega), h7.imp t.block t.block, t.own h9⟩)
  (fun _ _ _ h _ => h)
  (fun k W h => h.1)
  ⟨hV, hbr0, hbo0, Past.of_below hBw gf, hF0, hO0⟩
  ?a1 ?assign ?body ?done (fun _ _ h => h.elim))
 case assign =>
  intro l k W K hk hK
  gi_wp2
  exact hK
 case body =>
  rintro l i W hi ⟨k1, k2, k5, k6, k7, k9⟩ hsz
  gi_wp2
  gi_loopw [10, 37] (fun pv ii wr => pv = .int .u8 1 ∧ ii = .int .i64 0 ∧ wr = W) (fun _ _ _ => 0)
  case atStart => exact ⟨rfl, rfl, rfl⟩
  case round =>
   obtain ⟨rfl, rfl, rfl⟩ := hrel
   gi_wp2
   exact ⟨keeps_below (Below.refl _ _), k1, k2, k5, k6, k7, k9⟩
 case done =>
  rintro W ⟨k1, k2, k5, k6, k7, k9⟩ hD
  obtain ⟨l0, l1, l2⟩ := cells3 k5
  have d0 := k2.cell 0
  have d1 := k2.cell 1
  have d2 := k2.cell 2
  have f0 := k2.frozen 0
  have f1 := k2.frozen 1
  have f2 := k2.frozen 2
  go_wp2
  have hK := set3_other hD (show W0.heap.size ≠ w.heap.size + 2 by omega) (.int .i64 m) (.int .i64 0) (.slice (some ⟨gz, 0, none⟩) 0 0)
  refine ⟨by simp, .inl ⟨_, _, rfl, run_takeDeferred hK, ?_⟩⟩
  have ht : Turn w.heap.size (set3 W (w.heap.size + 2) (.int .i64 m) (.int .i64 0) (.slice (some ⟨gz, 0, none⟩) 0 0)) _ := Turn.put hK rfl (by omega) (.deferred none)
  obtain ⟨e0, e1, e2⟩ := cells3 (ht.block (block_set3_self k2 (.int .i64 m) (.int .i64 0) (.slice (some ⟨gz, 0, none⟩) 0 0)))
  refine ⟨.agg #[.int .i64 m, .int .i64 0, .slice (some ⟨gz, 0, none⟩) 0 0], ?_, some ⟨gz, 0, none⟩, 0, rfl, Nat.le_refl _, ?_, ?_, ?_⟩
  ·unfold set3 at e0 e1 e2
   simp [results, Try.results61, go_sem, e0, e1, e2]
  ·exact ht.own (own_set3 k9 (by simp [Value.ownBlock]; omega) _ _ _)
  ·exact hg.fldP ((fld_set3 k7 (Ne.symm hgfr) _ _ _).imp ht.block ht.block)
  ·exact hg.past (by omega) (ht.past (past_set3 k6 (.inr (by omega)) _ _ _) (Nat.le_refl _))

set_option maxRecDepth 100000 in
set_option maxHeartbeats 4000000 in
/-- Too many: they count as none. -/
theorem powers_many (pf A : Option Addr) (m cap : Nat) (hm : 65536 < m) (w : World) (hf : FldP w pf) :
  Calls Try.prog 61 #[.pointer pf, .slice A m cap, .int .i64 1] w (PowRes pf 0 1 [] w) := by
 have g1 : decide ((m : Int) > 65536) = true := by simp; omega
 have hside : sideB 1 = true := by decide
 have HF := Lib.hid hf
 have harea : ∀ V, Calls Try.prog 68 #[.int .i64 0, .int .i64 1] V fun e w' => e = .returned (.int .i64 0) ∧ w' = V := fun V =>
  (area_nat 0 1 (by decide) V).mono fun _ _ h => ⟨h.1, h.2.symm⟩
 have hmx : Try.prog.follows .mixedOrders = true := by kernel_rfl
 clear hf
 refine (callsIn_wide (n := 9)).1 (callsIn_of_wp_marks Try.func61 rfl trivial ?_ rfl)
 simp only [Try.ntmps61, List.size_toArray, List.length_cons, List.length_nil, Nat.reduceAdd, Nat.reduceSub, Array.replicate_succ, Array.replicate_zero, List.push_toArray, List.append_toArray, List.nil_append, List.cons_append]
 refine wpIn_wide.2 ?_
 obtain ⟨wa, hwa⟩ : ∃ wa, ((w.alloc (.cells #[.pointer pf] 40)).alloc (.cells #[.slice A m cap] 22)).alloc (.cells #[.int .i64 0, .int .i64 0, .slice none 0 0] 24) = wa := ⟨_, rfl⟩
 have hbf : Block wa w.heap.size 40 #[.pointer pf] := by rw [← hwa]; exact ((Block.new _ _ _).alloc _).alloc _
 have hbx : Block wa (w.heap.size + 1) 22 #[.slice A m cap] := by
  rw [← hwa]
  have := Block.new (w.alloc (.cells #[.pointer pf] 40)) 22 #[.slice A m cap]
  rw [World.size_alloc] at this
  exact this.alloc _
 have hbr : Block wa (w.heap.size + 2) 24 #[.int .i64 0, .int .i64 0, .slice none 0 0] := by
  rw [← hwa]
  have := Block.new ((w.alloc (.cells #[.pointer pf] 40)).alloc (.cells #[.slice A m cap] 22)) 24 #[.int .i64 0, .int .i64 0, .slice none 0 0]
  rwa [World.size_alloc, World.size_alloc] at this
 have hBa : Below w.heap.size w wa := by rw [← hwa]; exact (((Below.refl _ w).alloc (Nat.le_refl _) _).alloc (by simp) _).alloc (by simp; omega) _
 have hsa : wa.heap.size = w.heap.size + 3 := by rw [← hwa]; simp
 have x0 := hbx.cell 0
 have xf := hbx.frozen 0
 obtain ⟨wb, hwb⟩ : ∃ wb, wa.setCell ⟨w.heap.size + 1, 0, none⟩ (.slice none 0 0) = wb := ⟨_, rfl⟩
 have hbf' : Block wb w.heap.size 40 #[.pointer pf] := by rw [← hwb]; exact hbf.far (p := ⟨w.heap.size + 1, 0, none⟩) (by simp) _
 have hbx' : Block wb (w.heap.size + 1) 22 #[.slice none 0 0] := by rw [← hwb]; simpa using hbx.set_ 0 (.slice none 0 0)
 have hbr' : Block wb (w.heap.size + 2) 24 #[.int .i64 0, .int .i64 0, .slice none 0 0] := by rw [← hwb]; exact hbr.far (p := ⟨w.heap.size + 1, 0, none⟩) (by simp) _
 have hBb : Below w.heap.size w wb := by rw [← hwb]; exact hBa.setCell (p := ⟨w.heap.size + 1, 0, none⟩) (by simp) _
 have hsb : wb.heap.size = w.heap.size + 3 := by rw [← hwb, ← hsa]; simp [World.setCell]
 have xb := hbx'.cell 0
 have y0 := hbf'.cell 0
 clear hbf hbx hbr hBa
 have hbf := hbf'
 have hbx := hbx'
 have hbr := hbr'
 have hBa := hBb
 clear hbf' hbx' hbr' hBb
 go_wp2_with fail
 refine (isSide_calls 1 _).mono ?_
 rintro e w1 ⟨rfl, rfl⟩
 rw [hside]
 clear hwb xf x0
 go_wp2_with fail
 refine (harea _).mono ?_
 rintro e w1 ⟨rfl, rfl⟩
 go_wp2_with fail
 refine (orNew_f pf w _ HF.out hBa).mono ?_
 rintro e w2 ⟨gf, rfl, hg, hF2, hB2⟩
 have hs2 := hB2.size
 have hgf0 : w.heap.size ≠ gf := hg.ne (Nat.le_refl _) (by omega)
 have hgfr : w.heap.size + 2 ≠ gf := hg.ne (by omega) (by omega)
 have hbf2 := hbf.below hB2 hbf.lt
 have hbx2 := hbx.below hB2 hbx.lt
 have hbr2 := hbr.below hB2 hbr.lt
 have hBw2 := hBa.trans (hB2.mono (by omega))
 have z0 := hbf2.frozen 0
 obtain ⟨w3, hw3⟩ : ∃ w3, w2.setCell ⟨w.heap.size, 0, none⟩ (.pointer (some ⟨gf, 0, none⟩)) = w3 := ⟨_, rfl⟩
 have hbf3 : Block w3 w.heap.size 40 #[.pointer (some ⟨gf, 0, none⟩)] := by rw [← hw3]; simpa using hbf2.set_ 0 (.pointer (some ⟨gf, 0, none⟩))
 have hbx3 : Block w3 (w.heap.size + 1) 22 #[.slice none 0 0] := by rw [← hw3]; exact hbx2.far (p := ⟨w.heap.size, 0, none⟩) (by simp) _
 have hbr3 : Block w3 (w.heap.size + 2) 24 #[.int .i64 0, .int .i64 0, .slice none 0 0] := by rw [← hw3]; exact hbr2.far (p := ⟨w.heap.size, 0, none⟩) (by simp) _
 have hF3 : Fld w3 gf := by rw [← hw3]; exact hF2.imp (fun h => h.far (p := ⟨w.heap.size, 0, none⟩) (Ne.symm hgf0) _) (fun h => h.far (p := ⟨w.heap.size, 0, none⟩) (Ne.symm hgf0) _)
 have hBw3 : Below w.heap.size w w3 := by rw [← hw3]; exact hBw2.setCell (p := ⟨w.heap.size, 0, none⟩) (Nat.le_refl _) _
 have hs3 : w3.heap.size = w2.heap.size := by rw [← hw3]; simp [World.setCell]
 have x3 := hbx3.cell 0
 have y2 := hbf2.cell 0
 clear hbf hbx hbr hBa hwa xb y0 hB2 hbf2 hbx2 hbr2 hBw2 hF2
 go_wp2_with fail
 clear x3 y2 z0 hw3
 refine (zeros_calls 0 1 0 (Nat.zero_mul 1) (by omega) _).mono ?_
 rintro e w4 ⟨gz, rfl, z1, z2, hO, hB4⟩
 have hs4 := hB4.size
 have hbf4 := hbf3.below hB4 hbf3.lt
 have hbx4 := hbx3.below hB4 hbx3.lt
 have hbr4 := hbr3.below hB4 hbr3.lt
 have hF4 := hF3.below hB4 hF3.lt
 have hBw4 := hBw3.trans (hB4.mono (by omega))
 clear hbf3 hbx3 hbr3 hF3 hBw3 hB4
 go_wp2_with fail
 refine (all_calls 0 1 0 0 (some ⟨gz, 0, none⟩) (by omega) _).mono ?_
 rintro e W0 ⟨Bat, Bm, gi, rfl, a1, a2, a3, hV, hB0, a4⟩
 simp only [World.size_alloc] at a1 a2 a3
 have hbf0 := (hbf4.alloc (.cells #[.int .i64 0, .int .i64 1, .slice (some ⟨gz, 0, none⟩) 0 0] 24)).below hB0 (by simp; have := hbf4.lt; omega)
 have hbx0 := (hbx4.alloc (.cells #[.int .i64 0, .int .i64 1, .slice (some ⟨gz, 0, none⟩) 0 0] 24)).below hB0 (by simp; have := hbx4.lt; omega)
 have hbr0 := (hbr4.alloc (.cells #[.int .i64 0, .int .i64 1, .slice (some ⟨gz, 0, none⟩) 0 0] 24)).below hB0 (by simp; have := hbr4.lt; omega)
 have hbo0 : Block W0 w4.heap.size 24 #[.int .i64 0, .int .i64 1, .slice (some ⟨gz, 0, none⟩) 0 0] := (Block.new _ _ _).below hB0 (by simp)
 have hO0 : Own W0 w.heap.size 5 (.slice (some ⟨gz, 0, none⟩) 0 0) (bv (bs (List.replicate 0 0))) := ((hO.more (by omega)).alloc _).below hB0
 have hF0 := (hF4.alloc (.cells #[.int .i64 0, .int .i64 1, .slice (some ⟨gz, 0, none⟩) 0 0] 24)).below hB0 (by simp; have := hF4.lt; omega)
 have hBw : Below w.heap.size w W0 := (hBw4.alloc (by omega) _).trans (hB0.mono (by simp; omega))
 have hs0 := hB0.size
 simp only [World.size_alloc] at hs0
 have hgp : w4.heap.size ≠ gf := fun e => Fld.ne_block hF0 hbo0 (by decide) e.symm
 have hVf : Bat ≠ gf ∧ Bm ≠ gf ∧ gi ≠ gf := by
  have := hF4.lt
  omega
 clear hbf4 hbx4 hbr4 hF4 hBw4 hB0 hO
 go_wp2_with fail
 refine wpIn_wide.1 (wpIn_rows (n := 9) (by omega) (Bat := Bat) (Bm := Bm) (na := 0) (ca := 0) (c := 1) (N := 0) (cap := 0) (Aat := some ⟨gi, 0, none⟩) (A := some ⟨gz, 0, none⟩) (ats := List.range 0) (R := 0) (fun k => k) (by simp) (by omega) (fun k hk => List.getElem?_range hk)
  (by omega) (Nat.le_refl _) (by omega) (fun k hk => absurd hk (by omega)) rfl
  (fun k W => Vis W Bat Bm (some ⟨gi, 0, none⟩) 0 0 (List.range 0) 0 1 (some ⟨gz, 0, none⟩) 0 0 ∧ Block W (w.heap.size + 2) 24 #[.int .i64 0, .int .i64 0, .slice none 0 0] ∧ Block W w4.heap.size 24 #[.int .i64 0, .int .i64 1, .slice (some ⟨gz, 0, none⟩) 0 0] ∧ Past w.heap.size gf w W ∧ Fld W gf ∧ Own W w.heap.size 5 (.slice (some ⟨gz, 0, none⟩) 0 0) [])
  (fun _ _ => False)
  (fun k W W' ⟨h1, h2, h5, h6, h7, h9⟩ t => ⟨h1.turn t, t.block h2, t.block h5, t.past h6 (by omega), h7.imp t.block t.block, t.own h9⟩)
  (fun _ _ _ h _ => h)
  (fun k W h => h.1)
  ⟨hV, hbr0, hbo0, Past.of_below hBw gf, hF0, hO0⟩
  ?a1 ?assign ?body ?done (fun _ _ h => h.elim))
 case assign =>
  intro l k W K hk hK
  gi_wp2
  exact hK
 case body =>
  intro l i W hi
  exact absurd hi (by omega)
 case done =>
  rintro W ⟨k1, k2, k5, k6, k7, k9⟩ hD
  obtain ⟨l0, l1, l2⟩ := cells3 k5
  have d0 := k2.cell 0
  have d1 := k2.cell 1
  have d2 := k2.cell 2
  have f0 := k2.frozen 0
  have f1 := k2.frozen 1
  have f2 := k2.frozen 2
  go_wp2
  have hK := set3_other hD (show W0.heap.size ≠ w.heap.size + 2 by omega) (.int .i64 0) (.int .i64 1) (.slice (some ⟨gz, 0, none⟩) 0 0)
  refine ⟨by simp, .inl ⟨_, _, rfl, run_takeDeferred hK, ?_⟩⟩
  have ht : Turn w.heap.size (set3 W (w.heap.size + 2) (.int .i64 0) (.int .i64 1) (.slice (some ⟨gz, 0, none⟩) 0 0)) _ := Turn.put hK rfl (by omega) (.deferred none)
  obtain ⟨e0, e1, e2⟩ := cells3 (ht.block (block_set3_self k2 (.int .i64 0) (.int .i64 1) (.slice (some ⟨gz, 0, none⟩) 0 0)))
  refine ⟨.agg #[.int .i64 0, .int .i64 1, .slice (some ⟨gz, 0, none⟩) 0 0], ?_, some ⟨gz, 0, none⟩, 0, rfl, Nat.le_refl _, ?_, ?_, ?_⟩
  ·unfold set3 at e0 e1 e2
   simp [results, Try.results61, go_sem, e0, e1, e2]
  ·exact ht.own (own_set3 k9 (by simp [Value.ownBlock]; omega) _ _ _)
  ·exact hg.fldP ((fld_set3 k7 (Ne.symm hgfr) _ _ _).imp ht.block ht.block)
  ·exact hg.past (by omega) (ht.past (past_set3 k6 (.inr (by omega)) _ _ _) (Nat.le_refl _))

end Go.Proofs.Ytjpbdbgihakpmaa.Mat
namespace Go.Proofs.Ytjpbdbgihakpmaa.Mat
open Go.RowKit Go.Shelf F8 Poly GF

/-- The byte 7. -/
def c7 : F8 := ⟨7, by decide⟩
theorem partL_one (x : F8) (n : Nat) : partL [x] 1 0 (fun k => ((List.replicate n (0 : Int)).getD k 0).toNat) n = List.replicate n x := by
 have key : ∀ m, m ≤ n → partL [x] 1 0 (fun k => ((List.replicate n (0 : Int)).getD k 0).toNat) m = List.replicate m x := by
  intro m
  induction m with
  | zero => intro _; rfl
  | succ m ih =>
   intro hm
   have e : ((List.replicate n (0 : Int)).getD m 0).toNat = 0 := by
    rw [List.getD_eq_getElem?_getD, List.getElem?_replicate]
    split <;> rfl
   simp only [partL]
   rw [ih (by omega), e, List.replicate_succ']
   rfl
 exact key n (Nat.le_refl n)
theorem zv_zero (n : Nat) : zv (List.replicate n 0) = iv (List.replicate n 0) := by simp [zv, iv]
theorem row_drop {w : World} {b : Nat} {n : Nat} (h : Row w (some ⟨b, 0, none⟩) (iv (List.replicate (n + 1) 0))) : Row w (some ⟨b, 1, none⟩) (zv (List.replicate n 0)) := by
 intro k u hu
 rw [zv_zero] at hu
 have hk : k < n := by have := (List.getElem?_eq_some_iff.1 hu).1; simpa [iv] using this
 obtain ⟨b', off, e, hc⟩ := h (k + 1) u (by
  simp only [iv, List.getElem?_map] at hu ⊢
  rw [List.getElem?_replicate, if_pos hk] at hu
  rw [List.getElem?_replicate, if_pos (by omega)]
  exact hu)
 cases e
 exact ⟨b, 1, rfl, by rw [← hc]; congr 2; omega⟩
def Bnd5 (wk : World) (zz : Nat × Option Addr × Nat) (V : World) : Prop :=
 65536 ≤ zz.2.2 ∧ Block V zz.1 24 #[.int .i64 65536, .int .i64 1, .slice zz.2.1 65536 zz.2.2] ∧ Hid (Own V wk.heap.size 5 (.slice zz.2.1 65536 zz.2.2) (bv (bs (List.replicate 65536 c7)))) ∧ Below wk.heap.size wk V
def Bnd6 (wk : World) (_ : Nat × Nat × Option Addr × Nat) (V : World) : Prop := Below wk.heap.size wk V
theorem own_seven {w : World} {B : Nat} {A : Option Addr} {n d k : Nat} (h : Own w B 5 (.slice A n d) (bv (bs (List.replicate n c7)))) (hk : k < n) : ∃ b, A = some ⟨b, 0, none⟩ ∧ w.cell? ⟨b, k, none⟩ = some (.int .u8 7) := by
 have hl : (bv (bs (List.replicate n c7))).length = n := by simp [bv, bs]
 obtain ⟨b, c, hv, _⟩ := h.form1 (by omega)
 injection hv with h1 h2 h3
 subst h1
 refine ⟨b, rfl, ?_⟩
 rw [h.cellAt hl k (by omega)]
 simp [bv, bs, c7]
theorem own_over {w w' : World} {B g : Nat} {e : TypeId} {v : Value} {xs : List Value} (h : Own w B e v xs) (he : e ≠ 113) (hf : Fld w g) (hp : Past w.heap.size g w w') : Own w' B e v xs := by
 refine h.grown (row := some g) ⟨hp.os, hp.tape, hp.output, hp.size, fun k hk hn => hp.block k hk (fun e => hn (by rw [e]))⟩ (.inr ?_)
 rcases hf with hb | hb
 ·exact own_ne h hb he
 ·exact own_ne h hb he
theorem allIn_zero (n : Nat) : AllIn (List.replicate n 0) 1 := fun z hz => by obtain ⟨_, rfl⟩ := List.mem_replicate.1 hz; omega
theorem pick_one (ld bm : Nat) (w : World) (hb : Block w ld 5 #[.int .u8 7]) (hz : Row w (some ⟨bm, 0, none⟩) (iv (List.replicate 65537 0))) :
  Calls Try.prog 62 #[.agg #[.int .i64 1, .int .i64 1, .slice (some ⟨ld, 0, none⟩) 1 1], .slice (some ⟨bm, 1, none⟩) 65536 65536] w fun e w' =>
   ∃ A d, e = .returned (.tuple #[.agg #[.int .i64 65536, .int .i64 1, .slice A 65536 d], .int .i64 0]) ∧ 65536 ≤ d ∧ Hid (Own w' w.heap.size 5 (.slice A 65536 d) (bv (bs (List.replicate 65536 c7)))) ∧ Below w.heap.size w w' := by
 have hbb : Bytes w (some ⟨ld, 0, none⟩) (bs [c7]) := ⟨Row.all hb, bs_lt _⟩
 refine (pick_calls 1 1 1 1 65536 65536 (some ⟨ld, 0, none⟩) (some ⟨bm, 1, none⟩) [c7] (List.replicate 65536 0) (by decide) (by decide) rfl (Nat.le_refl _) rfl (List.length_replicate ..) (Nat.le_refl _) (by decide) w hbb (row_drop hz)).mono ?_
 rintro e w' (⟨h1, _⟩ | ⟨_, h2⟩)
 ·exact absurd (allIn_zero _) h1
 ·rw [List.length_replicate] at h2
  rw [partL_one] at h2
  obtain ⟨A, d, h3, h4, h5, h6⟩ := h2
  rw [List.length_replicate] at h3 h4 h5
  exact ⟨A, d, h3, h4, Lib.hid h5, h6⟩

set_option maxRecDepth 100000 in
set_option maxHeartbeats 8000000 in
theorem bounds_calls (w : World) : Calls Try.prog 22 #[] w fun e w' => e = .returned (.bool true) ∧ Below w.heap.size w w' := by
 have hmx : Try.prog.follows .mixedOrders = true := by kernel_rfl
 obtain ⟨v1, hv1⟩ : ∃ v1, w.alloc (.cells (fcells 0 0 0) 113) = v1 := ⟨_, rfl⟩
 have hF1 : Fld v1 w.heap.size := by rw [← hv1]; exact Fld.new w
 have hB1 : Below w.heap.size w v1 := by rw [← hv1]; exact (Below.refl _ _).alloc (Nat.le_refl _) _
 have hs1 : v1.heap.size = w.heap.size + 1 := by rw [← hv1]; simp
 obtain ⟨wm, hmk, hOm, hBm⟩ := make_ints v1 65537 (by decide)
 simp only [Int.cast_ofNat_Int] at hmk
 obtain ⟨bm, hbm⟩ : ∃ bm, v1.heap.size = bm := ⟨_, rfl⟩
 rw [hbm] at hmk hOm hBm
 have hrow := Own.row' hOm
 obtain ⟨wl, hwl⟩ : ∃ wl, wm.alloc (.cells #[.int .u8 7] 5) = wl := ⟨_, rfl⟩
 obtain ⟨ld, hld⟩ : ∃ ld, wm.heap.size = ld := ⟨_, rfl⟩
 have hsm := hBm.size
 have hBl : Below wm.heap.size wm wl := by rw [← hwl]; exact (Below.refl _ _).alloc (Nat.le_refl _) _
 have hdl : Block wl ld 5 #[.int .u8 7] := by rw [← hwl, ← hld]; exact Block.new _ _ _
 have hsl : wl.heap.size = ld + 1 := by rw [← hwl, ← hld]; simp
 obtain ⟨wv, hwv⟩ : ∃ wv, wl.alloc (.cells #[.int .i64 1, .int .i64 1, .slice (some ⟨ld, 0, none⟩) 1 1] 24) = wv := ⟨_, rfl⟩
 have hBv : Below wl.heap.size wl wv := by rw [← hwv]; exact (Below.refl _ _).alloc (Nat.le_refl _) _
 have hone : Block wv (ld + 1) 24 #[.int .i64 1, .int .i64 1, .slice (some ⟨ld, 0, none⟩) 1 1] := by rw [← hwv, ← hsl]; exact Block.new _ _ _
 have hsv : wv.heap.size = ld + 2 := by rw [← hwv]; simp [hsl]
 have hdv := hdl.below hBv hdl.lt
 have hBwv : Below w.heap.size w wv := hB1.trans (((hBm.mono (by omega)).trans (hBl.mono (by omega))).trans (hBv.mono (by omega)))
 have hB1v : Below v1.heap.size v1 wv := ((hbm ▸ hBm).trans (hBl.mono (by omega))).trans (hBv.mono (by omega))
 have hFv := hF1.below hB1v hF1.lt
 have hrv : Row wv (some ⟨bm, 0, none⟩) (iv (List.replicate 65537 0)) := (hrow.below hBl).below hBv
 clear hF1 hOm hrow hBl hdl hBv hB1v
 go_enter Try.func22, Try.ntmps22
 go_wp2_with fail
 refine (new_calls _).mono ?_
 rintro e v1 ⟨rfl, rfl⟩
 obtain ⟨n0, n1, n2⟩ := cells3 hone
 go_wp2_with fail
 refine (pick_size 1 1 (some ⟨ld, 0, none⟩) (some ⟨bm, 0, none⟩) 1 1 65537 65537 (by decide) (fun h => absurd h.2.1 (by decide)) _).mono ?_
 rintro e w4 ⟨A4, d4, rfl, h4, hO4, hB4⟩
 rw [show ((0 : Nat) : Int) = 0 from rfl]
 obtain ⟨wk, hwk⟩ : ∃ wk, w4.alloc (.cells #[.int .i64 0, .int .i64 0, .slice A4 0 d4] 24) = wk := ⟨_, rfl⟩
 have hB4k : Below wv.heap.size wv wk := by rw [← hwk]; exact hB4.alloc hB4.size _
 have honek := hone.below hB4k hone.lt
 have hdk := hdv.below hB4k hdv.lt
 have hFk := hFv.below hB4k hFv.lt
 have hrk := Lib.hid (hrv.below hB4k)
 have hBwk := hBwv.trans (hB4k.mono hBwv.size)
 clear hone hdv hFv hrv hO4 hB4 hB4k n0 n1 n2 hwv hwl hv1 hld hmk hbm
 go_wp2_with fail
 clear hwk
 apply wp_to_upd (α := Nat × Option Addr × Nat) (upd := fun zz a => { a with tmps := (((((((((a.tmps).setIfInBounds 23 (.agg #[.int .i64 1, .int .i64 1, .slice (some ⟨ld, 0, none⟩) 1 1])).setIfInBounds 24 (.slice (some ⟨bm, 0, none⟩) 65537 65537)).setIfInBounds 25 (.slice (some ⟨bm, 1, none⟩) 65536 65536)).setIfInBounds 26 (.tuple #[.agg #[.int .i64 65536, .int .i64 1, .slice zz.2.1 65536 zz.2.2], .int .i64 0])).setIfInBounds 22 (.tuple #[.agg #[.int .i64 65536, .int .i64 1, .slice zz.2.1 65536 zz.2.2], .int .i64 0])).setIfInBounds 27 (.agg #[.int .i64 65536, .int .i64 1, .slice zz.2.1 65536 zz.2.2])).setIfInBounds 28 (.int .i64 0)).setIfInBounds 6 (.pointer (some ⟨zz.1, 0, none⟩))).setIfInBounds 7 (.int .i64 0) }) (R := Bnd5 wk)
 case h =>
  obtain ⟨S, hSdef⟩ : ∃ S : World → Prop, S = fun V => Below wk.heap.size wk V := ⟨_, rfl⟩
  have hSi : ∀ V, Below wk.heap.size wk V → S V := fun V h => by rw [hSdef]; exact h
  have hSc : ∀ V, S V → V.cell? ⟨ld + 1, 0, none⟩ = some (.int .i64 1) ∧ V.cell? ⟨ld + 1, 1, none⟩ = some (.int .i64 1) ∧ V.cell? ⟨ld + 1, 2, none⟩ = some (.slice (some ⟨ld, 0, none⟩) 1 1) := fun V hV => by rw [hSdef] at hV; exact cells3 (honek.below hV honek.lt)
  have hP : ∀ V, Below wk.heap.size wk V → _ := fun V hV => pick_one ld bm V (hdk.below hV hdk.lt) (hrk.out.below hV)
  have HP := Lib.hid hP
  clear hP hs1 hsm hsl hsv h4
  have hb0 : Below wk.heap.size wk wk.drew := Below.drewN' (Below.refl _ _) 1
  have hS0 : S wk.drew := hSi _ hb0
  clear hSdef
  refine wp_region_held (S := S) hmx ?_
  refine wpAnyH_takeD (i := 0) (some 23) (.agg #[.int .i64 1, .int .i64 1, .slice (some ⟨ld, 0, none⟩) 1 1]) rfl rfl (by kernel_rfl) (by kernel_rfl) (by kernel_rfl) (fun _ _ _ h => by cases h.1) (Or.inl ⟨by kernel_rfl, fun W hW => by obtain ⟨s0, s1, s2⟩ := hSc W hW; go_simp⟩) hS0 ?_
  simp only [Act.put, List.setIfInBounds_toArray, List.set_cons_zero, List.set_cons_succ]
  refine wpAnyH_takeD (i := 1) (some 24) (.slice (some ⟨bm, 0, none⟩) 65537 65537) rfl rfl (by kernel_rfl) (by kernel_rfl) (by kernel_rfl) (fun _ _ _ h => by cases h.1) (Or.inl ⟨by kernel_rfl, fun W hW => by go_simp⟩) hS0 ?_
  simp only [Act.put, List.setIfInBounds_toArray, List.set_cons_zero, List.set_cons_succ]
  refine wpAnyH_takeD (i := 2) (some 25) (.slice (some ⟨bm, 1, none⟩) 65536 65536) rfl rfl (by kernel_rfl) (by kernel_rfl) (by kernel_rfl) (fun _ _ _ h => by cases h.1) (Or.inl ⟨by kernel_rfl, fun W hW => by go_simp⟩) hS0 ?_
  simp only [Act.put, List.setIfInBounds_toArray, List.set_cons_zero, List.set_cons_succ]
  have HSi := Lib.hid hSi
  clear hSi hSc hmx
  refine wpAnyH_two (i := 3) (j := 7) (by kernel_rfl) rfl rfl (by kernel_rfl) (by kernel_rfl) ?_ ?_
  ·go_simp
   refine (HP.out _ hb0).mono ?_
   rintro e V2 ⟨A5, d5, rfl, hd5, hb5, hB5⟩
   have hb2 : Below wk.heap.size wk V2 := hb0.trans (hB5.mono hb0.size)
   have hS2 := HSi.out _ hb2
   show S V2 ∧ _
   refine ⟨hS2, ?_⟩
   refine wpAnyH_takeD (i := 4) (some 22) (.tuple #[.agg #[.int .i64 65536, .int .i64 1, .slice A5 65536 d5], .int .i64 0]) rfl rfl (by kernel_rfl) (by kernel_rfl) (by kernel_rfl) (fun _ _ _ h => by cases h.1) (Or.inl ⟨by kernel_rfl, fun W hW => by go_simp⟩) hS2 ?_
   simp only [Act.put, List.setIfInBounds_toArray, List.set_cons_zero, List.set_cons_succ]
   refine wpAnyH_takeD (i := 5) (some 27) (.agg #[.int .i64 65536, .int .i64 1, .slice A5 65536 d5]) rfl rfl (by kernel_rfl) (by kernel_rfl) (by kernel_rfl) (fun _ _ _ h => by cases h.1) (Or.inl ⟨by kernel_rfl, fun W hW => by go_simp⟩) hS2 ?_
   simp only [Act.put, List.setIfInBounds_toArray, List.set_cons_zero, List.set_cons_succ]
   refine wpAnyH_takeD (i := 6) (some 28) (.int .i64 0) rfl rfl (by kernel_rfl) (by kernel_rfl) (by kernel_rfl) (fun _ _ _ h => by cases h.1) (Or.inl ⟨by kernel_rfl, fun W hW => by go_simp⟩) hS2 ?_
   simp only [Act.put, List.setIfInBounds_toArray, List.set_cons_zero, List.set_cons_succ]
   refine wpAnyH_one (i := 7) (by kernel_rfl) rfl (by kernel_rfl) ?_
   go_simp
   have hb3 := hb2.alloc hb2.size (.cells #[.int .i64 0, .int .i64 0, .slice none 0 0] 24)
   refine ⟨HSi.out _ hb3, wpAnyH_one (i := 8) (by kernel_rfl) rfl (by kernel_rfl) ?_⟩
   go_simp
   have hb4 := hb2.alloc hb2.size (.cells #[.int .i64 65536, .int .i64 1, .slice A5 65536 d5] 24)
   have hS4 := HSi.out _ hb4
   refine ⟨hS4, ?_⟩
   refine wpAnyH_takeD (i := 9) (some 7) (.int .i64 0) rfl rfl (by kernel_rfl) (by kernel_rfl) (by kernel_rfl) (fun _ _ _ h => by cases h.1) (Or.inl ⟨by kernel_rfl, fun W hW => by go_simp⟩) hS4 ?_
   simp only [Act.put, List.setIfInBounds_toArray, List.set_cons_zero, List.set_cons_succ]
   refine wpAnyH_done (by kernel_rfl) ?_ _
   exact ⟨rfl, V2.heap.size, A5, d5, rfl, by unfold Bnd5; exact ⟨hd5, Block.new _ _ _, Lib.hid ((hb5.out.more hb0.size).alloc _), hb4⟩⟩
  ·go_simp
   have hbA : Below wk.heap.size wk (wk.alloc (.cells #[.int .i64 0, .int .i64 0, .slice none 0 0] 24)).drew := Below.drewN' ((Below.refl _ _).alloc (Nat.le_refl _) _) 1
   have hbn0 := Block.drew (Block.new wk 24 #[.int .i64 0, .int .i64 0, .slice none 0 0])
   refine ⟨HSi.out _ hbA, wpAnyH_one (i := 3) (by kernel_rfl) rfl (by kernel_rfl) ?_⟩
   go_simp
   refine (HP.out _ hbA).mono ?_
   rintro e V2 ⟨A5, d5, rfl, hd5, hb5, hB5⟩
   have hb2 : Below wk.heap.size wk V2 := hbA.trans (hB5.mono hbA.size)
   have hS2 := HSi.out _ hb2
   show S V2 ∧ _
   refine ⟨hS2, ?_⟩
   refine wpAnyH_takeD (i := 4) (some 22) (.tuple #[.agg #[.int .i64 65536, .int .i64 1, .slice A5 65536 d5], .int .i64 0]) rfl rfl (by kernel_rfl) (by kernel_rfl) (by kernel_rfl) (fun _ _ _ h => by cases h.1) (Or.inl ⟨by kernel_rfl, fun W hW => by go_simp⟩) hS2 ?_
   simp only [Act.put, List.setIfInBounds_toArray, List.set_cons_zero, List.set_cons_succ]
   refine wpAnyH_takeD (i := 5) (some 27) (.agg #[.int .i64 65536, .int .i64 1, .slice A5 65536 d5]) rfl rfl (by kernel_rfl) (by kernel_rfl) (by kernel_rfl) (fun _ _ _ h => by cases h.1) (Or.inl ⟨by kernel_rfl, fun W hW => by go_simp⟩) hS2 ?_
   simp only [Act.put, List.setIfInBounds_toArray, List.set_cons_zero, List.set_cons_succ]
   refine wpAnyH_takeD (i := 6) (some 28) (.int .i64 0) rfl rfl (by kernel_rfl) (by kernel_rfl) (by kernel_rfl) (fun _ _ _ h => by cases h.1) (Or.inl ⟨by kernel_rfl, fun W hW => by go_simp⟩) hS2 ?_
   simp only [Act.put, List.setIfInBounds_toArray, List.set_cons_zero, List.set_cons_succ]
   refine wpAnyH_one (i := 8) (by kernel_rfl) rfl (by kernel_rfl) ?_
   have hbn := hbn0.below hB5 hbn0.lt
   obtain ⟨y0, y1, y2⟩ := cells3 hbn
   have z0 := hbn.frozen 0
   have z1 := hbn.frozen 1
   have z2 := hbn.frozen 2
   have hb4 := below_set3 hb2 (Nat.le_refl _) (.int .i64 65536) (.int .i64 1) (.slice A5 65536 d5)
   have hbl4 := block_set3_self hbn (.int .i64 65536) (.int .i64 1) (.slice A5 65536 d5)
   have hby4 := (own_set3 hb5.out (g := wk.heap.size) (own_ne hb5.out hbn (by decide)) (.int .i64 65536) (.int .i64 1) (.slice A5 65536 d5)).more hbA.size
   have HBY4 := Lib.hid hby4
   clear hby4
   go_simp
   have hS4 := HSi.out _ hb4
   refine ⟨hS4, ?_⟩
   refine wpAnyH_takeD (i := 9) (some 7) (.int .i64 0) rfl rfl (by kernel_rfl) (by kernel_rfl) (by kernel_rfl) (fun _ _ _ h => by cases h.1) (Or.inl ⟨by kernel_rfl, fun W hW => by go_simp⟩) hS4 ?_
   simp only [Act.put, List.setIfInBounds_toArray, List.set_cons_zero, List.set_cons_succ]
   refine wpAnyH_done (by kernel_rfl) ?_ _
   exact ⟨rfl, wk.heap.size, A5, d5, rfl, by unfold Bnd5; exact ⟨hd5, hbl4, HBY4, hb4⟩⟩
 case hK =>
  rintro ⟨b6, A5, d5⟩ wq ⟨hd5, hbl6, hby6, hBq⟩
  simp only [List.setIfInBounds_toArray, List.set_cons_zero, List.set_cons_succ] at hd5 hbl6 hby6 ⊢
  have hrq := Lib.hid (hrk.out.below hBq)
  have hFq := hFk.below hBq hFk.lt
  have hBwq := hBwk.trans (hBq.mono hBwk.size)
  clear honek hdk hrk hFk hBq
  go_wp2_with fail
  apply wp_to_upd (α := Nat × Nat × Option Addr × Nat) (upd := fun zz a => { a with tmps := ((((((((((a.tmps).setIfInBounds 32 (.slice (some ⟨bm, 0, none⟩) 65537 65537)).setIfInBounds 33 (.slice (some ⟨bm, 1, none⟩) 65536 65536)).setIfInBounds 30 (.slice (some ⟨zz.1, 0, none⟩) 257 257)).setIfInBounds 31 (.agg #[.int .i64 1, .int .i64 257, .slice (some ⟨zz.1, 0, none⟩) 257 257])).setIfInBounds 34 (.tuple #[.agg #[.int .i64 0, .int .i64 0, .slice zz.2.2.1 0 zz.2.2.2], .int .i64 50])).setIfInBounds 29 (.tuple #[.agg #[.int .i64 0, .int .i64 0, .slice zz.2.2.1 0 zz.2.2.2], .int .i64 50])).setIfInBounds 35 (.agg #[.int .i64 0, .int .i64 0, .slice zz.2.2.1 0 zz.2.2.2])).setIfInBounds 36 (.int .i64 50)).setIfInBounds 8 (.pointer (some ⟨zz.2.1, 0, none⟩))).setIfInBounds 9 (.int .i64 50) }) (R := Bnd6 wq)
  case h =>
   obtain ⟨S, hSdef⟩ : ∃ S : World → Prop, S = fun V => Below wq.heap.size wq V := ⟨_, rfl⟩
   have hSi : ∀ V, Below wq.heap.size wq V → S V := fun V h => by rw [hSdef]; exact h
   have hb0 : Below wq.heap.size wq wq.drew := Below.drewN' (Below.refl _ _) 1
   have hS0 : S wq.drew := hSi _ hb0
   clear hSdef
   refine wp_region_held (S := S) hmx ?_
   refine wpAnyH_takeD (i := 2) (some 32) (.slice (some ⟨bm, 0, none⟩) 65537 65537) rfl rfl (by kernel_rfl) (by kernel_rfl) (by kernel_rfl) (fun _ _ _ h => by cases h.1) (Or.inl ⟨by kernel_rfl, fun W hW => by go_simp⟩) hS0 ?_
   simp only [Act.put, List.setIfInBounds_toArray, List.set_cons_zero, List.set_cons_succ]
   refine wpAnyH_takeD (i := 3) (some 33) (.slice (some ⟨bm, 1, none⟩) 65536 65536) rfl rfl (by kernel_rfl) (by kernel_rfl) (by kernel_rfl) (fun _ _ _ h => by cases h.1) (Or.inl ⟨by kernel_rfl, fun W hW => by go_simp⟩) hS0 ?_
   simp only [Act.put, List.setIfInBounds_toArray, List.set_cons_zero, List.set_cons_succ]
   have HSi := Lib.hid hSi
   clear hSi hmx
   refine wpAnyH_two (i := 0) (j := 8) (by kernel_rfl) rfl rfl (by kernel_rfl) (by kernel_rfl) ?_ ?_
   ·skip
    obtain ⟨Vs, hmk, hOs, hBs⟩ := make_run wq.drew 257 (by decide)
    clear hOs
    simp only [Int.cast_ofNat_Int] at hmk
    obtain ⟨sb, hsb⟩ : ∃ sb, (wq.drew).heap.size = sb := ⟨_, rfl⟩
    rw [hsb] at hmk
    clear hsb
    have hbs : Below wq.heap.size wq Vs := hb0.trans (hBs.mono hb0.size)
    have hSs := HSi.out _ hbs
    go_simp
    clear hmk
    refine ⟨hSs, ?_⟩
    refine wpAnyH_takeD (i := 1) (some 31) (.agg #[.int .i64 1, .int .i64 257, .slice (some ⟨sb, 0, none⟩) 257 257]) rfl rfl (by kernel_rfl) (by kernel_rfl) (by kernel_rfl) (fun _ _ _ h => by cases h.1) (Or.inl ⟨by kernel_rfl, fun W hW => by go_simp⟩) hSs ?_
    simp only [Act.put, List.setIfInBounds_toArray, List.set_cons_zero, List.set_cons_succ]
    refine wpAnyH_two (i := 4) (j := 8) (by kernel_rfl) rfl rfl (by kernel_rfl) (by kernel_rfl) ?_ ?_
    ·go_simp
     refine (pick_size 1 257 (some ⟨sb, 0, none⟩) (some ⟨bm, 1, none⟩) 257 257 65536 65536 (by decide) (fun h => absurd h.2.2 (by decide)) _).mono ?_
     rintro e V2 ⟨A5, d5, rfl, -, -, hB5⟩
     rw [show ((0 : Nat) : Int) = 0 from rfl]
     have hb2 : Below wq.heap.size wq V2 := hbs.trans (hB5.mono hbs.size)
     have hS2 := HSi.out _ hb2
     show S V2 ∧ _
     refine ⟨hS2, ?_⟩
     refine wpAnyH_takeD (i := 5) (some 29) (.tuple #[.agg #[.int .i64 0, .int .i64 0, .slice A5 0 d5], .int .i64 50]) rfl rfl (by kernel_rfl) (by kernel_rfl) (by kernel_rfl) (fun _ _ _ h => by cases h.1) (Or.inl ⟨by kernel_rfl, fun W hW => by go_simp⟩) hS2 ?_
     simp only [Act.put, List.setIfInBounds_toArray, List.set_cons_zero, List.set_cons_succ]
     refine wpAnyH_takeD (i := 6) (some 35) (.agg #[.int .i64 0, .int .i64 0, .slice A5 0 d5]) rfl rfl (by kernel_rfl) (by kernel_rfl) (by kernel_rfl) (fun _ _ _ h => by cases h.1) (Or.inl ⟨by kernel_rfl, fun W hW => by go_simp⟩) hS2 ?_
     simp only [Act.put, List.setIfInBounds_toArray, List.set_cons_zero, List.set_cons_succ]
     refine wpAnyH_takeD (i := 7) (some 36) (.int .i64 50) rfl rfl (by kernel_rfl) (by kernel_rfl) (by kernel_rfl) (fun _ _ _ h => by cases h.1) (Or.inl ⟨by kernel_rfl, fun W hW => by go_simp⟩) hS2 ?_
     simp only [Act.put, List.setIfInBounds_toArray, List.set_cons_zero, List.set_cons_succ]
     refine wpAnyH_one (i := 8) (by kernel_rfl) rfl (by kernel_rfl) ?_
     go_simp
     have hb3 := hb2.alloc hb2.size (.cells #[.int .i64 0, .int .i64 0, .slice none 0 0] 24)
     refine ⟨HSi.out _ hb3, wpAnyH_one (i := 9) (by kernel_rfl) rfl (by kernel_rfl) ?_⟩
     go_simp
     have hb4 := hb2.alloc hb2.size (.cells #[.int .i64 0, .int .i64 0, .slice A5 0 d5] 24)
     have hS4 := HSi.out _ hb4
     refine ⟨hS4, ?_⟩
     refine wpAnyH_takeD (i := 10) (some 9) (.int .i64 50) rfl rfl (by kernel_rfl) (by kernel_rfl) (by kernel_rfl) (fun _ _ _ h => by cases h.1) (Or.inl ⟨by kernel_rfl, fun W hW => by go_simp⟩) hS4 ?_
     simp only [Act.put, List.setIfInBounds_toArray, List.set_cons_zero, List.set_cons_succ]
     refine wpAnyH_done (by kernel_rfl) ?_ _
     exact ⟨rfl, sb, V2.heap.size, A5, d5, rfl, hb4⟩
    ·go_simp
     have hbA : Below wq.heap.size wq (Vs.alloc (.cells #[.int .i64 0, .int .i64 0, .slice none 0 0] 24)) := hbs.alloc hbs.size _
     have hbn0 := Block.new Vs 24 #[.int .i64 0, .int .i64 0, .slice none 0 0]
     refine ⟨HSi.out _ hbA, wpAnyH_one (i := 4) (by kernel_rfl) rfl (by kernel_rfl) ?_⟩
     go_simp
     refine (pick_size 1 257 (some ⟨sb, 0, none⟩) (some ⟨bm, 1, none⟩) 257 257 65536 65536 (by decide) (fun h => absurd h.2.2 (by decide)) _).mono ?_
     rintro e V2 ⟨A5, d5, rfl, -, -, hB5⟩
     rw [show ((0 : Nat) : Int) = 0 from rfl]
     have hb2 : Below wq.heap.size wq V2 := hbA.trans (hB5.mono hbA.size)
     have hS2 := HSi.out _ hb2
     show S V2 ∧ _
     refine ⟨hS2, ?_⟩
     refine wpAnyH_takeD (i := 5) (some 29) (.tuple #[.agg #[.int .i64 0, .int .i64 0, .slice A5 0 d5], .int .i64 50]) rfl rfl (by kernel_rfl) (by kernel_rfl) (by kernel_rfl) (fun _ _ _ h => by cases h.1) (Or.inl ⟨by kernel_rfl, fun W hW => by go_simp⟩) hS2 ?_
     simp only [Act.put, List.setIfInBounds_toArray, List.set_cons_zero, List.set_cons_succ]
     refine wpAnyH_takeD (i := 6) (some 35) (.agg #[.int .i64 0, .int .i64 0, .slice A5 0 d5]) rfl rfl (by kernel_rfl) (by kernel_rfl) (by kernel_rfl) (fun _ _ _ h => by cases h.1) (Or.inl ⟨by kernel_rfl, fun W hW => by go_simp⟩) hS2 ?_
     simp only [Act.put, List.setIfInBounds_toArray, List.set_cons_zero, List.set_cons_succ]
     refine wpAnyH_takeD (i := 7) (some 36) (.int .i64 50) rfl rfl (by kernel_rfl) (by kernel_rfl) (by kernel_rfl) (fun _ _ _ h => by cases h.1) (Or.inl ⟨by kernel_rfl, fun W hW => by go_simp⟩) hS2 ?_
     simp only [Act.put, List.setIfInBounds_toArray, List.set_cons_zero, List.set_cons_succ]
     refine wpAnyH_one (i := 9) (by kernel_rfl) rfl (by kernel_rfl) ?_
     have hbn := hbn0.below hB5 hbn0.lt
     obtain ⟨y0, y1, y2⟩ := cells3 hbn
     have z0 := hbn.frozen 0
     have z1 := hbn.frozen 1
     have z2 := hbn.frozen 2
     have hb4 := below_set3 hb2 hbs.size (.int .i64 0) (.int .i64 0) (.slice A5 0 d5)
     go_simp
     have hS4 := HSi.out _ hb4
     refine ⟨hS4, ?_⟩
     refine wpAnyH_takeD (i := 10) (some 9) (.int .i64 50) rfl rfl (by kernel_rfl) (by kernel_rfl) (by kernel_rfl) (fun _ _ _ h => by cases h.1) (Or.inl ⟨by kernel_rfl, fun W hW => by go_simp⟩) hS4 ?_
     simp only [Act.put, List.setIfInBounds_toArray, List.set_cons_zero, List.set_cons_succ]
     refine wpAnyH_done (by kernel_rfl) ?_ _
     exact ⟨rfl, sb, Vs.heap.size, A5, d5, rfl, hb4⟩
   ·go_simp
    have hbA : Below wq.heap.size wq (wq.alloc (.cells #[.int .i64 0, .int .i64 0, .slice none 0 0] 24)).drew := Below.drewN' ((Below.refl _ _).alloc (Nat.le_refl _) _) 1
    have hbn0 := Block.drew (Block.new wq 24 #[.int .i64 0, .int .i64 0, .slice none 0 0])
    refine ⟨HSi.out _ hbA, wpAnyH_one (i := 0) (by kernel_rfl) rfl (by kernel_rfl) ?_⟩
    obtain ⟨Vs, hmk, hOs, hBs⟩ := make_run (wq.alloc (.cells #[.int .i64 0, .int .i64 0, .slice none 0 0] 24)).drew 257 (by decide)
    clear hOs
    simp only [Int.cast_ofNat_Int] at hmk
    obtain ⟨sb, hsb⟩ : ∃ sb, ((wq.alloc (.cells #[.int .i64 0, .int .i64 0, .slice none 0 0] 24)).drew).heap.size = sb := ⟨_, rfl⟩
    rw [hsb] at hmk
    clear hsb
    have hbs : Below wq.heap.size wq Vs := hbA.trans (hBs.mono hbA.size)
    have hSs := HSi.out _ hbs
    have hbn1 := hbn0.below hBs hbn0.lt
    go_simp
    clear hmk
    refine ⟨hSs, ?_⟩
    refine wpAnyH_takeD (i := 1) (some 31) (.agg #[.int .i64 1, .int .i64 257, .slice (some ⟨sb, 0, none⟩) 257 257]) rfl rfl (by kernel_rfl) (by kernel_rfl) (by kernel_rfl) (fun _ _ _ h => by cases h.1) (Or.inl ⟨by kernel_rfl, fun W hW => by go_simp⟩) hSs ?_
    simp only [Act.put, List.setIfInBounds_toArray, List.set_cons_zero, List.set_cons_succ]
    refine wpAnyH_one (i := 4) (by kernel_rfl) rfl (by kernel_rfl) ?_
    go_simp
    refine (pick_size 1 257 (some ⟨sb, 0, none⟩) (some ⟨bm, 1, none⟩) 257 257 65536 65536 (by decide) (fun h => absurd h.2.2 (by decide)) _).mono ?_
    rintro e V2 ⟨A5, d5, rfl, -, -, hB5⟩
    rw [show ((0 : Nat) : Int) = 0 from rfl]
    have hb2 : Below wq.heap.size wq V2 := hbs.trans (hB5.mono hbs.size)
    have hS2 := HSi.out _ hb2
    show S V2 ∧ _
    refine ⟨hS2, ?_⟩
    refine wpAnyH_takeD (i := 5) (some 29) (.tuple #[.agg #[.int .i64 0, .int .i64 0, .slice A5 0 d5], .int .i64 50]) rfl rfl (by kernel_rfl) (by kernel_rfl) (by kernel_rfl) (fun _ _ _ h => by cases h.1) (Or.inl ⟨by kernel_rfl, fun W hW => by go_simp⟩) hS2 ?_
    simp only [Act.put, List.setIfInBounds_toArray, List.set_cons_zero, List.set_cons_succ]
    refine wpAnyH_takeD (i := 6) (some 35) (.agg #[.int .i64 0, .int .i64 0, .slice A5 0 d5]) rfl rfl (by kernel_rfl) (by kernel_rfl) (by kernel_rfl) (fun _ _ _ h => by cases h.1) (Or.inl ⟨by kernel_rfl, fun W hW => by go_simp⟩) hS2 ?_
    simp only [Act.put, List.setIfInBounds_toArray, List.set_cons_zero, List.set_cons_succ]
    refine wpAnyH_takeD (i := 7) (some 36) (.int .i64 50) rfl rfl (by kernel_rfl) (by kernel_rfl) (by kernel_rfl) (fun _ _ _ h => by cases h.1) (Or.inl ⟨by kernel_rfl, fun W hW => by go_simp⟩) hS2 ?_
    simp only [Act.put, List.setIfInBounds_toArray, List.set_cons_zero, List.set_cons_succ]
    refine wpAnyH_one (i := 9) (by kernel_rfl) rfl (by kernel_rfl) ?_
    have hbn := hbn1.below hB5 hbn1.lt
    obtain ⟨y0, y1, y2⟩ := cells3 hbn
    have z0 := hbn.frozen 0
    have z1 := hbn.frozen 1
    have z2 := hbn.frozen 2
    have hb4 := below_set3 hb2 (Nat.le_refl _) (.int .i64 0) (.int .i64 0) (.slice A5 0 d5)
    go_simp
    have hS4 := HSi.out _ hb4
    refine ⟨hS4, ?_⟩
    refine wpAnyH_takeD (i := 10) (some 9) (.int .i64 50) rfl rfl (by kernel_rfl) (by kernel_rfl) (by kernel_rfl) (fun _ _ _ h => by cases h.1) (Or.inl ⟨by kernel_rfl, fun W hW => by go_simp⟩) hS4 ?_
    simp only [Act.put, List.setIfInBounds_toArray, List.set_cons_zero, List.set_cons_succ]
    refine wpAnyH_done (by kernel_rfl) ?_ _
    exact ⟨rfl, sb, wq.heap.size, A5, d5, rfl, hb4⟩
  case hK =>
   rintro ⟨sb, b8, A8, d8⟩ wx hBx
   simp only [List.setIfInBounds_toArray, List.set_cons_zero, List.set_cons_succ]
   unfold Bnd6 at hBx
   have hblx := hbl6.below hBx hbl6.lt
   have hbyx : Hid (Own wx wk.heap.size 5 (.slice A5 65536 d5) (bv (bs (List.replicate 65536 c7)))) := Lib.hid (hby6.out.below hBx)
   have hFx := hFq.below hBx hFq.lt
   have hBwx := hBwq.trans (hBx.mono hBwq.size)
   clear hbl6 hby6 hrq hFq hBx
   have hby := hbyx
   have hF := hFx
   have hBw := hBwx
   clear hbyx hFx hBwx
   obtain ⟨Vp, hmk, hOp, hBp⟩ := make_run wx 65537 (by decide)
   simp only [Int.cast_ofNat_Int] at hmk
   have hblx := hblx.below hBp hblx.lt
   have hby := Lib.hid (hby.out.below hBp)
   have hF := hF.below hBp hF.lt
   have hBw := hBw.trans (hBp.mono hBw.size)
   have HOp := Lib.hid hOp
   clear hOp
   go_wp2_with fail
   clear hmk
   refine (powers_many (some ⟨w.heap.size, 0, none⟩) _ 65537 65537 (by decide) _ (FldP.of hF)).mono ?_
   rintro e wp ⟨Ap, dp, rfl, -, -, hFP, hPP⟩
   have hblx := hblx.past hPP hblx.lt (Ne.symm (Fld.ne_block hF hblx (by decide)))
   have hby := Lib.hid (own_over hby.out (by decide) hF hPP)
   have hBw := hBw.trans ((hPP.mono hBw.size).below (Nat.le_refl _))
   replace hF := hFP.fld
   clear hFP hPP HOp
   rw [show ((0 : Nat) : Int) = 0 from rfl, show ((1 : Nat) : Int) = 1 from rfl]
   obtain ⟨xp, hxp⟩ : ∃ x, wp.alloc (.cells #[.int .i64 0, .int .i64 1, .slice Ap 0 dp] 24) = x := ⟨_, rfl⟩
   replace hblx := hblx.alloc (.cells #[.int .i64 0, .int .i64 1, .slice Ap 0 dp] 24)
   rw [hxp] at hblx
   have hbp : Block xp wp.heap.size 24 #[.int .i64 0, .int .i64 1, .slice Ap 0 dp] := by rw [← hxp]; exact Block.new _ _ _
   have hby : Hid (Own xp wk.heap.size 5 (.slice A5 65536 d5) (bv (bs (List.replicate 65536 c7)))) := Lib.hid (by rw [← hxp]; exact hby.out.alloc _)
   have hF : Fld xp w.heap.size := by rw [← hxp]; exact hF.alloc _
   have hBw : Below w.heap.size w xp := by rw [← hxp]; exact hBw.alloc hBw.size _
   obtain ⟨Vq, hmk, hOq, hBq⟩ := make_run xp 257 (by decide)
   simp only [Int.cast_ofNat_Int] at hmk
   have hblx := hblx.below hBq hblx.lt
   have hbp := hbp.below hBq hbp.lt
   have hby := Lib.hid (hby.out.below hBq)
   have hF := hF.below hBq hF.lt
   have hBw := hBw.trans (hBq.mono hBw.size)
   have HOq := Lib.hid hOq
   clear hOq
   go_wp2_with fail
   clear hmk
   refine (powers_wide (some ⟨w.heap.size, 0, none⟩) _ (List.replicate 257 0) 257 257 65536 (List.length_replicate ..) (by decide) (by decide) (by decide) _ (own_bytes HOq.out) (FldP.of hF)).mono ?_
   rintro e wq ⟨Aq, dq, rfl, -, -, hFP, hPP⟩
   have hblx := hblx.past hPP hblx.lt (Ne.symm (Fld.ne_block hF hblx (by decide)))
   have hbp := hbp.past hPP hbp.lt (Ne.symm (Fld.ne_block hF hbp (by decide)))
   have hby := Lib.hid (own_over hby.out (by decide) hF hPP)
   have hBw := hBw.trans ((hPP.mono hBw.size).below (Nat.le_refl _))
   replace hF := hFP.fld
   clear hFP hPP HOq
   rw [show ((0 : Nat) : Int) = 0 from rfl]
   simp only [Int.cast_ofNat_Int]
   obtain ⟨xq, hxq⟩ : ∃ x, wq.alloc (.cells #[.int .i64 257, .int .i64 0, .slice Aq 0 dq] 24) = x := ⟨_, rfl⟩
   replace hblx := hblx.alloc (.cells #[.int .i64 257, .int .i64 0, .slice Aq 0 dq] 24)
   rw [hxq] at hblx
   replace hbp := hbp.alloc (.cells #[.int .i64 257, .int .i64 0, .slice Aq 0 dq] 24)
   rw [hxq] at hbp
   have hbq : Block xq wq.heap.size 24 #[.int .i64 257, .int .i64 0, .slice Aq 0 dq] := by rw [← hxq]; exact Block.new _ _ _
   have hby : Hid (Own xq wk.heap.size 5 (.slice A5 65536 d5) (bv (bs (List.replicate 65536 c7)))) := Lib.hid (by rw [← hxq]; exact hby.out.alloc _)
   have hF : Fld xq w.heap.size := by rw [← hxq]; exact hF.alloc _
   have hBw : Below w.heap.size w xq := by rw [← hxq]; exact hBw.alloc hBw.size _
   obtain ⟨p0, p1, p2⟩ := cells3 hblx
   obtain ⟨r0, r1, r2⟩ := cells3 hbp
   obtain ⟨t0, t1, t2⟩ := cells3 hbq
   obtain ⟨b5, rfl, hc5⟩ := own_seven (k := 65535) hby.out (by decide)
   clear hby hblx hbp hbq hF
   go_wp2
   go_ret
   exact ⟨rfl, hBw⟩
end Go.Proofs.Ytjpbdbgihakpmaa.Mat
namespace Go.Proofs.Ytjpbdbgihakpmaa.matrixKnown
open Go.RowKit F8 GF Poly Mat
theorem al1 {w V : World} (h : Below w.heap.size w V) {o : Obj} : Below w.heap.size w (V.alloc o) := h.alloc h.size o
theorem al2 {w V : World} (h : Below w.heap.size w V) {o o' : Obj} : Below w.heap.size w ((V.alloc o).alloc o') := al1 (al1 h)
theorem al3 {w V : World} (h : Below w.heap.size w V) {o o' o'' : Obj} : Below w.heap.size w (((V.alloc o).alloc o').alloc o'') := al1 (al2 h)
theorem cal {V : World} {o : Obj} {a : Addr} {v : Value} (h : V.cell? a = some v) : (V.alloc o).cell? a = some v := by
 rw [World.cell?_alloc_some _ _ _ (by rw [h]; rfl)]; exact h
theorem bytes_blk {w : World} {b : Nat} {cs : Array Value} {l : List Nat} (h : Block w b 5 cs) (hl : ∀ x ∈ l, x < 256) (hc : cs.toList = bv l) : Bytes w (some ⟨b, 0, none⟩) l := ⟨hc ▸ Row.all h, hl⟩
theorem bytes_take {w : World} {A : Option Addr} {l : List Nat} (h : Bytes w A l) (n : Nat) : Bytes w A (l.take n) :=
 ⟨fun k u hu => h.row k u (by
  simp only [bv, List.map_take, List.getElem?_take] at hu
  split at hu
  ·exact hu
  ·cases hu), fun x hx => h.lt x (List.mem_of_mem_take hx)⟩
def Ok (w : World) (e : Ending) (w' : World) : Prop := e = .returned (.bool true) ∧ Below w.heap.size w w'
theorem powK (V : World) (q : Nat) (hq : q ≤ 3) : Calls Try.prog 17 #[.slice (some ⟨V.heap.size, 0, none⟩) 3 3] (V.alloc (.cells #[.int .u8 1, .int .u8 q, .int .u8 2] 5)) fun e W => e = .returned (.bool true) ∧ Below V.heap.size V W :=
 (matrixPowers.walk _ (some ⟨V.heap.size, 0, none⟩) [1, q, 2] 3 ⟨Row.new _ _ _ (0, 0), by intro z hz; simp at hz; omega⟩ (by simp) (by decide)).mono fun e W ⟨h1, h2⟩ => ⟨h1, (al1 (Below.refl _ V)).trans (h2.mono (al1 (Below.refl _ V)).size)⟩
theorem lit7 {V : World} {b : Nat} {t : TypeId} (h : Block V b t #[.int .i64 (-1), .int .i64 0, .int .i64 1, .int .i64 2, .int .i64 65536, .int .i64 65537, .int .i64 4611686018427387904]) (k : Nat) (hk : k < 7) :
  ∃ n : Int, V.cell? ⟨b, k, none⟩ = some (.int .i64 n) ∧ -1 ≤ n ∧ n ≤ 4611686018427387904 := by
 have hh : k = 0 ∨ k = 1 ∨ k = 2 ∨ k = 3 ∨ k = 4 ∨ k = 5 ∨ k = 6 := by omega
 rcases hh with rfl | rfl | rfl | rfl | rfl | rfl | rfl
 ·exact ⟨_, h.cell 0, by decide, by decide⟩
 ·exact ⟨_, h.cell 1, by decide, by decide⟩
 ·exact ⟨_, h.cell 2, by decide, by decide⟩
 ·exact ⟨_, h.cell 3, by decide, by decide⟩
 ·exact ⟨_, h.cell 4, by decide, by decide⟩
 ·exact ⟨_, h.cell 5, by decide, by decide⟩
 ·exact ⟨_, h.cell 6, by decide, by decide⟩
theorem lit5 {V : World} {b : Nat} {t : TypeId} (h : Block V b t #[.int .i64 (-1), .int .i64 0, .int .i64 1, .int .i64 2, .int .i64 4611686018427387904]) (k : Nat) (hk : k < 5) :
  ∃ n : Int, V.cell? ⟨b, k, none⟩ = some (.int .i64 n) ∧ -1 ≤ n ∧ n ≤ 4611686018427387904 := by
 have hh : k = 0 ∨ k = 1 ∨ k = 2 ∨ k = 3 ∨ k = 4 := by omega
 rcases hh with rfl | rfl | rfl | rfl | rfl
 ·exact ⟨_, h.cell 0, by decide, by decide⟩
 ·exact ⟨_, h.cell 1, by decide, by decide⟩
 ·exact ⟨_, h.cell 2, by decide, by decide⟩
 ·exact ⟨_, h.cell 3, by decide, by decide⟩
 ·exact ⟨_, h.cell 4, by decide, by decide⟩
theorem tr3 {w V W : World} {o o' o'' : Obj} (h : Below w.heap.size w V) (hn : Below (((V.alloc o).alloc o').alloc o'').heap.size (((V.alloc o).alloc o').alloc o'') W) : Below w.heap.size w W :=
 (al3 h).trans (hn.mono (al3 h).size)
theorem blkA (V : World) (o o' : Obj) (c : Array Value) (t : TypeId) : Block (((V.alloc (.cells c t)).alloc o).alloc o') V.heap.size t c := ((Block.new V t c).alloc o).alloc o'
theorem blkB (V : World) (o o' : Obj) (c : Array Value) (t : TypeId) : Block (((V.alloc o).alloc (.cells c t)).alloc o') (V.heap.size + 1) t c := by
 have h := (Block.new (V.alloc o) t c).alloc o'
 rwa [show (V.alloc o).heap.size = V.heap.size + 1 by simp] at h
theorem blkC (V : World) (o o' : Obj) (c : Array Value) (t : TypeId) : Block (((V.alloc o).alloc o').alloc (.cells c t)) (V.heap.size + 1 + 1) t c := by
 have h := Block.new ((V.alloc o).alloc o') t c
 rwa [show ((V.alloc o).alloc o').heap.size = V.heap.size + 1 + 1 by simp] at h
theorem oneN (n c : Int) (hn : -1 ≤ n ∧ n ≤ 4611686018427387904) (hc : -1 ≤ c ∧ c ≤ 4611686018427387904) (V : World) : Calls Try.prog 12 #[.agg #[.int .i64 n, .int .i64 c, .slice none 0 0]] V (Ok V) :=
 matrixOne.walk V n c none [] 0 ⟨by omega, by omega⟩ ⟨by omega, by omega⟩ (Bytes.nil _ _) (by simp) (by decide)
theorem twoN (n c : Int) (hn : -1 ≤ n ∧ n ≤ 4611686018427387904) (hc : -1 ≤ c ∧ c ≤ 4611686018427387904) (V : World) : Calls Try.prog 13 #[.agg #[.int .i64 n, .int .i64 c, .slice none 0 0], .agg #[.int .i64 n, .int .i64 c, .slice none 0 0]] V (Ok V) :=
 matrixTwo.walk V n c none [] 0 ⟨by omega, by omega⟩ ⟨by omega, by omega⟩ (Bytes.nil _ _) (by simp) (by decide) n c none [] 0 ⟨by omega, by omega⟩ ⟨by omega, by omega⟩ (Bytes.nil _ _) (by simp) (by decide)
theorem solvesN (n c : Int) (hn : -1 ≤ n ∧ n ≤ 4611686018427387904) (hc : -1 ≤ c ∧ c ≤ 4611686018427387904) (V : World) : Calls Try.prog 15 #[.agg #[.int .i64 n, .int .i64 c, .slice none 0 0], .agg #[.int .i64 n, .int .i64 c, .slice none 0 0], .agg #[.int .i64 n, .int .i64 c, .slice none 0 0]] V (Ok V) :=
 matrixSolves.walk V n c none [] 0 ⟨by omega, by omega⟩ ⟨by omega, by omega⟩ (Bytes.nil _ _) (by simp) (by decide) n c none [] 0 ⟨by omega, by omega⟩ ⟨by omega, by omega⟩ (Bytes.nil _ _) (by simp) (by decide) n c none [] 0 ⟨by omega, by omega⟩ ⟨by omega, by omega⟩ (Bytes.nil _ _) (by simp) (by decide)
theorem makesN (n c : Int) (hn : -1 ≤ n ∧ n ≤ 4611686018427387904) {U : World} {bX bY bZ : Nat} (hX : Block U bX 5 #[.int .u8 7]) (hY : Block U bY 3 #[.int .i64 0, .int .i64 c]) (hZ : Block U bZ 5 #[.int .u8 5, .int .u8 6]) :
  Calls Try.prog 18 #[.agg #[.int .i64 1, .int .i64 1, .slice (some ⟨bX, 0, none⟩) 1 1], .slice (some ⟨bY, 0, none⟩) 2 2, .slice (some ⟨bZ, 0, none⟩) 2 2, .int .i64 n] U (Ok U) :=
 matrixMakes.walk U 1 1 (some ⟨bX, 0, none⟩) [7] 1 ⟨by decide, by decide⟩ ⟨by decide, by decide⟩ (bytes_blk hX (by decide) rfl) (by simp) (by decide) (some ⟨bY, 0, none⟩) [0, c] 2 (Row.all hY) (some ⟨bZ, 0, none⟩) [5, 6] 2 (bytes_blk hZ (by decide) rfl) (by simp) (by decide) n (by omega) (by omega)
theorem makesF {U : World} {bX bY bZ : Nat} (hX : Block U bX 5 #[.int .u8 1, .int .u8 2, .int .u8 3, .int .u8 4, .int .u8 5, .int .u8 6]) (hY : Block U bY 3 #[.int .i64 1, .int .i64 0, .int .i64 1]) (hZ : Block U bZ 5 #[.int .u8 0, .int .u8 1, .int .u8 2]) :
  Calls Try.prog 18 #[.agg #[.int .i64 2, .int .i64 3, .slice (some ⟨bX, 0, none⟩) 6 6], .slice (some ⟨bY, 0, none⟩) 3 3, .slice (some ⟨bZ, 0, none⟩) 3 3, .int .i64 3] U (Ok U) :=
 matrixMakes.walk U 2 3 (some ⟨bX, 0, none⟩) [1, 2, 3, 4, 5, 6] 6 ⟨by decide, by decide⟩ ⟨by decide, by decide⟩ (bytes_blk hX (by decide) rfl) (by simp) (by decide) (some ⟨bY, 0, none⟩) [1, 0, 1] 3 (Row.all hY) (some ⟨bZ, 0, none⟩) [0, 1, 2] 3 (bytes_blk hZ (by decide) rfl) (by simp) (by decide) 3 (by decide) (by decide)
theorem makes0 (V : World) : Calls Try.prog 18 #[.agg #[.int .i64 0, .int .i64 0, .slice none 0 0], .slice none 0 0, .slice none 0 0, .int .i64 0] V (Ok V) :=
 matrixMakes.walk V 0 0 none [] 0 ⟨by decide, by decide⟩ ⟨by decide, by decide⟩ (Bytes.nil _ _) (by simp) (by decide) none [] 0 (Row.nil _ _) none [] 0 (Bytes.nil _ _) (by simp) (by decide) 0 (by decide) (by decide)
theorem and_keep {a b : Prop} (ha : a) (h : a → b) : a ∧ b := ⟨ha, h ha⟩
theorem tk {P : Program} {ops : Array Oper} {Q : Exit → Act → World → Prop} {md : Region.Mode} {S : World → Prop} (i : Nat) (d : Tmp) (v : Value) {oi : Oper} {fuel : Nat} {listed : Array Bool} {a : Act} {w : World} (hP : ∀ ch d v a w, Q (.panic ch) (Act.put a (some d) v) w → Q (.panic ch) a w) (hi : ops[i]? = some oi) (hd : oi.dst = some d) (hs : Region.noSelect ops = true) (hf : Region.free md ops listed i = true) (hr : (Region.ready md ops listed).contains i = true) (hy : YieldsIf P ops S oi v a) (hS : S w) (h : wpAnyH P md ops Q S fuel (listed.setIfInBounds i true) (a.put (some d) v) w) : wpAnyH P md ops Q S (fuel + 1) listed a w :=
 wpAnyH_takeD (some d) v hi hd hs hf hr (fun _ _ _ h => hP _ _ _ _ _ h) hy hS h
theorem wpAnyH_three {P : Program} {ops : Array Oper} {Q : Exit → Act → World → Prop} {md : Region.Mode} {S : World → Prop} {fuel i j k : Nat} {listed : Array Bool} {oi oj ok : Oper} {a : Act} {w : World} (hr : Region.ready md ops listed = [i, j, k]) (hoi : ops[i]? = some oi) (hoj : ops[j]? = some oj) (hok : ops[k]? = some ok) (hwi : Region.wanted oi (yielded ops a.tmps) = true) (hwj : Region.wanted oj (yielded ops a.tmps) = true) (hwk : Region.wanted ok (yielded ops a.tmps) = true)
  (hi : oi.wp P a w (fun a2 w2 => S w2 ∧ wpAnyH P md ops Q S fuel (listed.setIfInBounds i true) a2 w2) Q) (hj : oj.wp P a w (fun a2 w2 => S w2 ∧ wpAnyH P md ops Q S fuel (listed.setIfInBounds j true) a2 w2) Q) (hk : ok.wp P a w (fun a2 w2 => S w2 ∧ wpAnyH P md ops Q S fuel (listed.setIfInBounds k true) a2 w2) Q) : wpAnyH P md ops Q S (fuel + 1) listed a w :=
 wpAnyH_all hr (by simp) (fun l hl => by
  rcases (by simpa using hl : l = i ∨ l = j ∨ l = k) with rfl | rfl | rfl
  ·exact wpOp_call hoi hwi hi
  ·exact wpOp_call hoj hwj hj
  ·exact wpOp_call hok hwk hk)
def regs : Code → List Code
 | .region i ops d => [.region i ops d]
 | .seq a b => regs a ++ regs b
 | .cond _ a b => regs a ++ regs b
 | .block _ b => regs b
 | .loop b => regs b
 | .rangeFunc _ _ a b => regs a ++ regs b
 | .scope b => regs b
 | _ => []
def regAt (f : Func) (k : Nat) : Code := match f.body with
 | none => .skip
 | some c => (regs c).getD k .skip
end Go.Proofs.Ytjpbdbgihakpmaa.matrixKnown
