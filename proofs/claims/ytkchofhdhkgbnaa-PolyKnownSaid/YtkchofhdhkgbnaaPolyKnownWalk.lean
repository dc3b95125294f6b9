/- The walk of PolyKnown (its region of 68 operations written by tools/gen_known.py). -/
import Derived.Test.YtkchofhdhkgbnaaPolyKnownParts
import Derived.Test.YtkchofhdhkgbnaaRound
import Derived.Deep.RegionHeld3
namespace Go.Proofs.Ytkchofhdhkgbnaa.polyKnown
open Go.RowKit F8 GF Poly

/-- A region that draws, by what holds in the worlds that are met. -/
theorem region_held {P : Program} {ops : Array Oper} {Q : Exit → Act → World → Prop} {S : World → Prop} {id : Nat} {a : Act} {w : World} (hm : P.follows .mixedOrders = true) (hS : S w.drew)
    (h : S w.drew → wpAnyH P .any ops Q S ops.size (Array.replicate ops.size false) a w.drew) : (Code.region id ops true).wp P Q a w :=
  wp_region_any hm (wpAny_of_held _ _ _ _ (h hS))
/-- One operation alone may come up, a call or what makes memory. -/
theorem wpAnyH_one {P : Program} {ops : Array Oper} {Q : Exit → Act → World → Prop} {md : Region.Mode} {S : World → Prop} {fuel i : Nat} {listed : Array Bool} {o : Oper} {a : Act} {w : World} (hr : Region.ready md ops listed = [i]) (ho : ops[i]? = some o) (hw : Region.wanted o (yielded ops a.tmps) = true)
    (h : o.wp P a w (fun a2 w2 => S w2 ∧ wpAnyH P md ops Q S fuel (listed.setIfInBounds i true) a2 w2) Q) : wpAnyH P md ops Q S (fuel + 1) listed a w :=
  wpAnyH_all hr (by simp) (fun j hj => (by simpa using hj : j = i) ▸ wpOp_call ho hw h)
set_option linter.unusedSimpArgs false in
set_option maxRecDepth 100000 in
set_option maxHeartbeats 40000000 in
theorem walk (S : Poly.Spec) (w : World) :
    Calls Try.prog 11 #[] w fun e w' => e = .returned (.bool true) ∧ Below w.heap.size w w' := by
  go_enter Try.func11, Try.ntmps11
  go_wp2
  go_loopw [1, 2] (fun v i wr => ∃ k : Nat, ∃ xs, k ≤ 64 ∧ i = .int .i64 k ∧ Hid (Rows3 w wr v k xs)) (fun _ i _ => 64 - (intOf i).toNat)
  case atStart => exact ⟨0, [], by omega, rfl, Lib.hid ⟨rfl, Own.nil _ _ _, Below.refl _ _, fun i u hu => by simp at hu⟩⟩
  case round =>
    obtain ⟨k, xs, hk, rfl, HR⟩ := hrel
    by_cases hlt : k < 64
    · have hd : decide ((k : Int) < 64) = true := by simp; omega
      obtain ⟨a, ha⟩ : ∃ a : F8, (k : Int) % 4 * 85 = (a.n : Int) := ⟨⟨k % 4 * 85, by omega⟩, by show _ = ((k % 4 * 85 : Nat) : Int); omega⟩
      obtain ⟨b, hb⟩ : ∃ b : F8, (k : Int) / 4 % 4 = (b.n : Int) := ⟨⟨k / 4 % 4, by omega⟩, by show _ = ((k / 4 % 4 : Nat) : Int); omega⟩
      obtain ⟨c, hc⟩ : ∃ c : F8, (k : Int) / 16 * 7 = (c.n : Int) := ⟨⟨k / 16 * 7, by omega⟩, by show _ = ((k / 16 * 7 : Nat) : Int); omega⟩
      have hab := f8_bounds a
      have hbb := f8_bounds b
      have hcb := f8_bounds c
      obtain ⟨ha0, ha1⟩ := hab
      obtain ⟨hb0, hb1⟩ := hbb
      obtain ⟨hc0, hc1⟩ := hcb
      have hl := HR.out.len
      have HLn := Lib.hid hl
      have hsz := HR.out.bel.size
      clear hl
      go_wp2_with (at_builtin; refine wpList_app _ rfl (.tmp 9) (.tmp 23) _ rfl w.heap.size 22 _ 24 Try.underlying45 info_rows rfl (by omega) _ _ rfl ((HR.out.own.alloc _).alloc _) (some ⟨wr.heap.size + 1, 0, none⟩) 1 1 [.slice (some ⟨wr.heap.size, 0, none⟩) 3 3] rfl rfl (Row.one (by rw [show wr.heap.size + 1 = (wr.alloc (.cells #[.int .u8 a.n, .int .u8 b.n, .int .u8 c.n] 5)).heap.size by simp, cell_new]; simp)) (by simp [Value.oneCell']) (by rw [HLn.out]; omega) (by simp; omega) ?_; intro v2 w2 hown2 hg2 _)
      have HR2 := Lib.hid (HR.out.more a b c _ rfl hown2 hg2)
      clear hown2 hg2 HR
      go_wp2
      go_roundw
      case rel => exact ⟨k + 1, _, by omega, by go_num, HR2⟩
      case measure => simp [intOf]; omega
    · obtain rfl : k = 64 := by omega
      simp only [Int.cast_ofNat_Int]
      have hl := HR.out.len
      obtain ⟨g1, c1, rfl, -, -, -⟩ := HR.out.own.form1 (by omega)
      rw [hl] at HR ⊢
      clear hl hlt hk
      go_wp2
      go_loopw [0, 3] (fun _ i wr => ∃ i' : Nat, i' ≤ 64 ∧ i = .int .i64 i' ∧ Hid (Rows3 w wr (.slice (some ⟨g1, 0, none⟩) 64 c1) 64 xs)) (fun _ i _ => 64 - (intOf i).toNat)
      case atStart => exact ⟨0, by omega, rfl, HR⟩
      case round =>
        clear HR
        obtain ⟨i, hi, rfl, HR⟩ := hrel
        by_cases hlt : i < 64
        · have hd : decide ((i : Int) < 64) = true := by simp; omega
          go_wp2
          go_loopw [0, 4] (fun _ j wr => ∃ k : Nat, k ≤ 66 ∧ j = .int .i64 k ∧ Hid (Rows3 w wr (.slice (some ⟨g1, 0, none⟩) 64 c1) 64 xs)) (fun _ j _ => 66 - (intOf j).toNat)
          case atStart => exact ⟨0, by omega, rfl, HR⟩
          case round =>
            clear HR
            obtain ⟨k, hk, rfl, HR⟩ := hrel
            by_cases hlt2 : k < 64
            · have hd2 : decide ((k : Int) < 64) = true := by simp; omega
              obtain ⟨gi, a, b, d, x1, y1, HX⟩ := HR.out.get i hlt
              obtain ⟨gk, a', b', d', x2, y2, HY⟩ := HR.out.get k hlt2
              have z1 := cell_regrown x1
              have z2 := cell_regrown x2
              go_wp2_with fail
              refine wp_region_quiet_below (by kernel_rfl) (by kernel_rfl) ?_
              repeat (go_big_quiet_step (first
                | (go_at_call 3; exact Calls.regrown_of (twoK S _ _ _ (l3 a b d) ((l3 a' b' d').take (k % 4)) _ _ (HX.out.below (below_regrown _ _ _)) (bytes_take (HY.out.below (below_regrown _ _ _)) _) (by simp [l3]) (by simp [l3]; omega) (by omega) (by omega)))
                | (go_at_call 6; exact Calls.regrown_of (dividesK S _ _ _ (l3 a b d) (l3 a' b' d') _ _ _ (HX.out.below (below_regrown _ _ _)) (HY.out.below (below_regrown _ _ _)) (by simp [l3]) (by simp [l3]) (by omega) (by omega) (by omega) (by omega)))
                | (go_at_call 5; exact Calls.regrown_of (valuesK S _ _ _ (l3 a b d) (l3 a' b' d') _ _ _ (HX.out.below (below_regrown _ _ _)) (HY.out.below (below_regrown _ _ _)) (by simp [l3]) (by simp [l3]) (by omega) (by omega) (by omega) (by omega)))))
              refine wpQuiet_nil ?_
              intro _ hw'
              obtain ⟨⟨dq, osq⟩, hw''⟩ := hw'
              subst hw''
              have HR2 := Lib.hid (HR.out.below (below_regrown wr dq osq))
              dsimp only
              generalize Sort.grow (redrawn wr dq) osq = wq at *
              clear HR HX HY x1 x2 y1 y2 z1 z2
              go_wp2
              go_roundw
              case rel => exact ⟨k + 3, by omega, by go_num, HR2⟩
              case measure => simp [intOf]; omega
            · have hd2 : decide ((k : Int) < 64) = false := by simp; omega
              obtain ⟨j5, h5⟩ : ∃ j5 : Nat, (i : Int) * 5 % 64 = (j5 : Int) := ⟨i * 5 % 64, by omega⟩
              obtain ⟨j7, h7⟩ : ∃ j7 : Nat, (i : Int) * 7 % 64 = (j7 : Int) := ⟨i * 7 % 64, by omega⟩
              obtain ⟨j3, h3⟩ : ∃ j3 : Nat, (i : Int) * 3 % 64 = (j3 : Int) := ⟨i * 3 % 64, by omega⟩
              obtain ⟨j8, h8⟩ : ∃ j8 : Nat, (i : Int) % 8 = (j8 : Int) := ⟨i % 8, by omega⟩
              have b5 : j5 < 64 := by omega
              have b7 : j7 < 64 := by omega
              have b3 : j3 < 64 := by omega
              obtain ⟨gi, a, b, d, x1, y1, HX⟩ := HR.out.get i hlt
              obtain ⟨ga, a5, b5', d5, x5, y5, HA⟩ := HR.out.get j5 b5
              obtain ⟨gb, a7, b7', d7, x7, y7, HC⟩ := HR.out.get j7 b7
              obtain ⟨gc, a3, b3', d3, x3, y3, HD⟩ := HR.out.get j3 b3
              have HBd := Lib.hid ((Below.refl wr.heap.size wr).drew)
              have HKeep := Lib.hid (show ∀ w', Below wr.heap.size wr w' → w'.cell? ⟨g1, i, none⟩ = some (.slice (some ⟨gi, 0, none⟩) 3 3) ∧ w'.cell? ⟨g1, j5, none⟩ = some (.slice (some ⟨ga, 0, none⟩) 3 3) ∧ w'.cell? ⟨g1, j7, none⟩ = some (.slice (some ⟨gb, 0, none⟩) 3 3) ∧ w'.cell? ⟨g1, j3, none⟩ = some (.slice (some ⟨gc, 0, none⟩) 3 3) from
                fun w' hb => ⟨by rw [hb.cell (block_lt_of_cell x1)]; exact x1, by rw [hb.cell (block_lt_of_cell x5)]; exact x5, by rw [hb.cell (block_lt_of_cell x7)]; exact x7, by rw [hb.cell (block_lt_of_cell x3)]; exact x3⟩)
              clear y1 y5 y7 y3
              obtain ⟨S14, hSD⟩ : ∃ S14 : World → Prop, S14 = fun w' => w'.cell? ⟨g1, i, none⟩ = some (.slice (some ⟨gi, 0, none⟩) 3 3) ∧ w'.cell? ⟨g1, j5, none⟩ = some (.slice (some ⟨ga, 0, none⟩) 3 3) ∧ w'.cell? ⟨g1, j7, none⟩ = some (.slice (some ⟨gb, 0, none⟩) 3 3) ∧ w'.cell? ⟨g1, j3, none⟩ = some (.slice (some ⟨gc, 0, none⟩) 3 3) := ⟨_, rfl⟩
              have HKeep : Hid (∀ w', Below wr.heap.size wr w' → S14 w') := Lib.hid (by rw [hSD]; exact HKeep.out)
              have HSD := Lib.hid hSD
              clear hSD x1 x5 x7 x3
              have W5 := Lib.hid (IntWalk.i64_in ((i : Int) * 5) (by omega))
              have W7 := Lib.hid (IntWalk.i64_in ((i : Int) * 7) (by omega))
              have W3 := Lib.hid (IntWalk.i64_in ((i : Int) * 3) (by omega))
              have T5 : Hid (((i : Int) * 5).tmod 64 = (j5 : Int)) := Lib.hid (by rw [Int.tmod_eq_emod_of_nonneg (by omega)]; exact h5)
              have T7 : Hid (((i : Int) * 7).tmod 64 = (j7 : Int)) := Lib.hid (by rw [Int.tmod_eq_emod_of_nonneg (by omega)]; exact h7)
              have T3 : Hid (((i : Int) * 3).tmod 64 = (j3 : Int)) := Lib.hid (by rw [Int.tmod_eq_emod_of_nonneg (by omega)]; exact h3)
              have T8 : Hid ((i : Int).tmod 8 = (j8 : Int)) := Lib.hid (by rw [Int.tmod_eq_emod_of_nonneg (by omega)]; exact h8)
              have U8 : Hid (IntKind.u8.wrap (i : Int) = (i : Int)) := Lib.hid (by rw [IntKind.wrap_u8']; omega)
              clear h5 h7 h3 h8
              go_wp2_with fail
              simp only [List.append_eq, List.cons_append, List.nil_append]
              refine region_held (S := S14) (by kernel_rfl) (HKeep.out _ HBd.out) (fun hS0 => ?_)
              refine wpAnyH_take (i := 0) (v := .slice (some ⟨g1, 0, none⟩) 64 c1) rfl (by kernel_rfl) (by kernel_rfl) (by kernel_rfl) (fun _ _ _ h => h) (Or.inl ⟨by kernel_rfl, fun W hW => by rw [HSD.out] at hW; obtain ⟨s1, s5, s7, s3⟩ := hW; go_simp⟩) hS0 ?_
              simp only [Act.put, List.setIfInBounds_toArray, List.set_cons_zero, List.set_cons_succ]
              refine wpAnyH_take (i := 1) (v := .int .i64 (i : Int)) rfl (by kernel_rfl) (by kernel_rfl) (by kernel_rfl) (fun _ _ _ h => h) (Or.inl ⟨by kernel_rfl, fun W hW => by rw [HSD.out] at hW; obtain ⟨s1, s5, s7, s3⟩ := hW; go_simp⟩) hS0 ?_
              simp only [Act.put, List.setIfInBounds_toArray, List.set_cons_zero, List.set_cons_succ]
              refine wpAnyH_take (i := 2) (v := .pointer (some ⟨g1, i, none⟩)) rfl (by kernel_rfl) (by kernel_rfl) (by kernel_rfl) (fun _ _ _ h => h) (Or.inl ⟨by kernel_rfl, fun W hW => by rw [HSD.out] at hW; obtain ⟨s1, s5, s7, s3⟩ := hW; go_simp; intro h; omega⟩) hS0 ?_
              simp only [Act.put, List.setIfInBounds_toArray, List.set_cons_zero, List.set_cons_succ]
              refine wpAnyH_take (i := 3) (v := .slice (some ⟨gi, 0, none⟩) 3 3) rfl (by kernel_rfl) (by kernel_rfl) (by kernel_rfl) (fun _ _ _ h => h) (Or.inl ⟨by kernel_rfl, fun W hW => by rw [HSD.out] at hW; obtain ⟨s1, s5, s7, s3⟩ := hW; go_simp⟩) hS0 ?_
              simp only [Act.put, List.setIfInBounds_toArray, List.set_cons_zero, List.set_cons_succ]
              refine wpAnyH_take (i := 4) (v := .slice (some ⟨g1, 0, none⟩) 64 c1) rfl (by kernel_rfl) (by kernel_rfl) (by kernel_rfl) (fun _ _ _ h => h) (Or.inl ⟨by kernel_rfl, fun W hW => by rw [HSD.out] at hW; obtain ⟨s1, s5, s7, s3⟩ := hW; go_simp⟩) hS0 ?_
              simp only [Act.put, List.setIfInBounds_toArray, List.set_cons_zero, List.set_cons_succ]
              refine wpAnyH_take (i := 5) (v := .int .i64 (i : Int)) rfl (by kernel_rfl) (by kernel_rfl) (by kernel_rfl) (fun _ _ _ h => h) (Or.inl ⟨by kernel_rfl, fun W hW => by rw [HSD.out] at hW; obtain ⟨s1, s5, s7, s3⟩ := hW; go_simp⟩) hS0 ?_
              simp only [Act.put, List.setIfInBounds_toArray, List.set_cons_zero, List.set_cons_succ]
              refine wpAnyH_take (i := 6) (v := .int .i64 ((i : Int) * 5)) rfl (by kernel_rfl) (by kernel_rfl) (by kernel_rfl) (fun _ _ _ h => h) (Or.inl ⟨by kernel_rfl, fun W hW => by rw [HSD.out] at hW; obtain ⟨s1, s5, s7, s3⟩ := hW; go_simp; exact W5.out⟩) hS0 ?_
              simp only [Act.put, List.setIfInBounds_toArray, List.set_cons_zero, List.set_cons_succ]
              refine wpAnyH_take (i := 7) (v := .int .i64 (j5 : Int)) rfl (by kernel_rfl) (by kernel_rfl) (by kernel_rfl) (fun _ _ _ h => h) (Or.inl ⟨by kernel_rfl, fun W hW => by rw [HSD.out] at hW; obtain ⟨s1, s5, s7, s3⟩ := hW; go_simp; exact T5.out⟩) hS0 ?_
              simp only [Act.put, List.setIfInBounds_toArray, List.set_cons_zero, List.set_cons_succ]
              refine wpAnyH_take (i := 8) (v := .pointer (some ⟨g1, j5, none⟩)) rfl (by kernel_rfl) (by kernel_rfl) (by kernel_rfl) (fun _ _ _ h => h) (Or.inl ⟨by kernel_rfl, fun W hW => by rw [HSD.out] at hW; obtain ⟨s1, s5, s7, s3⟩ := hW; go_simp; intro h; omega⟩) hS0 ?_
              simp only [Act.put, List.setIfInBounds_toArray, List.set_cons_zero, List.set_cons_succ]
              refine wpAnyH_take (i := 9) (v := .slice (some ⟨ga, 0, none⟩) 3 3) rfl (by kernel_rfl) (by kernel_rfl) (by kernel_rfl) (fun _ _ _ h => h) (Or.inl ⟨by kernel_rfl, fun W hW => by rw [HSD.out] at hW; obtain ⟨s1, s5, s7, s3⟩ := hW; go_simp⟩) hS0 ?_
              simp only [Act.put, List.setIfInBounds_toArray, List.set_cons_zero, List.set_cons_succ]
              refine wpAnyH_take (i := 10) (v := .slice (some ⟨g1, 0, none⟩) 64 c1) rfl (by kernel_rfl) (by kernel_rfl) (by kernel_rfl) (fun _ _ _ h => h) (Or.inl ⟨by kernel_rfl, fun W hW => by rw [HSD.out] at hW; obtain ⟨s1, s5, s7, s3⟩ := hW; go_simp⟩) hS0 ?_
              simp only [Act.put, List.setIfInBounds_toArray, List.set_cons_zero, List.set_cons_succ]
              refine wpAnyH_take (i := 11) (v := .int .i64 (i : Int)) rfl (by kernel_rfl) (by kernel_rfl) (by kernel_rfl) (fun _ _ _ h => h) (Or.inl ⟨by kernel_rfl, fun W hW => by rw [HSD.out] at hW; obtain ⟨s1, s5, s7, s3⟩ := hW; go_simp⟩) hS0 ?_
              simp only [Act.put, List.setIfInBounds_toArray, List.set_cons_zero, List.set_cons_succ]
              refine wpAnyH_take (i := 12) (v := .pointer (some ⟨g1, i, none⟩)) rfl (by kernel_rfl) (by kernel_rfl) (by kernel_rfl) (fun _ _ _ h => h) (Or.inl ⟨by kernel_rfl, fun W hW => by rw [HSD.out] at hW; obtain ⟨s1, s5, s7, s3⟩ := hW; go_simp; intro h; omega⟩) hS0 ?_
              simp only [Act.put, List.setIfInBounds_toArray, List.set_cons_zero, List.set_cons_succ]
              refine wpAnyH_take (i := 13) (v := .slice (some ⟨gi, 0, none⟩) 3 3) rfl (by kernel_rfl) (by kernel_rfl) (by kernel_rfl) (fun _ _ _ h => h) (Or.inl ⟨by kernel_rfl, fun W hW => by rw [HSD.out] at hW; obtain ⟨s1, s5, s7, s3⟩ := hW; go_simp⟩) hS0 ?_
              simp only [Act.put, List.setIfInBounds_toArray, List.set_cons_zero, List.set_cons_succ]
              refine wpAnyH_take (i := 14) (v := .int .i64 (i : Int)) rfl (by kernel_rfl) (by kernel_rfl) (by kernel_rfl) (fun _ _ _ h => h) (Or.inl ⟨by kernel_rfl, fun W hW => by rw [HSD.out] at hW; obtain ⟨s1, s5, s7, s3⟩ := hW; go_simp⟩) hS0 ?_
              simp only [Act.put, List.setIfInBounds_toArray, List.set_cons_zero, List.set_cons_succ]
              refine wpAnyH_take (i := 15) (v := .int .u8 (i : Int)) rfl (by kernel_rfl) (by kernel_rfl) (by kernel_rfl) (fun _ _ _ h => h) (Or.inl ⟨by kernel_rfl, fun W hW => by rw [HSD.out] at hW; obtain ⟨s1, s5, s7, s3⟩ := hW; go_simp; exact U8.out⟩) hS0 ?_
              simp only [Act.put, List.setIfInBounds_toArray, List.set_cons_zero, List.set_cons_succ]
              refine wpAnyH_one (i := 16) (by kernel_rfl) rfl (by kernel_rfl) ?_
              go_simp
              refine (throughK S _ _ _ _ (l3 a b d) (l3 a5 b5' d5) (l3 a b d) _ _ _ _ _ _ _ (HX.out.below HBd.out) (HA.out.below HBd.out) (HX.out.below HBd.out) (by simp [l3]) (by simp [l3]) (by simp [l3]) (by omega) (by omega) (by omega) (by omega) (by omega) (by omega)).mono ?_
              rintro e w6 ⟨rfl, hb6⟩
              have HB6 := Lib.hid (HBd.out.trans (hb6.mono HBd.out.size))
              have hS1 := HKeep.out _ HB6.out
              clear hb6
              refine ⟨hS1, ?_⟩
              refine wpAnyH_take (i := 17) (v := .bool false) rfl (by kernel_rfl) (by kernel_rfl) (by kernel_rfl) (fun _ _ _ h => h) (Or.inl ⟨by kernel_rfl, fun W hW => by rw [HSD.out] at hW; obtain ⟨s1, s5, s7, s3⟩ := hW; go_simp⟩) hS1 ?_
              simp only [Act.put, List.setIfInBounds_toArray, List.set_cons_zero, List.set_cons_succ]
              refine wpAnyH_take (i := 18) (v := .bool false) rfl (by kernel_rfl) (by kernel_rfl) (by kernel_rfl) (fun _ _ _ h => h) (Or.inl ⟨by kernel_rfl, fun W hW => by rw [HSD.out] at hW; obtain ⟨s1, s5, s7, s3⟩ := hW; go_simp⟩) hS1 ?_
              simp only [Act.put, List.setIfInBounds_toArray, List.set_cons_zero, List.set_cons_succ]
              refine wpAnyH_take (i := 19) (v := .slice (some ⟨g1, 0, none⟩) 64 c1) rfl (by kernel_rfl) (by kernel_rfl) (by kernel_rfl) (fun _ _ _ h => h) (Or.inl ⟨by kernel_rfl, fun W hW => by rw [HSD.out] at hW; obtain ⟨s1, s5, s7, s3⟩ := hW; go_simp⟩) hS1 ?_
              simp only [Act.put, List.setIfInBounds_toArray, List.set_cons_zero, List.set_cons_succ]
              refine wpAnyH_take (i := 20) (v := .int .i64 (i : Int)) rfl (by kernel_rfl) (by kernel_rfl) (by kernel_rfl) (fun _ _ _ h => h) (Or.inl ⟨by kernel_rfl, fun W hW => by rw [HSD.out] at hW; obtain ⟨s1, s5, s7, s3⟩ := hW; go_simp⟩) hS1 ?_
              simp only [Act.put, List.setIfInBounds_toArray, List.set_cons_zero, List.set_cons_succ]
              refine wpAnyH_take (i := 21) (v := .pointer (some ⟨g1, i, none⟩)) rfl (by kernel_rfl) (by kernel_rfl) (by kernel_rfl) (fun _ _ _ h => h) (Or.inl ⟨by kernel_rfl, fun W hW => by rw [HSD.out] at hW; obtain ⟨s1, s5, s7, s3⟩ := hW; go_simp; intro h; omega⟩) hS1 ?_
              simp only [Act.put, List.setIfInBounds_toArray, List.set_cons_zero, List.set_cons_succ]
              refine wpAnyH_take (i := 22) (v := .slice (some ⟨gi, 0, none⟩) 3 3) rfl (by kernel_rfl) (by kernel_rfl) (by kernel_rfl) (fun _ _ _ h => h) (Or.inl ⟨by kernel_rfl, fun W hW => by rw [HSD.out] at hW; obtain ⟨s1, s5, s7, s3⟩ := hW; go_simp⟩) hS1 ?_
              simp only [Act.put, List.setIfInBounds_toArray, List.set_cons_zero, List.set_cons_succ]
              refine wpAnyH_take (i := 23) (v := .int .i64 (i : Int)) rfl (by kernel_rfl) (by kernel_rfl) (by kernel_rfl) (fun _ _ _ h => h) (Or.inl ⟨by kernel_rfl, fun W hW => by rw [HSD.out] at hW; obtain ⟨s1, s5, s7, s3⟩ := hW; go_simp⟩) hS1 ?_
              simp only [Act.put, List.setIfInBounds_toArray, List.set_cons_zero, List.set_cons_succ]
              refine wpAnyH_take (i := 24) (v := .int .u8 (i : Int)) rfl (by kernel_rfl) (by kernel_rfl) (by kernel_rfl) (fun _ _ _ h => h) (Or.inl ⟨by kernel_rfl, fun W hW => by rw [HSD.out] at hW; obtain ⟨s1, s5, s7, s3⟩ := hW; go_simp; exact U8.out⟩) hS1 ?_
              simp only [Act.put, List.setIfInBounds_toArray, List.set_cons_zero, List.set_cons_succ]
              refine wpAnyH_take (i := 26) (v := .slice (some ⟨g1, 0, none⟩) 64 c1) rfl (by kernel_rfl) (by kernel_rfl) (by kernel_rfl) (fun _ _ _ h => h) (Or.inl ⟨by kernel_rfl, fun W hW => by rw [HSD.out] at hW; obtain ⟨s1, s5, s7, s3⟩ := hW; go_simp⟩) hS1 ?_
              simp only [Act.put, List.setIfInBounds_toArray, List.set_cons_zero, List.set_cons_succ]
              refine wpAnyH_take (i := 27) (v := .int .i64 (i : Int)) rfl (by kernel_rfl) (by kernel_rfl) (by kernel_rfl) (fun _ _ _ h => h) (Or.inl ⟨by kernel_rfl, fun W hW => by rw [HSD.out] at hW; obtain ⟨s1, s5, s7, s3⟩ := hW; go_simp⟩) hS1 ?_
              simp only [Act.put, List.setIfInBounds_toArray, List.set_cons_zero, List.set_cons_succ]
              refine wpAnyH_take (i := 28) (v := .int .i64 ((i : Int) * 7)) rfl (by kernel_rfl) (by kernel_rfl) (by kernel_rfl) (fun _ _ _ h => h) (Or.inl ⟨by kernel_rfl, fun W hW => by rw [HSD.out] at hW; obtain ⟨s1, s5, s7, s3⟩ := hW; go_simp; exact W7.out⟩) hS1 ?_
              simp only [Act.put, List.setIfInBounds_toArray, List.set_cons_zero, List.set_cons_succ]
              refine wpAnyH_take (i := 29) (v := .int .i64 (j7 : Int)) rfl (by kernel_rfl) (by kernel_rfl) (by kernel_rfl) (fun _ _ _ h => h) (Or.inl ⟨by kernel_rfl, fun W hW => by rw [HSD.out] at hW; obtain ⟨s1, s5, s7, s3⟩ := hW; go_simp; exact T7.out⟩) hS1 ?_
              simp only [Act.put, List.setIfInBounds_toArray, List.set_cons_zero, List.set_cons_succ]
              refine wpAnyH_take (i := 30) (v := .pointer (some ⟨g1, j7, none⟩)) rfl (by kernel_rfl) (by kernel_rfl) (by kernel_rfl) (fun _ _ _ h => h) (Or.inl ⟨by kernel_rfl, fun W hW => by rw [HSD.out] at hW; obtain ⟨s1, s5, s7, s3⟩ := hW; go_simp; intro h; omega⟩) hS1 ?_
              simp only [Act.put, List.setIfInBounds_toArray, List.set_cons_zero, List.set_cons_succ]
              refine wpAnyH_take (i := 31) (v := .slice (some ⟨gb, 0, none⟩) 3 3) rfl (by kernel_rfl) (by kernel_rfl) (by kernel_rfl) (fun _ _ _ h => h) (Or.inl ⟨by kernel_rfl, fun W hW => by rw [HSD.out] at hW; obtain ⟨s1, s5, s7, s3⟩ := hW; go_simp⟩) hS1 ?_
              simp only [Act.put, List.setIfInBounds_toArray, List.set_cons_zero, List.set_cons_succ]
              refine wpAnyH_one (i := 25) (by kernel_rfl) rfl (by kernel_rfl) ?_
              go_simp
              have hS2 := HKeep.out _ (HB6.out.alloc HB6.out.size (.cells #[.int .u8 1, .int .u8 2, .int .u8 (i : Int)] 5))
              refine ⟨hS2, ?_⟩
              refine wpAnyH_one (i := 32) (by kernel_rfl) rfl (by kernel_rfl) ?_
              go_simp
              refine (onlyK S _ _ _ _ (l3 a b d) [1, 2, i] (l3 a7 b7' d7) _ _ _ _ _ _ (HX.out.below (HB6.out.alloc HB6.out.size _)) (lit_bytes _ [1, 2, i] _ rfl (by intro x hx; simp at hx; omega)) (HC.out.below (HB6.out.alloc HB6.out.size _)) (by simp [l3]) (by simp) (by simp [l3]) (by omega) (by omega) (by omega) (by omega)).mono ?_
              rintro e w7 ⟨rfl, hb7⟩
              have HB7 := Lib.hid ((HB6.out.alloc HB6.out.size _).trans (hb7.mono (HB6.out.alloc HB6.out.size _).size))
              have hS3 := HKeep.out _ HB7.out
              clear hb7
              refine ⟨hS3, ?_⟩
              refine wpAnyH_take (i := 33) (v := .bool false) rfl (by kernel_rfl) (by kernel_rfl) (by kernel_rfl) (fun _ _ _ h => h) (Or.inl ⟨by kernel_rfl, fun W hW => by rw [HSD.out] at hW; obtain ⟨s1, s5, s7, s3⟩ := hW; go_simp⟩) hS3 ?_
              simp only [Act.put, List.setIfInBounds_toArray, List.set_cons_zero, List.set_cons_succ]
              refine wpAnyH_take (i := 34) (v := .bool false) rfl (by kernel_rfl) (by kernel_rfl) (by kernel_rfl) (fun _ _ _ h => h) (Or.inl ⟨by kernel_rfl, fun W hW => by rw [HSD.out] at hW; obtain ⟨s1, s5, s7, s3⟩ := hW; go_simp⟩) hS3 ?_
              simp only [Act.put, List.setIfInBounds_toArray, List.set_cons_zero, List.set_cons_succ]
              refine wpAnyH_take (i := 35) (v := .bool false) rfl (by kernel_rfl) (by kernel_rfl) (by kernel_rfl) (fun _ _ _ h => h) (Or.inl ⟨by kernel_rfl, fun W hW => by rw [HSD.out] at hW; obtain ⟨s1, s5, s7, s3⟩ := hW; go_simp⟩) hS3 ?_
              simp only [Act.put, List.setIfInBounds_toArray, List.set_cons_zero, List.set_cons_succ]
              refine wpAnyH_take (i := 36) (v := .slice (some ⟨g1, 0, none⟩) 64 c1) rfl (by kernel_rfl) (by kernel_rfl) (by kernel_rfl) (fun _ _ _ h => h) (Or.inl ⟨by kernel_rfl, fun W hW => by rw [HSD.out] at hW; obtain ⟨s1, s5, s7, s3⟩ := hW; go_simp⟩) hS3 ?_
              simp only [Act.put, List.setIfInBounds_toArray, List.set_cons_zero, List.set_cons_succ]
              refine wpAnyH_take (i := 37) (v := .int .i64 (i : Int)) rfl (by kernel_rfl) (by kernel_rfl) (by kernel_rfl) (fun _ _ _ h => h) (Or.inl ⟨by kernel_rfl, fun W hW => by rw [HSD.out] at hW; obtain ⟨s1, s5, s7, s3⟩ := hW; go_simp⟩) hS3 ?_
              simp only [Act.put, List.setIfInBounds_toArray, List.set_cons_zero, List.set_cons_succ]
              refine wpAnyH_take (i := 38) (v := .pointer (some ⟨g1, i, none⟩)) rfl (by kernel_rfl) (by kernel_rfl) (by kernel_rfl) (fun _ _ _ h => h) (Or.inl ⟨by kernel_rfl, fun W hW => by rw [HSD.out] at hW; obtain ⟨s1, s5, s7, s3⟩ := hW; go_simp; intro h; omega⟩) hS3 ?_
              simp only [Act.put, List.setIfInBounds_toArray, List.set_cons_zero, List.set_cons_succ]
              refine wpAnyH_take (i := 39) (v := .slice (some ⟨gi, 0, none⟩) 3 3) rfl (by kernel_rfl) (by kernel_rfl) (by kernel_rfl) (fun _ _ _ h => h) (Or.inl ⟨by kernel_rfl, fun W hW => by rw [HSD.out] at hW; obtain ⟨s1, s5, s7, s3⟩ := hW; go_simp⟩) hS3 ?_
              simp only [Act.put, List.setIfInBounds_toArray, List.set_cons_zero, List.set_cons_succ]
              refine wpAnyH_take (i := 41) (v := .slice (some ⟨g1, 0, none⟩) 64 c1) rfl (by kernel_rfl) (by kernel_rfl) (by kernel_rfl) (fun _ _ _ h => h) (Or.inl ⟨by kernel_rfl, fun W hW => by rw [HSD.out] at hW; obtain ⟨s1, s5, s7, s3⟩ := hW; go_simp⟩) hS3 ?_
              simp only [Act.put, List.setIfInBounds_toArray, List.set_cons_zero, List.set_cons_succ]
              refine wpAnyH_take (i := 42) (v := .int .i64 (i : Int)) rfl (by kernel_rfl) (by kernel_rfl) (by kernel_rfl) (fun _ _ _ h => h) (Or.inl ⟨by kernel_rfl, fun W hW => by rw [HSD.out] at hW; obtain ⟨s1, s5, s7, s3⟩ := hW; go_simp⟩) hS3 ?_
              simp only [Act.put, List.setIfInBounds_toArray, List.set_cons_zero, List.set_cons_succ]
              refine wpAnyH_take (i := 43) (v := .pointer (some ⟨g1, i, none⟩)) rfl (by kernel_rfl) (by kernel_rfl) (by kernel_rfl) (fun _ _ _ h => h) (Or.inl ⟨by kernel_rfl, fun W hW => by rw [HSD.out] at hW; obtain ⟨s1, s5, s7, s3⟩ := hW; go_simp; intro h; omega⟩) hS3 ?_
              simp only [Act.put, List.setIfInBounds_toArray, List.set_cons_zero, List.set_cons_succ]
              refine wpAnyH_take (i := 44) (v := .slice (some ⟨gi, 0, none⟩) 3 3) rfl (by kernel_rfl) (by kernel_rfl) (by kernel_rfl) (fun _ _ _ h => h) (Or.inl ⟨by kernel_rfl, fun W hW => by rw [HSD.out] at hW; obtain ⟨s1, s5, s7, s3⟩ := hW; go_simp⟩) hS3 ?_
              simp only [Act.put, List.setIfInBounds_toArray, List.set_cons_zero, List.set_cons_succ]
              refine wpAnyH_take (i := 45) (v := .slice (some ⟨gi, 0, none⟩) 2 3) rfl (by kernel_rfl) (by kernel_rfl) (by kernel_rfl) (fun _ _ _ h => h) (Or.inl ⟨by kernel_rfl, fun W hW => by rw [HSD.out] at hW; obtain ⟨s1, s5, s7, s3⟩ := hW; go_simp⟩) hS3 ?_
              simp only [Act.put, List.setIfInBounds_toArray, List.set_cons_zero, List.set_cons_succ]
              refine wpAnyH_one (i := 40) (by kernel_rfl) rfl (by kernel_rfl) ?_
              go_simp
              have hS4 := HKeep.out _ (HB7.out.alloc HB7.out.size (.cells #[.int .u8 9, .int .u8 200] 5))
              refine ⟨hS4, ?_⟩
              refine wpAnyH_one (i := 46) (by kernel_rfl) rfl (by kernel_rfl) ?_
              go_simp
              refine (onlyK S _ _ _ _ (l3 a b d) [9, 200] ((l3 a b d).take 2) _ _ _ _ _ _ (HX.out.below (HB7.out.alloc HB7.out.size _)) (lit_bytes _ [9, 200] _ rfl (by decide)) (bytes_take (HX.out.below (HB7.out.alloc HB7.out.size _)) 2) (by simp [l3]) (by simp) (by simp [l3]) (by omega) (by omega) (by omega) (by omega)).mono ?_
              rintro e w8 ⟨rfl, hb8⟩
              have HB8 := Lib.hid ((HB7.out.alloc HB7.out.size _).trans (hb8.mono (HB7.out.alloc HB7.out.size _).size))
              have hS5 := HKeep.out _ HB8.out
              clear hb8
              refine ⟨hS5, ?_⟩
              refine wpAnyH_take (i := 47) (v := .bool false) rfl (by kernel_rfl) (by kernel_rfl) (by kernel_rfl) (fun _ _ _ h => h) (Or.inl ⟨by kernel_rfl, fun W hW => by rw [HSD.out] at hW; obtain ⟨s1, s5, s7, s3⟩ := hW; go_simp⟩) hS5 ?_
              simp only [Act.put, List.setIfInBounds_toArray, List.set_cons_zero, List.set_cons_succ]
              refine wpAnyH_take (i := 48) (v := .bool false) rfl (by kernel_rfl) (by kernel_rfl) (by kernel_rfl) (fun _ _ _ h => h) (Or.inl ⟨by kernel_rfl, fun W hW => by rw [HSD.out] at hW; obtain ⟨s1, s5, s7, s3⟩ := hW; go_simp⟩) hS5 ?_
              simp only [Act.put, List.setIfInBounds_toArray, List.set_cons_zero, List.set_cons_succ]
              refine wpAnyH_take (i := 49) (v := .bool false) rfl (by kernel_rfl) (by kernel_rfl) (by kernel_rfl) (fun _ _ _ h => h) (Or.inl ⟨by kernel_rfl, fun W hW => by rw [HSD.out] at hW; obtain ⟨s1, s5, s7, s3⟩ := hW; go_simp⟩) hS5 ?_
              simp only [Act.put, List.setIfInBounds_toArray, List.set_cons_zero, List.set_cons_succ]
              refine wpAnyH_take (i := 50) (v := .int .i64 (i : Int)) rfl (by kernel_rfl) (by kernel_rfl) (by kernel_rfl) (fun _ _ _ h => h) (Or.inl ⟨by kernel_rfl, fun W hW => by rw [HSD.out] at hW; obtain ⟨s1, s5, s7, s3⟩ := hW; go_simp⟩) hS5 ?_
              simp only [Act.put, List.setIfInBounds_toArray, List.set_cons_zero, List.set_cons_succ]
              refine wpAnyH_take (i := 51) (v := .int .i64 (j8 : Int)) rfl (by kernel_rfl) (by kernel_rfl) (by kernel_rfl) (fun _ _ _ h => h) (Or.inl ⟨by kernel_rfl, fun W hW => by rw [HSD.out] at hW; obtain ⟨s1, s5, s7, s3⟩ := hW; go_simp; exact T8.out⟩) hS5 ?_
              simp only [Act.put, List.setIfInBounds_toArray, List.set_cons_zero, List.set_cons_succ]
              by_cases hz : j8 = 0
              · have z8 : ((j8 : Int) == 0) = true := by rw [hz]; rfl
                clear hz
                refine wpAnyH_take (i := 52) (v := .bool true) rfl (by kernel_rfl) (by kernel_rfl) (by kernel_rfl) (fun _ _ _ h => h) (Or.inl ⟨by kernel_rfl, fun W hW => by rw [HSD.out] at hW; obtain ⟨s1, s5, s7, s3⟩ := hW; go_simp⟩) hS5 ?_
                simp only [Act.put, List.setIfInBounds_toArray, List.set_cons_zero, List.set_cons_succ]
                refine wpAnyH_take (i := 53) (v := .bool true) rfl (by kernel_rfl) (by kernel_rfl) (by kernel_rfl) (fun _ _ _ h => h) (Or.inl ⟨by kernel_rfl, fun W hW => by rw [HSD.out] at hW; obtain ⟨s1, s5, s7, s3⟩ := hW; go_simp⟩) hS5 ?_
                simp only [Act.put, List.setIfInBounds_toArray, List.set_cons_zero, List.set_cons_succ]
                refine wpAnyH_take (i := 54) (v := .slice (some ⟨g1, 0, none⟩) 64 c1) rfl (by kernel_rfl) (by kernel_rfl) (by kernel_rfl) (fun _ _ _ h => h) (Or.inl ⟨by kernel_rfl, fun W hW => by rw [HSD.out] at hW; obtain ⟨s1, s5, s7, s3⟩ := hW; go_simp⟩) hS5 ?_
                simp only [Act.put, List.setIfInBounds_toArray, List.set_cons_zero, List.set_cons_succ]
                refine wpAnyH_take (i := 55) (v := .int .i64 (i : Int)) rfl (by kernel_rfl) (by kernel_rfl) (by kernel_rfl) (fun _ _ _ h => h) (Or.inl ⟨by kernel_rfl, fun W hW => by rw [HSD.out] at hW; obtain ⟨s1, s5, s7, s3⟩ := hW; go_simp⟩) hS5 ?_
                simp only [Act.put, List.setIfInBounds_toArray, List.set_cons_zero, List.set_cons_succ]
                refine wpAnyH_take (i := 56) (v := .pointer (some ⟨g1, i, none⟩)) rfl (by kernel_rfl) (by kernel_rfl) (by kernel_rfl) (fun _ _ _ h => h) (Or.inl ⟨by kernel_rfl, fun W hW => by rw [HSD.out] at hW; obtain ⟨s1, s5, s7, s3⟩ := hW; go_simp; intro h; omega⟩) hS5 ?_
                simp only [Act.put, List.setIfInBounds_toArray, List.set_cons_zero, List.set_cons_succ]
                refine wpAnyH_take (i := 57) (v := .slice (some ⟨gi, 0, none⟩) 3 3) rfl (by kernel_rfl) (by kernel_rfl) (by kernel_rfl) (fun _ _ _ h => h) (Or.inl ⟨by kernel_rfl, fun W hW => by rw [HSD.out] at hW; obtain ⟨s1, s5, s7, s3⟩ := hW; go_simp⟩) hS5 ?_
                simp only [Act.put, List.setIfInBounds_toArray, List.set_cons_zero, List.set_cons_succ]
                refine wpAnyH_take (i := 58) (v := .slice (some ⟨g1, 0, none⟩) 64 c1) rfl (by kernel_rfl) (by kernel_rfl) (by kernel_rfl) (fun _ _ _ h => h) (Or.inl ⟨by kernel_rfl, fun W hW => by rw [HSD.out] at hW; obtain ⟨s1, s5, s7, s3⟩ := hW; go_simp⟩) hS5 ?_
                simp only [Act.put, List.setIfInBounds_toArray, List.set_cons_zero, List.set_cons_succ]
                refine wpAnyH_take (i := 59) (v := .int .i64 (i : Int)) rfl (by kernel_rfl) (by kernel_rfl) (by kernel_rfl) (fun _ _ _ h => h) (Or.inl ⟨by kernel_rfl, fun W hW => by rw [HSD.out] at hW; obtain ⟨s1, s5, s7, s3⟩ := hW; go_simp⟩) hS5 ?_
                simp only [Act.put, List.setIfInBounds_toArray, List.set_cons_zero, List.set_cons_succ]
                refine wpAnyH_take (i := 60) (v := .int .i64 ((i : Int) * 3)) rfl (by kernel_rfl) (by kernel_rfl) (by kernel_rfl) (fun _ _ _ h => h) (Or.inl ⟨by kernel_rfl, fun W hW => by rw [HSD.out] at hW; obtain ⟨s1, s5, s7, s3⟩ := hW; go_simp; exact W3.out⟩) hS5 ?_
                simp only [Act.put, List.setIfInBounds_toArray, List.set_cons_zero, List.set_cons_succ]
                refine wpAnyH_take (i := 61) (v := .int .i64 (j3 : Int)) rfl (by kernel_rfl) (by kernel_rfl) (by kernel_rfl) (fun _ _ _ h => h) (Or.inl ⟨by kernel_rfl, fun W hW => by rw [HSD.out] at hW; obtain ⟨s1, s5, s7, s3⟩ := hW; go_simp; exact T3.out⟩) hS5 ?_
                simp only [Act.put, List.setIfInBounds_toArray, List.set_cons_zero, List.set_cons_succ]
                refine wpAnyH_take (i := 62) (v := .pointer (some ⟨g1, j3, none⟩)) rfl (by kernel_rfl) (by kernel_rfl) (by kernel_rfl) (fun _ _ _ h => h) (Or.inl ⟨by kernel_rfl, fun W hW => by rw [HSD.out] at hW; obtain ⟨s1, s5, s7, s3⟩ := hW; go_simp; intro h; omega⟩) hS5 ?_
                simp only [Act.put, List.setIfInBounds_toArray, List.set_cons_zero, List.set_cons_succ]
                refine wpAnyH_take (i := 63) (v := .slice (some ⟨gc, 0, none⟩) 3 3) rfl (by kernel_rfl) (by kernel_rfl) (by kernel_rfl) (fun _ _ _ h => h) (Or.inl ⟨by kernel_rfl, fun W hW => by rw [HSD.out] at hW; obtain ⟨s1, s5, s7, s3⟩ := hW; go_simp⟩) hS5 ?_
                simp only [Act.put, List.setIfInBounds_toArray, List.set_cons_zero, List.set_cons_succ]
                refine wpAnyH_one (i := 64) (by kernel_rfl) rfl (by kernel_rfl) ?_
                go_simp
                refine (rootsK S _ _ _ (l3 a b d) (l3 a3 b3' d3) _ _ _ _ (HX.out.below HB8.out) (HD.out.below HB8.out) (by simp [l3]) (by simp [l3]) (by omega) (by omega) (by omega)).mono ?_
                rintro e w9 ⟨rfl, hb9⟩
                have HB9 := Lib.hid (HB8.out.trans (hb9.mono HB8.out.size))
                have hS6 := HKeep.out _ HB9.out
                clear hb9
                refine ⟨hS6, ?_⟩
                refine wpAnyH_take (i := 65) (v := .bool false) rfl (by kernel_rfl) (by kernel_rfl) (by kernel_rfl) (fun _ _ _ h => h) (Or.inl ⟨by kernel_rfl, fun W hW => by rw [HSD.out] at hW; obtain ⟨s1, s5, s7, s3⟩ := hW; go_simp⟩) hS6 ?_
                simp only [Act.put, List.setIfInBounds_toArray, List.set_cons_zero, List.set_cons_succ]
                refine wpAnyH_take (i := 66) (v := .bool false) rfl (by kernel_rfl) (by kernel_rfl) (by kernel_rfl) (fun _ _ _ h => h) (Or.inl ⟨by kernel_rfl, fun W hW => by rw [HSD.out] at hW; obtain ⟨s1, s5, s7, s3⟩ := hW; go_simp⟩) hS6 ?_
                simp only [Act.put, List.setIfInBounds_toArray, List.set_cons_zero, List.set_cons_succ]
                refine wpAnyH_take (i := 67) (v := .bool false) rfl (by kernel_rfl) (by kernel_rfl) (by kernel_rfl) (fun _ _ _ h => h) (Or.inl ⟨by kernel_rfl, fun W hW => by rw [HSD.out] at hW; obtain ⟨s1, s5, s7, s3⟩ := hW; go_simp⟩) hS6 ?_
                simp only [Act.put, List.setIfInBounds_toArray, List.set_cons_zero, List.set_cons_succ]
                refine wpAnyH_done (by kernel_rfl) ?_ _
                have HR2 := Lib.hid (HR.out.below HB9.out)
                clear HR HX HA HC HD HKeep HSD z8 W5 W7 W3 T5 T7 T3 T8 U8
                go_wp2
                go_roundw
                case rel => exact ⟨i + 1, by omega, by go_num, HR2⟩
                case measure => simp [intOf]; omega
              · have z8 : ((j8 : Int) == 0) = false := by simp; omega
                clear hz
                refine wpAnyH_take (i := 52) (v := .bool false) rfl (by kernel_rfl) (by kernel_rfl) (by kernel_rfl) (fun _ _ _ h => h) (Or.inl ⟨by kernel_rfl, fun W hW => by rw [HSD.out] at hW; obtain ⟨s1, s5, s7, s3⟩ := hW; go_simp⟩) hS5 ?_
                simp only [Act.put, List.setIfInBounds_toArray, List.set_cons_zero, List.set_cons_succ]
                refine wpAnyH_take (i := 53) (v := .bool false) rfl (by kernel_rfl) (by kernel_rfl) (by kernel_rfl) (fun _ _ _ h => h) (Or.inl ⟨by kernel_rfl, fun W hW => by rw [HSD.out] at hW; obtain ⟨s1, s5, s7, s3⟩ := hW; go_simp⟩) hS5 ?_
                simp only [Act.put, List.setIfInBounds_toArray, List.set_cons_zero, List.set_cons_succ]
                refine wpAnyH_take (i := 54) (v := undef) rfl (by kernel_rfl) (by kernel_rfl) (by kernel_rfl) (fun _ _ _ h => h) (Or.inr ⟨by kernel_rfl, rfl⟩) hS5 ?_
                simp only [Act.put, List.getElem_toArray, List.getElem_cons_succ, List.getElem_cons_zero, List.setIfInBounds_toArray, List.set_cons_zero, List.set_cons_succ]
                refine wpAnyH_take (i := 55) (v := undef) rfl (by kernel_rfl) (by kernel_rfl) (by kernel_rfl) (fun _ _ _ h => h) (Or.inr ⟨by kernel_rfl, rfl⟩) hS5 ?_
                simp only [Act.put, List.getElem_toArray, List.getElem_cons_succ, List.getElem_cons_zero, List.setIfInBounds_toArray, List.set_cons_zero, List.set_cons_succ]
                refine wpAnyH_take (i := 56) (v := undef) rfl (by kernel_rfl) (by kernel_rfl) (by kernel_rfl) (fun _ _ _ h => h) (Or.inr ⟨by kernel_rfl, rfl⟩) hS5 ?_
                simp only [Act.put, List.getElem_toArray, List.getElem_cons_succ, List.getElem_cons_zero, List.setIfInBounds_toArray, List.set_cons_zero, List.set_cons_succ]
                refine wpAnyH_take (i := 57) (v := undef) rfl (by kernel_rfl) (by kernel_rfl) (by kernel_rfl) (fun _ _ _ h => h) (Or.inr ⟨by kernel_rfl, rfl⟩) hS5 ?_
                simp only [Act.put, List.getElem_toArray, List.getElem_cons_succ, List.getElem_cons_zero, List.setIfInBounds_toArray, List.set_cons_zero, List.set_cons_succ]
                refine wpAnyH_take (i := 58) (v := undef) rfl (by kernel_rfl) (by kernel_rfl) (by kernel_rfl) (fun _ _ _ h => h) (Or.inr ⟨by kernel_rfl, rfl⟩) hS5 ?_
                simp only [Act.put, List.getElem_toArray, List.getElem_cons_succ, List.getElem_cons_zero, List.setIfInBounds_toArray, List.set_cons_zero, List.set_cons_succ]
                refine wpAnyH_take (i := 59) (v := undef) rfl (by kernel_rfl) (by kernel_rfl) (by kernel_rfl) (fun _ _ _ h => h) (Or.inr ⟨by kernel_rfl, rfl⟩) hS5 ?_
                simp only [Act.put, List.getElem_toArray, List.getElem_cons_succ, List.getElem_cons_zero, List.setIfInBounds_toArray, List.set_cons_zero, List.set_cons_succ]
                refine wpAnyH_take (i := 60) (v := undef) rfl (by kernel_rfl) (by kernel_rfl) (by kernel_rfl) (fun _ _ _ h => h) (Or.inr ⟨by kernel_rfl, rfl⟩) hS5 ?_
                simp only [Act.put, List.getElem_toArray, List.getElem_cons_succ, List.getElem_cons_zero, List.setIfInBounds_toArray, List.set_cons_zero, List.set_cons_succ]
                refine wpAnyH_take (i := 61) (v := undef) rfl (by kernel_rfl) (by kernel_rfl) (by kernel_rfl) (fun _ _ _ h => h) (Or.inr ⟨by kernel_rfl, rfl⟩) hS5 ?_
                simp only [Act.put, List.getElem_toArray, List.getElem_cons_succ, List.getElem_cons_zero, List.setIfInBounds_toArray, List.set_cons_zero, List.set_cons_succ]
                refine wpAnyH_take (i := 62) (v := undef) rfl (by kernel_rfl) (by kernel_rfl) (by kernel_rfl) (fun _ _ _ h => h) (Or.inr ⟨by kernel_rfl, rfl⟩) hS5 ?_
                simp only [Act.put, List.getElem_toArray, List.getElem_cons_succ, List.getElem_cons_zero, List.setIfInBounds_toArray, List.set_cons_zero, List.set_cons_succ]
                refine wpAnyH_take (i := 63) (v := undef) rfl (by kernel_rfl) (by kernel_rfl) (by kernel_rfl) (fun _ _ _ h => h) (Or.inr ⟨by kernel_rfl, rfl⟩) hS5 ?_
                simp only [Act.put, List.getElem_toArray, List.getElem_cons_succ, List.getElem_cons_zero, List.setIfInBounds_toArray, List.set_cons_zero, List.set_cons_succ]
                refine wpAnyH_take (i := 64) (v := undef) rfl (by kernel_rfl) (by kernel_rfl) (by kernel_rfl) (fun _ _ _ h => h) (Or.inr ⟨by kernel_rfl, rfl⟩) hS5 ?_
                simp only [Act.put, List.getElem_toArray, List.getElem_cons_succ, List.getElem_cons_zero, List.setIfInBounds_toArray, List.set_cons_zero, List.set_cons_succ]
                refine wpAnyH_take (i := 65) (v := undef) rfl (by kernel_rfl) (by kernel_rfl) (by kernel_rfl) (fun _ _ _ h => h) (Or.inr ⟨by kernel_rfl, rfl⟩) hS5 ?_
                simp only [Act.put, List.getElem_toArray, List.getElem_cons_succ, List.getElem_cons_zero, List.setIfInBounds_toArray, List.set_cons_zero, List.set_cons_succ]
                refine wpAnyH_take (i := 66) (v := .bool false) rfl (by kernel_rfl) (by kernel_rfl) (by kernel_rfl) (fun _ _ _ h => h) (Or.inl ⟨by kernel_rfl, fun W hW => by rw [HSD.out] at hW; obtain ⟨s1, s5, s7, s3⟩ := hW; go_simp⟩) hS5 ?_
                simp only [Act.put, List.setIfInBounds_toArray, List.set_cons_zero, List.set_cons_succ]
                refine wpAnyH_take (i := 67) (v := .bool false) rfl (by kernel_rfl) (by kernel_rfl) (by kernel_rfl) (fun _ _ _ h => h) (Or.inl ⟨by kernel_rfl, fun W hW => by rw [HSD.out] at hW; obtain ⟨s1, s5, s7, s3⟩ := hW; go_simp⟩) hS5 ?_
                simp only [Act.put, List.setIfInBounds_toArray, List.set_cons_zero, List.set_cons_succ]
                refine wpAnyH_done (by kernel_rfl) ?_ _
                have HR2 := Lib.hid (HR.out.below HB8.out)
                clear HR HX HA HC HD HKeep HSD z8 W5 W7 W3 T5 T7 T3 T8 U8
                go_wp2
                go_roundw
                case rel => exact ⟨i + 1, by omega, by go_num, HR2⟩
                case measure => simp [intOf]; omega
        · obtain rfl : i = 64 := by omega
          simp only [Int.cast_ofNat_Int]
          have hB := HR.out.bel
          have hsz := hB.size
          have HBl := Lib.hid hB
          clear hlt HR hB
          go_wp2_with fail
          refine (polyTwo.walk S _ none [] 0 (Bytes.nil _ _) (by simp) (by omega) none [] 0 (Bytes.nil _ _) (by simp) (by omega)).mono ?_
          rintro e v1 ⟨rfl, hb1⟩
          have HB1 := Lib.hid (HBl.out.trans (hb1.mono hsz))
          clear hb1
          have hz1 := HB1.out.size
          go_wp2_with fail
          refine (polyThrough.walk S _ none [] 0 (Bytes.nil _ _) (by simp) (by omega) none [] 0 (Bytes.nil _ _) (by simp) (by omega) none [] 0 (Bytes.nil _ _) (by simp) (by omega) 0 (by omega)).mono ?_
          rintro e v2 ⟨rfl, hb2⟩
          have HB2 := Lib.hid (HB1.out.trans (hb2.mono hz1))
          clear hb2
          have hz2 := HB2.out.size
          go_wp2_with fail
          refine (polyThrough.walk S _ (some ⟨v2.heap.size, 0, none⟩) [1] 1 (lit_bytes v2 [1] _ rfl (by decide)) (by simp) (by omega) none [] 0 (Bytes.nil _ _) (by simp) (by omega) none [] 0 (Bytes.nil _ _) (by simp) (by omega) 1 (by omega)).mono ?_
          rintro e v3 ⟨rfl, hb3⟩
          have HB3 := Lib.hid ((HB2.out.alloc hz2 _).trans (hb3.mono (by simp; omega)))
          clear hb3
          have hz3 := HB3.out.size
          have hl1 : Bytes ((v3.alloc (.cells #[.int .u8 1, .int .u8 2, .int .u8 1] 5)).alloc (.cells #[.int .u8 1, .int .u8 2, .int .u8 1] 5)) (some ⟨v3.heap.size, 0, none⟩) [1, 2, 1] := (lit_bytes v3 [1, 2, 1] _ rfl (by decide)).alloc _
          have hl2 : Bytes ((v3.alloc (.cells #[.int .u8 1, .int .u8 2, .int .u8 1] 5)).alloc (.cells #[.int .u8 1, .int .u8 2, .int .u8 1] 5)) (some ⟨v3.heap.size + 1, 0, none⟩) [1, 2, 1] := by
            have := lit_bytes (v3.alloc (.cells #[.int .u8 1, .int .u8 2, .int .u8 1] 5)) [1, 2, 1] #[.int .u8 1, .int .u8 2, .int .u8 1] rfl (by decide)
            rwa [World.size_alloc] at this
          go_wp2_with fail
          refine (polyThrough.walk S _ (some ⟨v3.heap.size, 0, none⟩) [1, 2, 1] 3 hl1 (by simp) (by omega) (some ⟨v3.heap.size + 1, 0, none⟩) [1, 2, 1] 3 hl2 (by simp) (by omega) none [] 0 (Bytes.nil _ _) (by simp) (by omega) 1 (by omega)).mono ?_
          rintro e v4 ⟨rfl, hb4⟩
          have HB4 := Lib.hid (((HB3.out.alloc hz3 _).alloc (by simp; omega) _).trans (hb4.mono (by simp; omega)))
          clear hb4 hl1 hl2
          have hz4 := HB4.out.size
          go_wp2_with fail
          refine (polyOnly.walk S _ none [] 0 (Bytes.nil _ _) (by simp) (by omega) none [] 0 (Bytes.nil _ _) (by simp) (by omega) none [] 0 (Bytes.nil _ _) (by simp) (by omega)).mono ?_
          rintro e v5 ⟨rfl, hb5⟩
          have HB5 := Lib.hid (HB4.out.trans (hb5.mono hz4))
          clear hb5
          have hz5 := HB5.out.size
          go_wp2_with fail
          refine (polyRoots.walk S _ none [] 0 (Bytes.nil _ _) (by simp) (by omega) none [] 0 (Bytes.nil _ _) (by simp) (by omega)).mono ?_
          rintro e v6 ⟨rfl, hb6⟩
          have HB6 := Lib.hid (HB5.out.trans (hb6.mono hz5))
          clear hb6
          have hz6 := HB6.out.size
          go_wp2_with fail
          refine (works_calls S _).mono ?_
          rintro e v7 ⟨rfl, hb7⟩
          have HB7 := Lib.hid (HB6.out.trans (hb7.mono hz6))
          clear hb7
          go_wp2
          go_ret
          exact ⟨rfl, HB7.out⟩
end Go.Proofs.Ytkchofhdhkgbnaa.polyKnown
