/- The walk of ReedTight. -/
import Derived.Test.YtjpbdbgihakpmaaRdLaw2
namespace Go.Proofs.Ytjpbdbgihakpmaa.reedTight
open Go.RowKit F8 GF Poly Rd

/-- Truths as values. -/
def tv (l : List Bool) : List Value := l.map fun b => Value.bool b
theorem tv_length (l : List Bool) : (tv l).length = l.length := by simp [tv]
theorem info_b : (Try.prog.info? 4).map (fun i => (i.zero, i.size, i.bytes)) = some (some (.bool false), 1, 1) := by kernel_rfl
theorem made_bools (n : Nat) : (madeCells (Value.bool false).cells (n * 1)).toList = tv (List.replicate n false) := by
  apply List.ext_getElem
  · simp [madeCells, tv]
  · intro i h1 h2
    simp [madeCells, tv, Value.cells, Nat.mod_one]
theorem make_bools (w : World) (n : Nat) (hn : n ≤ 1000000000) :
    ∃ w', (Instr.makeSlice 61 (.int .i64 (n : Int)) (.int .i64 (n : Int))).run Try.prog w = .ok (.slice (some ⟨w.heap.size, 0, none⟩) n n) w' ∧ Own w' w.heap.size 4 (.slice (some ⟨w.heap.size, 0, none⟩) n n) (tv (List.replicate n false)) ∧ Below w.heap.size w w' := by
  obtain ⟨i0, hi, hi1, hi2, hi3⟩ := info_parts info_b
  obtain ⟨w1, hmk, ho, hg⟩ := run_make_full (P := Try.prog) w w.heap.size 61 4 i0 _ 1 Try.underlying61 hi hi1 hi2 .i64 .i64 n (by rw [hi3]; omega) (by simp only [maxLen]; omega) (Nat.le_refl _)
  rw [made_bools] at ho
  refine ⟨w1, hmk, ?_, (Below.refl w.heap.size w).grown hg (Nat.le_refl _) (fun _ h => by cases h)⟩
  unfold Own; rw [tv_length, List.length_replicate]; exact ho
/-- Which of the first N are among these. -/
def inl (N : Nat) (pl : List Int) : List Bool := (List.range N).map fun i : Nat => decide ((i : Int) ∈ pl)
theorem inl_length (N : Nat) (pl : List Int) : (inl N pl).length = N := by simp [inl]
theorem inl_nil (N : Nat) : inl N [] = List.replicate N false := by simp [inl, List.map_const']
theorem inl_snoc {N : Nat} (pl : List Int) {x : Nat} (_hx : x < N) : (tv (inl N pl)).set x (.bool true) = tv (inl N (pl ++ [(x : Int)])) := by
  apply List.ext_getElem
  · simp [tv, inl]
  · intro i h1 h2
    rw [List.getElem_set]
    by_cases e : x = i
    · subst e; simp [tv, inl]
    · have e2 : ¬ ((i : Int) = (x : Int)) := by omega
      simp [e, e2, tv, inl]
set_option maxRecDepth 100000 in
set_option maxHeartbeats 8000000 in
theorem core (S : Poly.Spec) (w : World) (n0 n1 : Nat) (h0 : n0 < 256) (h1 : n1 < 256) (bits : Nat) :
    Calls Try.prog 9 #[.int .u8 (n0 : Nat), .int .u8 (n1 : Nat), .int .u64 (bits : Nat)] w fun e w' => e = .returned (.bool true) ∧ Below w.heap.size w w' := by
  obtain ⟨N, hN⟩ : ∃ N : Nat, 1 + n0 % 20 = N := ⟨_, rfl⟩
  obtain ⟨K, hK⟩ : ∃ K : Nat, 1 + n1 % 20 = K := ⟨_, rfl⟩
  obtain ⟨k, hk⟩ : ∃ k : Nat, n1 % 20 = k := ⟨_, rfl⟩
  have eN : (1 : Int) + (n0 : Int) % 20 = (N : Int) := by omega
  have eK : (1 : Int) + (n1 : Int) % 20 = (K : Int) := by omega
  have hN20 : N ≤ 20 := by omega
  have hK20 : K ≤ 20 := by omega
  have hKk : K = k + 1 := by omega
  have eKk : (K : Int) - 1 = (k : Int) := by omega
  have HKk := Lib.hid hKk
  clear hN hK hk hKk
  go_enter Try.func9, Try.ntmps9
  go_wp2_with fail
  refine (reed_calls N K (by omega) (by have := HKk.out; omega) w).mono ?_
  clear eN eK h0 h1
  rintro e w1 hKR
  rcases hKR.start with ⟨hkn, b, A, c, rfl, -, -, HN⟩ | ⟨-, rfl, HBz⟩
  rotate_left
  · clear hKR
    go_wp2_with (go_at_call 24; (with_reducible refine (works_calls S _).mono ?_); rintro e wz ⟨rfl, HZ⟩)
    go_ret
    exact ⟨rfl, HBz.trans (HZ.mono HBz.size)⟩
  have HR := Lib.hid HN
  clear hKR HN
  -- xs := c.Points()
  go_wp2_with fail
  refine (points_calls HR.out.cd).mono ?_
  rintro e w2 ⟨A2, c2, rfl, hc2, hO2, hB2⟩
  have HR2 := Lib.hid (HR.out.made (pts_length N) hO2 hB2)
  clear hO2 hB2 HR
  -- l := Some(bits, len(xs), c.K()-1)
  go_wp2_with fail
  refine (k_calls HR2.out.cd).mono ?_
  rintro e w3 ⟨rfl, rfl⟩
  go_wp2_with fail
  refine (some_calls bits N k (by omega) (by omega) w2).mono ?_
  rintro e w4 ⟨l, A4, c4, hok, hlm, rfl, hc4, hO4, hB4⟩
  obtain ⟨L, hL⟩ : ∃ L, l.length = L := ⟨_, rfl⟩
  rw [hL] at hlm hc4 hO4 ⊢
  have HL := Lib.hid hL
  have HOK := Lib.hid hok
  have HR4 := Lib.hid (HR2.out.below hB4)
  have HRow4 := Lib.hid (own_row hO4)
  have hz4 := HR4.out.kw.glt
  clear hL hok hO4 hB4 HR2
  go_wp2_with fail
  refine (k_calls HR4.out.cd).mono ?_
  rintro e w5 ⟨rfl, rfl⟩
  by_cases hLk : L < k
  · have hLk2 : (L : Int) < (k : Int) := by omega
    go_wp2_with (go_at_call 24; (with_reducible refine (works_calls S _).mono ?_); rintro e wz ⟨rfl, HZ⟩)
    go_ret
    exact ⟨rfl, (HR4.out.kw.below HZ).bel⟩
  obtain rfl : L = k := by omega
  obtain ⟨w5, hmk, hO5, hB5⟩ := make_bools w4 N (by omega)
  have HO5 := Lib.hid hO5
  have hgb := hO5.blk
  clear hO5 hLk
  go_wp2_with fail
  go_loopw [10, 12] (fun u i wr => ∃ t : Nat, t ≤ L ∧ i = .int .i64 t ∧ Hid (Own wr w4.heap.size 5 u (bv (bs (ptsAt (pts N) (l.take t))))) ∧ Hid (Own wr w4.heap.size 4 (.slice (some ⟨w4.heap.size, 0, none⟩) N N) (tv (inl N (l.take t)))) ∧ Hid (Below w4.heap.size w4 wr)) (fun _ i _ => L - (intOf i).toNat)
  case atStart => exact ⟨0, by omega, rfl, Lib.hid (by rw [List.take_zero]; exact Own.nil _ _ _), Lib.hid (by rw [List.take_zero, inl_nil]; exact HO5.out), Lib.hid hB5⟩
  case round =>
    obtain ⟨t, ht, rfl, HU, HV, HW⟩ := hrel
    have hsz := HW.out.size
    by_cases htL : t < L
    · have hsl : t < l.length := by rw [HL.out]; exact htL
      obtain ⟨bl, ol, rfl, hcell⟩ := zs_at (HRow4.out.below HW.out) hsl
      have hin := HOK.out.1 l[t] (List.getElem_mem hsl)
      have HT1 : Hid (l.take (t + 1) = l.take t ++ [l[t]]) := Lib.hid (take_succ' l hsl)
      obtain ⟨xz, hxz⟩ : ∃ xz, l[t] = xz := ⟨_, rfl⟩
      rw [hxz] at hcell hin HT1
      obtain ⟨x, rfl⟩ : ∃ x : Nat, xz = (x : Int) := ⟨xz.toNat, by omega⟩
      have hxN : (x : Int) < (N : Int) := by omega
      have hxw : x < (pts N).length := by rw [pts_length]; omega
      have hbw := (HR4.out.below HW.out).kw.bytes (A := A2) (p := pts N) (by simp)
      obtain ⟨bw, ow, rfl⟩ := where_ hbw (by omega)
      have hcw := cellAt hbw x hxw
      obtain ⟨yv, hyv⟩ : ∃ yv, coef (pts N) x = yv := ⟨_, rfl⟩
      have HU1 : Hid (bv (bs (ptsAt (pts N) (l.take t))) ++ bv [yv.n] = bv (bs (ptsAt (pts N) (l.take (t + 1))))) := Lib.hid (by
        rw [HT1.out, ptsAt_app, bvs_snoc, Int.toNat_natCast, hyv])
      have HLU : Hid ((bv (bs (ptsAt (pts N) (l.take t)))).length ≤ 20) := Lib.hid (by rw [bvs_length, ptsAt_length, List.length_take]; omega)
      rw [hyv] at hcw
      have HX := Lib.hid hxz
      clear hxz hyv hin hbw
      go_wp2_with (at_builtin; refine wpList_app _ rfl _ _ _ rfl w4.heap.size 5 _ 1 Try.underlying22 info_u8 rfl (by omega) _ _ rfl (HU.out.alloc _) (some ⟨wr.heap.size, 0, none⟩) 1 1 (bv [yv.n]) rfl rfl (Row.new _ _ _ _) (bv_one _) (by have := HLU.out; omega) (by simp; omega) ?_; rintro v2 w6 hown hg6 -
                   have hBw6 := (HW.out.alloc hsz (.cells #[.int .u8 (yv.n : Nat)] 5)).trans ((HU.out.alloc _).grew (by simp; omega) hg6)
                   rw [HU1.out] at hown
                   have HU6 := Lib.hid hown
                   have HV6 := Lib.hid (own_other (HV.out.alloc _) (HU.out.alloc _) (by decide) hg6)
                   have HW6 := Lib.hid hBw6
                   have hcell6 : w6.cell? ⟨bl, ol + t, none⟩ = some (.int .i64 (x : Int)) := by rw [cellI (HRow4.out.below hBw6) hsl, HX.out]
                   have hxv : x < (tv (inl N (l.take t))).length := by rw [tv_length, inl_length]; omega
                   have hcv6 := HV6.out.cellAt (by rw [tv_length, inl_length]) x hxv
                   have hfv6 := HV6.out.frozenAt (by rw [tv_length, inl_length]) x
                   obtain ⟨bx, hbx⟩ : ∃ bx, (tv (inl N (l.take t)))[x] = .bool bx := ⟨(inl N (l.take t))[x]'(by rw [inl_length]; omega), by simp [tv]⟩
                   rw [hbx] at hcv6
                   clear hown hg6 hBw6 hbx)
      have HV7 := Lib.hid (HV6.out.set_ (by rw [tv_length, inl_length]) x (.bool true))
      rw [inl_snoc _ (by omega), ← HT1.out] at HV7
      have HU7 := Lib.hid (own_other HU6.out HV6.out (by decide) (grown_set w6 ⟨w4.heap.size, x, none⟩ (.bool true)))
      have HW7 := Lib.hid (HW6.out.setCell (p := ⟨w4.heap.size, x, none⟩) (Nat.le_refl _) (.bool true))
      go_roundw
      case rel => exact ⟨t + 1, by omega, by go_num, HU7, HV7, HW7⟩
      case measure => simp [intOf]; omega
    · obtain rfl : t = L := by omega
      have htk : l.take t = l := List.take_of_length_le (by rw [HL.out]; exact Nat.le_refl _)
      rw [htk] at HU HV
      obtain ⟨at_, hat⟩ : ∃ at_, ptsAt (pts N) l = at_ := ⟨_, rfl⟩
      have hatl : at_.length = t := by rw [← hat, ptsAt_length, HL.out]
      rw [hat] at HU
      obtain ⟨A5, c5, rfl, hc5⟩ := Own.shape HU.out
      rw [hatl] at HU hc5 ⊢
      have HAT := Lib.hid hat
      have HATL := Lib.hid hatl
      obtain ⟨w6, hw6⟩ : ∃ w6, wr = w6 := ⟨_, rfl⟩
      rw [hw6] at HU HV HW hsz ⊢
      have HR6 := Lib.hid (HR4.out.below HW.out)
      clear hat hatl htk HW HRow4 hw6
      go_wp2_with fail
      refine (newS _ (St.refl w6)).mono ?_
      rintro e w7 ⟨rfl, HN⟩
      have HS7 := Lib.hid (((W.start HN).arg (Own.bytes HU.out)))
      clear HN
      go_wp2_with fail
      obtain ⟨r, hr⟩ : ∃ r, trim (roots at_) = r := ⟨_, rfl⟩
      have hrl : r.length = K := by rw [← hr, tight_length, HATL.out, HKk.out]
      refine (S.rootsP A5 at_ t c5 w7 HATL.out (HS7.out.bytes (by simp)) hc5 (by omega) _ HS7.out.fld (HS7.out.far (A := A5) (p := at_) (by simp))).mono ?_
      rintro e w8 ⟨A8, c8, rfl, hc8, hO8, hF8, hP8⟩
      rw [hr] at hc8 hO8 ⊢
      rw [hrl] at hc8 hO8 ⊢
      have hP8' : Past w7.heap.size w6.heap.size w7 w8 := hP8
      have hB8 : Below w6.heap.size w6 w8 := HS7.out.bel.trans (hP8'.below' (Nat.le_refl _) HS7.out.bel.size)
      have HR8 := Lib.hid ((HR6.out.below hB8).own (p := r) (by rw [hrl]; exact hO8) (by have := HS7.out.bel.size; omega))
      have HV8 := Lib.hid (HV.out.below hB8)
      have HRt := Lib.hid hr
      have HRL := Lib.hid hrl
      clear hr hrl hO8 hF8 hP8 hP8' hB8 HS7 HV HU HR6
      go_wp2_with fail
      obtain ⟨wd, hwd⟩ : ∃ wd, word r (pts N) = wd := ⟨_, rfl⟩
      have hwl : wd.length = N := by rw [← hwd, word_length, pts_length]
      have HWD := Lib.hid hwd
      have HWL := Lib.hid hwl
      have hen : encR (pts N) K r = (wd, 0) := by rw [← hwd]; exact if_pos HRL.out
      have hP9 := encode_calls S HR8.out.cd A8 r K c8 HRL.out (HR8.out.kw.bytes (by simp)) hc8 (by omega) (HR8.out.kw.far (by simp))
      rw [hen] at hP9
      refine hP9.mono ?_
      rintro e w9 ⟨A9, c9, rfl, hc9, hO9, hF9, hP9'⟩
      have hP9'' : Past w8.heap.size w.heap.size w8 w9 := hP9'
      have HR9 := Lib.hid ((HR8.out.past hF9 hP9'').own hO9 HR8.out.kw.glt)
      have HV9 := Lib.hid (own_past HV8.out hz4 hP9'')
      change wd.length ≤ c9 at hc9
      rw [HWL.out] at hc9
      simp only [HWL.out]
      clear hwd hwl hen hP9 hO9 hF9 hP9' hP9'' HR8 HV8
      go_wp2_with fail
      go_loopw [15] (fun i wr => ∃ s : Nat, s ≤ N ∧ i = .int .i64 s ∧ Hid (Below w9.heap.size w9 wr)) (fun i _ => N - (intOf i).toNat)
      case atStart => exact ⟨0, by omega, rfl, Lib.hid (Below.refl _ _)⟩
      case round =>
        obtain ⟨s, hs, rfl, HW⟩ := hrel
        by_cases hsN : s < N
        · have hbw := (HR9.out.below HW.out).kw.bytes (A := A9) (p := wd) (by simp)
          obtain ⟨bw, ow, rfl⟩ := where_ hbw (by rw [HWL.out]; omega)
          have hcw := cellAt hbw s (by rw [HWL.out]; exact hsN)
          have hxv : s < (tv (inl N l)).length := by rw [tv_length, inl_length]; omega
          have hcv := (HV9.out.below HW.out).cellAt (by rw [tv_length, inl_length]) s hxv
          have hin : (tv (inl N l))[s] = .bool (decide ((s : Int) ∈ l)) := by simp [tv, inl]
          rw [hin] at hcv
          have hpl : s < (pts N).length := by rw [pts_length]; exact hsN
          have hiff : coef wd s = 0 ↔ (s : Int) ∈ l := by
            rw [← HWD.out, word_get hpl, ← HRt.out, Rd.tight, ← HAT.out]
            exact mem_ptsAt (pts_nodup (by omega)) (by rw [pts_length]; exact HOK.out) hpl
          obtain ⟨x, hx⟩ : ∃ x, coef wd s = x := ⟨_, rfl⟩
          rw [hx] at hcw hiff
          have HW2 := Lib.hid (HW.out.trans (Below.refl _ wr).drew)
          clear hx hbw hin hxv hpl
          by_cases hx0 : x = 0
          · have hd : decide ((s : Int) ∈ l) = true := decide_eq_true (hiff.1 hx0)
            rw [hd] at hcv
            have hb1 : ((x.n : Int) == 0) = true := by rw [hx0]; rfl
            clear hd hx0 hiff
            go_wp2_with fail
            go_region
            go_wp2
            go_roundw
            case rel => exact ⟨s + 1, by omega, by go_num, HW2⟩
            case measure => simp [intOf]; omega
          · have hd : decide ((s : Int) ∈ l) = false := decide_eq_false (fun h => hx0 (hiff.2 h))
            rw [hd] at hcv
            have hb1 : ((x.n : Int) == 0) = false := by
              have : x.n ≠ 0 := fun e => hx0 (F8.ext e)
              simp; omega
            clear hd hx0 hiff
            go_wp2_with fail
            go_region
            go_wp2
            go_roundw
            case rel => exact ⟨s + 1, by omega, by go_num, HW2⟩
            case measure => simp [intOf]; omega
        · obtain rfl : s = N := by omega
          have HRz := Lib.hid (HR9.out.below HW.out)
          go_wp2_with (go_at_call 24; (with_reducible refine (works_calls S _).mono ?_); rintro e wz ⟨rfl, HZ⟩)
          go_ret
          exact ⟨rfl, (HRz.out.kw.below HZ).bel⟩
theorem walk (S : Poly.Spec) (w : World) (n0 : Nat) (hn0 : n0 < 256) (n1 : Nat) (hn1 : n1 < 256) (n2 : Nat) (_hn2 : n2 < 18446744073709551616) :
    Calls Try.prog 9 #[.int .u8 (n0 : Nat), .int .u8 (n1 : Nat), .int .u64 (n2 : Nat)] w fun e w' => e = .returned (.bool true) ∧ Below w.heap.size w w' :=
  core S w n0 n1 hn0 hn1 n2
end Go.Proofs.Ytjpbdbgihakpmaa.reedTight
