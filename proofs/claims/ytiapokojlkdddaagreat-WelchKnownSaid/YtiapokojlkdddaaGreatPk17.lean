/- Of the program and its document, joined: RdDecode, RdKit, PolyWorks. -/
import Derived.Test.YtiapokojlkdddaaGreatPk16
import Derived.Deep.RegionHeld
import Derived.Test.YtiapokojlkdddaaGreatPk12
import Derived.Test.YtiapokojlkdddaaGreatPk09
/- What the program's Decode does. -/
namespace Go.Proofs.YtiapokojlkdddaaGreat.Rd
open Go.RowKit Go.Shelf F8 Poly GF
attribute [local go_sem] Oper.semAt_some

theorem Cd.c0 {w : World} {b g : Nat} {A : Option Addr} {xs : List F8} {n c k : Nat} (h : Cd w b g A xs n c k) : w.cell? ⟨b, 0, none⟩ = some (.pointer (some ⟨g, 0, none⟩)) := h.blk.cell 0
theorem Cd.c2 {w : World} {b g : Nat} {A : Option Addr} {xs : List F8} {n c k : Nat} (h : Cd w b g A xs n c k) : w.cell? ⟨b, 2, none⟩ = some (.int .i64 k) := h.blk.cell 2
theorem far_part {g : Nat} {A A2 : Option Addr} {p q : List F8} (h : Far (some ⟨g, 0, none⟩) A p) (hs : ∀ a, A2 = some a → ∃ a0, A = some a0 ∧ a0.block = a.block) (hq : q ≠ [] → p ≠ []) : Far (some ⟨g, 0, none⟩) A2 q := fun hq0 a b ha hb => by
  obtain ⟨a0, h1, h2⟩ := hs a ha
  have := h (hq hq0) a0 b h1 hb
  rw [← h2]; exact this
theorem take_ne {p : List F8} {k : Nat} (h : p.take k ≠ []) : p ≠ [] := fun e => h (by rw [e]; simp)
theorem drop_ne {p : List F8} {k : Nat} (h : p.drop k ≠ []) : p ≠ [] := fun e => h (by rw [e]; simp)
/-- What Decode gives. -/
def PDec (g : Nat) (w : World) (xs : List F8) (k : Nat) (pl : List Int) (ys : List F8) (e : Ending) (w' : World) : Prop := ∃ l n, DecIs xs k pl ys l n ∧ PolyResE (some ⟨g, 0, none⟩) w w' e l n
set_option maxRecDepth 100000 in
set_option maxHeartbeats 8000000 in
theorem decode_calls (S : Poly.Spec) {w : World} {b g : Nat} {A : Option Addr} {xs : List F8} {n c k : Nat} (h : Cd w b g A xs n c k) (B : Option Addr) (pl : List Int) (m d : Nat) (hl : pl.length = m) (hr : Row w B (zs pl)) (hm : m ≤ 1000)
    (C : Option Addr) (ys : List F8) (o e : Nat) (ho : ys.length = o) (hb2 : Bytes w C (bs ys)) (hoe : o ≤ e) (ho2 : o ≤ 1000) (hfar : Far (some ⟨g, 0, none⟩) C ys) :
    Calls Tryz.prog 54 #[.pointer (some ⟨b, 0, none⟩), .slice B m d, .slice C o e] w (PDec g w xs k pl ys) := by
  have h0 := h.blk.cell 0
  have h1 := h.blk.cell 1
  have h2 := h.blk.cell 2
  simp only [codeC] at h0 h1 h2
  have HC := Lib.hid h
  have n256 := h.n256
  have hkn := h.kn
  have HR := Lib.hid hr
  have HB2 := Lib.hid hb2
  have HM := Lib.hid hl
  have HO := Lib.hid ho
  have HFar := Lib.hid hfar
  clear hr hb2 hfar h
  by_cases hmo : m = o
  · have k1 : ((m : Int) != (o : Int)) = false := by simp; omega
    have HMO := Lib.hid hmo
    have hv := have_calls A n c n256 B pl m d w HM.out HR.out (by omega)
    by_cases hok : OkP n pl
    · rw [decide_eq_true hok] at hv
      have hok3 : pl.length = ys.length ∧ OkP xs.length pl := ⟨by omega, by rw [HC.out.len]; exact hok⟩
      have HOK := Lib.hid hok3
      have HOK2 := Lib.hid hok
      have HPN := Lib.hid (ptsAt_nodup HC.out.nd hok3.2)
      have HPL := Lib.hid (ptsAt_length xs pl)
      have HV := Lib.hid hv
      by_cases hmk : m < k
      · have HX : Hid (DecIs xs k pl ys [] 70) := Lib.hid (.inr (.inl ⟨hok3, by omega, rfl, rfl⟩))
        clear hok hok3 ho hl hv hmo
        go_enter Tryz.func54, Tryz.ntmps54
        go_wp2_with (first
          | (go_at_call 91; refine (isNone_calls HC.out.blk HC.out.k1).mono ?_; rintro e w1 ⟨rfl, rfl⟩)
          | (go_at_call 98; refine HV.out.mono ?_; rintro e w2 ⟨rfl, hB2⟩; have HC2 := HC.out.below hB2; have h3 := HC2.blk.cell 2; simp only [codeC] at h3))
        go_ret2
        exact ⟨[], 70, HX.out, none, 0, rfl, Nat.le_refl _, Own.nil _ _ _, HC2.fld, Past.of_below hB2 _⟩
      · have HKM : Hid (k ≤ m) := Lib.hid (by omega)
        clear hok hok3 ho hl hv hmo
        go_enter Tryz.func54, Tryz.ntmps54
        go_wp2_with (first
          | (go_at_call 91; refine (isNone_calls HC.out.blk HC.out.k1).mono ?_; rintro e w1 ⟨rfl, rfl⟩)
          | (go_at_call 98; refine HV.out.mono ?_; rintro e w2 ⟨rfl, hB2⟩; have HC2 := Lib.hid (HC.out.below hB2); have HBW := Lib.hid hB2; have h3 := HC2.out.blk.cell 2; have h4 := HC2.out.blk.cell 1; simp only [codeC] at h3 h4; clear hB2))
        refine (at_calls A xs n c B pl m d _ HC2.out.len HC2.out.by_ (by omega) HM.out (HR.out.below HBW.out) (by omega) HOK2.out).mono ?_
        rintro e w3 ⟨A3, c3, rfl, hc3, hO3, hB3⟩
        obtain ⟨pts, hpts⟩ : ∃ pts, ptsAt xs pl = pts := ⟨_, rfl⟩
        rw [hpts] at HPN HPL hO3
        have HPT := Lib.hid hpts
        have HO3 := Lib.hid hO3
        have HC3 := Lib.hid (HC2.out.below hB3)
        have HBW3 := Lib.hid (HBW.out.trans (hB3.mono HBW.out.size))
        have hpm : pts.length = m := by rw [HPL.out, HM.out]
        have HPM := Lib.hid hpm
        have hby3 : Bytes w3 A3 (bs pts) := Own.bytes HO3.out
        have hfar3 : Far (some ⟨g, 0, none⟩) A3 pts := far_own HC3.out.fld.fld HO3.out
        have hys3 : Bytes w3 C (bs ys) := HB2.out.below HBW3.out
        obtain ⟨P1, hs1, hp1, hk1⟩ := slice_to hby3 c3 k (by omega) (by omega)
        have hko : k ≤ o := by have := HMO.out; have := HKM.out; omega
        obtain ⟨Y1, hs2, hy1, hk2⟩ := slice_to hys3 e k (by have := HO.out; omega) (by have := HO.out; omega)
        rw [hpm] at hs1
        rw [HO.out] at hs2
        have HCd := Lib.hid HC3.out.drew
        have HT := Lib.hid (through_calls S g P1 (pts.take k) k c3 Y1 (ys.take k) e w3.drew (by rw [List.length_take]; omega) hp1.drew (by omega) (by omega) (by rw [List.length_take, HO.out]; omega) hy1.drew (by omega) (HPN.out.sublist (List.take_sublist _ _)) HC3.out.drew.fld (far_part hfar3 hk1 take_ne) (far_part HFar.out hk2 take_ne))
        clear hB3 hpts hO3 hpm hby3 hfar3 hys3 hp1 hy1 hk1 hk2 HBW HC2 HC HV h0 h1 h2 h3 h4
        go_wp2_with fail
        have d0 := HCd.out.c0
        have d2 := HCd.out.c2
        go_region_held (fun wz => wz.cell? ⟨b, 0, none⟩ = some (.pointer (some ⟨g, 0, none⟩)) ∧ wz.cell? ⟨b, 2, none⟩ = some (.int .i64 (k : Int))) (exact ⟨HCd.out.c0, HCd.out.c2⟩)
          ((go_at_call 100; (with_reducible refine HT.out.mono ?_); rintro e w4 ⟨r, ht, A4, c4, rfl, hc4, hO4, hF4, hP4⟩; replace HCd := Lib.hid (HC3.out.drew.past hF4 hP4); have d0 := HCd.out.c0; have d2 := HCd.out.c2))
        all_goals
          have hp4 : Past w3.drew.heap.size g w3.drew w4 := hP4
          have hfl : (full r k).length = k := full_length r k
          have hrk : r.length ≤ k := by have := thru_length ht; rw [List.length_take] at this; omega
          have HWd : Hid (word (full r k) (pts.take k) = ys.take k) := Lib.hid (by rw [word_congr (full_eqv hrk)]; exact thru_word (by rw [List.length_take, List.length_take, HPM.out, HO.out]; omega) ht)
          obtain ⟨msg, hmsg⟩ : ∃ msg, full r k = msg := ⟨_, rfl⟩
          rw [hmsg] at hfl HWd hO4 hc4 ⊢
          have HFL := Lib.hid hfl
          rw [hfl] at hO4 hc4 ⊢
          have HO4 := Lib.hid hO4
          have HC4 := Lib.hid (HC3.out.drew.past hF4 hp4)
          have HPW4 : Hid (Past w.heap.size g w w4) := Lib.hid (((Past.of_below HBW3.out g).drew).trans (hp4.mono HBW3.out.size))
          have hO3' := own_keep HO3.out.drew HC3.out.drew.fld hp4
          have hby4 : Bytes w4 A3 (bs pts) := Own.bytes hO3'
          have hfar4 : Far (some ⟨g, 0, none⟩) A3 pts := far_own HC4.out.fld.fld hO3'
          have hys4 : Bytes w4 C (bs ys) := bytes_far HB2.out (fun hp a ha => HFar.out hp a _ ha rfl) HPW4.out
          have hmb : Bytes w4 A4 (bs msg) := Own.bytes HO4.out
          have hmf : Far (some ⟨g, 0, none⟩) A4 msg := far_own HC4.out.fld.fld HO4.out
          obtain ⟨P2, hs3, hp2, hk3⟩ := slice_from hby4 c3 k (by have := HPM.out; omega) (by have := HPM.out; omega)
          obtain ⟨Y2, hs4, hy2, hk4⟩ := slice_from hys4 e k (by have := HO.out; omega) (by have := HO.out; omega)
          rw [HPM.out] at hs3
          rw [HO.out] at hs4
          have HY2 := Lib.hid hy2
          have HYF : Hid (Far (some ⟨g, 0, none⟩) Y2 (ys.drop k)) := Lib.hid (far_part HFar.out hk4 drop_ne)
          replace HCd := Lib.hid HC4.out.drew
          have HVv := Lib.hid (values_calls S g A4 msg k c4 P2 (pts.drop k) (m - k) (c3 - k) w4.drew HFL.out hmb.drew hc4 (by omega) (by rw [List.length_drop, HPM.out]) hp2.drew (by omega) HC4.out.drew.fld hmf (far_part hfar4 hk3 drop_ne))
          have HLw : Hid ((word msg (pts.drop k)).length = m - k) := Lib.hid (by rw [word_length, List.length_drop, HPM.out])
          have HLy : Hid ((ys.drop k).length = o - k) := Lib.hid (by rw [List.length_drop, HO.out])
          clear hmsg hP4 hp4 hrk ht hfl hO4 hO3' hby4 hfar4 hys4 hmb hmf hp2 hk3 hk4 hy2 hs1 hs2 HT hF4 d0 d2
          by_cases hdec : word msg (pts.drop k) = ys.drop k
          · have HX : Hid (DecIs xs k pl ys msg 0) := Lib.hid (.inr (.inr (.inl ⟨HOK.out, by have := HM.out; have := HKM.out; omega, rfl, HFL.out, by rw [HPT.out]; exact split_ok HWd.out hdec⟩)))
            have HDc := Lib.hid hdec
            clear hdec
            go_wp2_with fail
            have d0 := HCd.out.c0
            have d2 := HCd.out.c2
            go_region_held (fun wz => wz.cell? ⟨b, 0, none⟩ = some (.pointer (some ⟨g, 0, none⟩)) ∧ wz.cell? ⟨b, 2, none⟩ = some (.int .i64 (k : Int))) (exact ⟨HCd.out.c0, HCd.out.c2⟩)
              ((first
                | (go_at_call 96; (with_reducible refine HVv.out.mono ?_); rintro e w5 ⟨A5, c5, rfl, hc5, hO5, hF5, hP5⟩; have hp5 : Past w4.drew.heap.size g w4.drew w5 := hP5; have HPW5 : Hid (Past w.heap.size g w w5) := Lib.hid ((HPW4.out.drew).trans (hp5.mono HPW4.out.size)); have HO6 := Lib.hid (own_keep HO4.out.drew HC4.out.drew.fld hp5); replace HCd := Lib.hid (HC4.out.drew.past hF5 hp5); have d0 := HCd.out.c0; have d2 := HCd.out.c2; rw [HLw.out] at hO5 hc5 ⊢; have HE := Lib.hid (equal_calls A5 Y2 (word msg (pts.drop k)) (ys.drop k) (m - k) (o - k) c5 (e - k) w5 HLw.out HLy.out (Own.bytes hO5) (bytes_far HY2.out.drew (fun hp a ha => HYF.out hp a _ ha rfl) hP5)); clear hO5 hc5 hP5 hF5 hp5)
                | (go_at_call 101; (with_reducible refine HE.out.mono ?_); rintro e w6 ⟨rfl, rfl⟩; rw [decide_eq_true HDc.out])))
            all_goals
              go_wp2
              go_ret2
              exact ⟨msg, 0, HX.out, A4, c4, by rw [HFL.out]; rfl, by rw [HFL.out]; exact hc4, by rw [HFL.out]; exact HO6.out.more HBW3.out.size, HCd.out.fld, HPW5.out⟩
          · have HX : Hid (DecIs xs k pl ys [] 71) := Lib.hid (.inr (.inr (.inr ⟨HOK.out, by have := HM.out; have := HKM.out; omega, rfl, rfl, by rw [HPT.out]; exact split_no HFL.out (by rw [HPM.out]; exact HKM.out) HPN.out HWd.out hdec⟩)))
            have HDc := Lib.hid hdec
            clear hdec
            go_wp2_with fail
            have d0 := HCd.out.c0
            have d2 := HCd.out.c2
            go_region_held (fun wz => wz.cell? ⟨b, 0, none⟩ = some (.pointer (some ⟨g, 0, none⟩)) ∧ wz.cell? ⟨b, 2, none⟩ = some (.int .i64 (k : Int))) (exact ⟨HCd.out.c0, HCd.out.c2⟩)
              ((first
                | (go_at_call 96; (with_reducible refine HVv.out.mono ?_); rintro e w5 ⟨A5, c5, rfl, hc5, hO5, hF5, hP5⟩; have hp5 : Past w4.drew.heap.size g w4.drew w5 := hP5; have HPW5 : Hid (Past w.heap.size g w w5) := Lib.hid ((HPW4.out.drew).trans (hp5.mono HPW4.out.size)); have HO6 := Lib.hid (own_keep HO4.out.drew HC4.out.drew.fld hp5); replace HCd := Lib.hid (HC4.out.drew.past hF5 hp5); have d0 := HCd.out.c0; have d2 := HCd.out.c2; rw [HLw.out] at hO5 hc5 ⊢; have HE := Lib.hid (equal_calls A5 Y2 (word msg (pts.drop k)) (ys.drop k) (m - k) (o - k) c5 (e - k) w5 HLw.out HLy.out (Own.bytes hO5) (bytes_far HY2.out.drew (fun hp a ha => HYF.out hp a _ ha rfl) hP5)); clear hO5 hc5 hP5 hF5 hp5)
                | (go_at_call 101; (with_reducible refine HE.out.mono ?_); rintro e w6 ⟨rfl, rfl⟩; rw [decide_eq_false HDc.out])))
            all_goals
              go_wp2
              go_ret2
              exact ⟨[], 71, HX.out, none, 0, rfl, Nat.le_refl _, Own.nil _ _ _, HCd.out.fld, HPW5.out⟩
    · have hdf := hv
      rw [decide_eq_false hok] at hdf
      have HV := Lib.hid hdf
      have HX : Hid (DecIs xs k pl ys [] 2) := Lib.hid (.inl ⟨fun h => hok (by rw [← HC.out.len]; exact h.2), rfl, rfl⟩)
      clear hok ho hl hv hmo hdf
      go_enter Tryz.func54, Tryz.ntmps54
      go_wp2_with (first
        | (go_at_call 91; refine (isNone_calls HC.out.blk HC.out.k1).mono ?_; rintro e w1 ⟨rfl, rfl⟩)
        | (go_at_call 98; refine HV.out.mono ?_; rintro e w2 ⟨rfl, hB2⟩; have HC2 := HC.out.below hB2; have h3 := HC2.blk.cell 2; simp only [codeC] at h3))
      go_ret2
      exact ⟨[], 2, HX.out, none, 0, rfl, Nat.le_refl _, Own.nil _ _ _, HC2.fld, Past.of_below hB2 _⟩
  · have k1 : ((m : Int) != (o : Int)) = true := by simp; omega
    have HX : Hid (DecIs xs k pl ys [] 2) := Lib.hid (.inl ⟨fun h => hmo (by have := HM.out; have := HO.out; omega), rfl, rfl⟩)
    clear ho hl hmo
    go_enter Tryz.func54, Tryz.ntmps54
    go_wp2_with (go_at_call 91; refine (isNone_calls HC.out.blk HC.out.k1).mono ?_; rintro e w1 ⟨rfl, rfl⟩)
    go_ret2
    exact ⟨[], 2, HX.out, none, 0, rfl, Nat.le_refl _, Own.nil _ _ _, HC.out.fld, Past.refl _ _ _⟩
end Go.Proofs.YtiapokojlkdddaaGreat.Rd

/- What the statements' helpers do: Reed, Some, Full. -/
namespace Go.Proofs.YtiapokojlkdddaaGreat.Rd
open Go.RowKit Go.Shelf F8 Poly GF
attribute [local go_sem] Oper.semAt_some

/-- The first powers. -/
def pts (n : Nat) : List F8 := (List.range n).map fun i => ⟨gp i, gp_lt i⟩
theorem pts_length (n : Nat) : (pts n).length = n := by simp [pts]
theorem pts_succ (n : Nat) : pts (n + 1) = pts n ++ [⟨gp n, gp_lt n⟩] := by simp [pts, List.range_succ]
theorem pts_nodup {n : Nat} (h : n ≤ 255) : (pts n).Nodup := by
  unfold pts
  rw [List.nodup_iff_pairwise_ne, List.pairwise_map]
  refine (List.nodup_iff_pairwise_ne.1 List.nodup_range).imp_of_mem fun {a b} ha hb hne e => hne ?_
  have ha := List.mem_range.1 ha
  have hb := List.mem_range.1 hb
  exact gp_inj (by omega) (by omega) (congrArg F8.n e)
/-- What Reed gives. -/
def KReed (w : World) (n k : Nat) (e : Ending) (w' : World) : Prop :=
  (k ≤ n ∧ ∃ b A c, e = .returned (.pointer (some ⟨b, 0, none⟩)) ∧ w.heap.size ≤ b ∧ (∀ a, A = some a → w.heap.size ≤ a.block) ∧ Cd w' b w.heap.size A (pts n) n c k ∧ Below w.heap.size w w') ∨
  (n < k ∧ e = .returned (.pointer none) ∧ Below w.heap.size w w')
set_option maxRecDepth 100000 in
set_option maxHeartbeats 4000000 in
theorem reed_calls (n k : Nat) (hn : n ≤ 255) (hk : 1 ≤ k) (w : World) : Calls Tryz.prog 50 #[.int .i64 n, .int .i64 k] w (KReed w n k) := by
  go_enter Tryz.func50, Tryz.ntmps50
  go_wp2_with fail
  refine (GF.new_calls w).mono ?_
  rintro e w1 ⟨rfl, hw1⟩
  have hF1 : FldP w1 (some ⟨w.heap.size, 0, none⟩) := FldP.of (by rw [hw1]; exact Fld.new w)
  have hz1 : w1.heap.size = w.heap.size + 1 := by rw [hw1]; simp
  have hB1 : Below w.heap.size w w1 := by rw [hw1]; exact (Below.refl _ _).alloc (Nat.le_refl _) _
  have HF1 := Lib.hid hF1
  have HB1 := Lib.hid hB1
  clear hw1 hF1 hB1
  go_wp2
  go_loopw [6, 7] (fun out i wr => ∃ j : Nat, j ≤ n ∧ i = .int .i64 j ∧ Hid (Own wr w1.heap.size 5 out (bv (bs (pts j)))) ∧ Hid (FldP wr (some ⟨w.heap.size, 0, none⟩)) ∧ Past w1.heap.size w.heap.size w1 wr) (fun _ i _ => n - (intOf i).toNat)
  case atStart => exact ⟨0, by omega, rfl, Lib.hid (Own.nil _ _ _), HF1, Past.refl _ _ _⟩
  case round =>
    obtain ⟨j, hj, rfl, HO, HF, HP⟩ := hrel
    have hsz := HP.size
    by_cases hlt : j < n
    · have HL : Hid ((bv (bs (pts j))).length = j) := Lib.hid (by rw [bvs_length, pts_length])
      have HT : Hid (bv (bs (pts j)) ++ bv [gp j] = bv (bs (pts (j + 1)))) := Lib.hid (by rw [pts_succ, bvs_snoc])
      have HG : Hid (ge (j : Int) = gp j) := Lib.hid (ge_nat j)
      go_wp2_with fail
      refine (GF.exp_calls (some ⟨w.heap.size, 0, none⟩) (j : Int) (by omega) (by omega) _ HF.out).mono ?_
      rintro e w2 ⟨rfl, hf2, hp2⟩
      rw [HG.out]
      have HO2 := Lib.hid (own_keep HO.out HF.out hp2)
      have HF2 := Lib.hid hf2
      have HP2 : Past w1.heap.size w.heap.size w1 w2 := HP.trans ((show Past wr.heap.size w.heap.size wr w2 from hp2).mono hsz)
      have hsz2 := HP2.size
      clear hf2 hp2
      go_wp2_with (at_builtin; refine wpList_app _ rfl _ _ _ rfl w1.heap.size 5 _ 1 Tryz.underlying22 info_u8 rfl (by omega) _ _ rfl (HO2.out.alloc _) (some ⟨w2.heap.size, 0, none⟩) 1 1 (bv [gp j]) rfl rfl (Row.new _ _ _ _) (bv_one _) (by rw [HL.out]; omega) (by simp; omega) ?_; rintro v2 w3 hown hg3 -)
      rw [HT.out] at hown
      have HO3 := Lib.hid hown
      have hrow : ∀ k, Value.ownBlock _ = some k → w1.heap.size ≤ k := fun k hk => ((HO2.out.alloc (.cells #[.int .u8 (gp j : Nat)] 5)).lt k hk).1
      have HP3 := (HP2.alloc hsz2 (.cells #[.int .u8 (gp j : Nat)] 5)).grown hg3 (by simp; omega) hrow
      have HF3 := Lib.hid (FldP.of ((HF2.out.fld.alloc (.cells #[.int .u8 (gp j : Nat)] 5)).kept_grown hg3 (by omega) hrow))
      clear hown hg3 hrow
      go_roundw
      case rel => exact ⟨j + 1, by omega, by go_num, HO3, HF3, HP3⟩
      case measure => simp [intOf]; omega
    · obtain rfl : j = n := by omega
      obtain ⟨A1, c1, rfl, hc1⟩ := Own.shape HO.out
      rw [pts_length] at hc1 HO ⊢
      have hBw : Below w.heap.size w wr := HB1.out.trans ((HP.mono (by omega)).below (Nat.le_refl _))
      have hBsz := hBw.size
      go_wp2_with fail
      refine (Rd.new_calls w.heap.size A1 (pts j) j c1 (k : Int) _ (pts_length j) (Own.bytes HO.out) hc1 (by omega) HF.out).mono ?_
      rintro e w2 (⟨h0, b, A, c, q, hq, rfl, hb, hA, hC, hB⟩ | ⟨h2, rfl, hB⟩)
      · have hkn : (k : Int) ≤ (j : Int) := by
          have := h0
          unfold newR at this
          split at this
          · rename_i h; have := h.2.2; rw [pts_length] at this; exact this
          · cases this
        obtain rfl : q = k := by omega
        go_wp2
        go_ret
        exact .inl ⟨by omega, b, A, c, rfl, by omega, fun a ha => by have := hA a ha; omega, hC, hBw.trans (hB.mono hBsz)⟩
      · have hkn : j < k := by
          rcases Nat.lt_or_ge j k with h | h
          · exact h
          · have : newR (pts j) (k : Int) = 0 := if_pos ⟨pts_nodup hn, by omega, by rw [pts_length]; omega⟩
            rw [this] at h2
            cases h2
        go_wp2
        go_ret
        exact .inr ⟨hkn, rfl, hBw.trans (hB.mono hBsz)⟩
theorem info_i : (Tryz.prog.info? 3).map (fun i => (i.zero, i.size, i.bytes)) = some (some (.int .i64 0), 1, 8) := by kernel_rfl
theorem zs_one (l : List Int) : ∀ u ∈ zs l, u.oneCell' = true := by
  intro u hu; obtain ⟨n, _, rfl⟩ := List.mem_map.1 hu; rfl
theorem zs_append (a b : List Int) : zs (a ++ b) = zs a ++ zs b := by simp [zs]
theorem own_cap2 {w : World} {B : Nat} {e : TypeId} {A : Option Addr} {n c : Nat} {xs : List Value} (h : Own w B e (.slice A n c) xs) (hn : xs.length = n) : n ≤ c := by
  rcases h.2 with ⟨h1, _⟩ | ⟨b, cap, cur, h1, h2, _, h4, _⟩
  · injection h1 with h1 h2 h3; omega
  · injection h1 with h1 h2' h3; omega
/-- What Some gives: some of the places, none twice. -/
def KSome (w : World) (n most : Nat) (e : Ending) (w' : World) : Prop :=
  ∃ (l : List Int) (A : Option Addr) (c : Nat), OkP n l ∧ l.length ≤ most ∧ e = .returned (.slice A l.length c) ∧ l.length ≤ c ∧ Own w' w.heap.size 3 (.slice A l.length c) (zs l) ∧ Below w.heap.size w w'
set_option maxRecDepth 100000 in
set_option maxHeartbeats 4000000 in
theorem some_calls (x n most : Nat) (hn : n ≤ 300) (hm : most ≤ 300) (w : World) : Calls Tryz.prog 52 #[.int .u64 x, .int .i64 n, .int .i64 most] w (KSome w n most) := by
  go_enter Tryz.func52, Tryz.ntmps52
  go_wp2
  go_loopw [7, 8] (fun out i wr => ∃ (j : Nat) (l : List Int) (A : Option Addr) (c m : Nat), j ≤ 64 ∧ j ≤ n ∧ i = .int .i64 j ∧ out = .slice A m c ∧ Hid (l.length = m) ∧ m ≤ c ∧ m ≤ j ∧ m ≤ most ∧ Hid (OkP j l) ∧ Hid (Own wr w.heap.size 3 (.slice A m c) (zs l)) ∧ Below w.heap.size w wr) (fun _ i _ => n - (intOf i).toNat)
  case atStart => exact ⟨0, [], none, 0, 0, by omega, by omega, rfl, rfl, Lib.hid rfl, by omega, by omega, by omega, Lib.hid ⟨by simp, by simp⟩, Lib.hid (Own.nil _ _ _), Below.refl _ _⟩
  case round =>
    obtain ⟨j, l, A, c, m, hj, hjn, rfl, rfl, HM, hmc, hmj, hmm, HK, HO, HW⟩ := hrel
    have hsz := HW.size
    have HD : Hid (OkP n l ∧ l.length ≤ most ∧ l.length ≤ c) := Lib.hid ⟨⟨fun i hi => by have := HK.out.1 i hi; omega, HK.out.2⟩, by rw [HM.out]; exact hmm, by rw [HM.out]; exact hmc⟩
    by_cases h1 : j < n
    · by_cases h2 : j < 64
      · by_cases h3 : m < most
        · cases hbit : (bits BinOp.and IntKind.u64 ((x : Int) / 2 ^ j) 1 == 1) with
          | true =>
            have HL : Hid ((zs l).length = m) := Lib.hid (by rw [zs_length, HM.out])
            have HT : Hid (zs l ++ zs [(j : Int)] = zs (l ++ [(j : Int)])) := Lib.hid (zs_append _ _).symm
            have HLL : Hid ((l ++ [(j : Int)]).length = m + 1) := Lib.hid (by rw [List.length_append, HM.out]; rfl)
            have HK2 : Hid (OkP (j + 1) (l ++ [(j : Int)])) := Lib.hid ⟨fun i hi => by
              rcases List.mem_append.1 hi with hi | hi
              · have := HK.out.1 i hi; omega
              · obtain rfl := List.mem_singleton.1 hi; omega, by
              rw [List.nodup_append]
              exact ⟨HK.out.2, by simp, fun a ha b hb e => by
                obtain rfl := List.mem_singleton.1 hb
                have := HK.out.1 a ha; omega⟩⟩
            go_wp2_with (at_builtin; refine wpList_app _ rfl _ _ _ rfl w.heap.size 3 _ 8 Tryz.underlying23 info_i rfl (by omega) _ _ rfl (HO.out.alloc _) (some ⟨wr.heap.size, 0, none⟩) 1 1 (zs [(j : Int)]) rfl rfl (Row.new _ _ _ _) (zs_one _) (by rw [HL.out]; omega) (by simp; omega) ?_; rintro v2 w3 hown hg3 -)
            have hB2 := (HW.alloc hsz _).trans ((HO.out.alloc _).grew (by simp; omega) hg3)
            rw [HT.out] at hown
            obtain ⟨A3, c3, rfl, hr3, -⟩ := hown.form
            have hc3 := own_cap2 hown (by rw [zs_length])
            rw [zs_length, HLL.out] at hown hc3 ⊢
            have HO3 := Lib.hid hown
            clear hown hg3
            go_roundw
            case rel => exact ⟨j + 1, _, A3, c3, m + 1, by omega, by omega, by go_num, rfl, HLL, hc3, by omega, by omega, HK2, HO3, hB2⟩
            case measure => simp [intOf]; omega
          | false =>
            have HK2 : Hid (OkP (j + 1) l) := Lib.hid ⟨fun i hi => by have := HK.out.1 i hi; omega, HK.out.2⟩
            go_wp2
            go_roundw
            case rel => exact ⟨j + 1, l, A, c, m, by omega, by omega, by go_num, rfl, HM, hmc, by omega, hmm, HK2, HO, HW⟩
            case measure => simp [intOf]; omega
        · go_wp2
          go_ret
          exact ⟨l, A, c, HD.out.1, HD.out.2.1, by rw [HM.out]; rfl, HD.out.2.2, by rw [HM.out]; exact HO.out, HW⟩
      · go_wp2
        go_ret
        exact ⟨l, A, c, HD.out.1, HD.out.2.1, by rw [HM.out]; rfl, HD.out.2.2, by rw [HM.out]; exact HO.out, HW⟩
    · go_wp2
      go_ret
      exact ⟨l, A, c, HD.out.1, HD.out.2.1, by rw [HM.out]; rfl, HD.out.2.2, by rw [HM.out]; exact HO.out, HW⟩
/-- 'copy(s, a)', s one's own: the law, whatever the lengths. -/
theorem wpList_copy_cut {w : World} {ops : Array Oper} {rest : List Oper} {o : Oper} {a : Act} {Q : Exit → Act → World → Prop} (hgd : o.guard = none) (d s : Operand)
    (ho : o.op = .call { callee := .builtin .copy, args := #[d, s], argTypes := #[22, 22] }) (g n dc : Nat) (A : Option Addr) (m c : Nat)
    (hd : a.eval d = .slice (some ⟨g, 0, none⟩) n dc) (hs : a.eval s = .slice A m c) (old p : List F8) (hg : Block w g 5 (bv (bs old)).toArray) (hl : p.length = m) (hb : Bytes w A (bs p)) (hn : old.length = n)
    (h : ∀ w' q, Block w' g 5 (bv (bs (p.take n ++ old.drop (min m n)))).toArray → Past w.heap.size g w w' → w'.heap.size = w.heap.size → wpList Tryz.prog ops Q rest (a.put o.dst (goInt q)) w') :
    wpList Tryz.prog ops Q (o :: rest) a w := by
  have hsz1 : (Tryz.prog.info? 5).map (·.size) = some 1 := by kernel_rfl
  by_cases h0 : m = 0
  · subst h0
    have : p = [] := List.eq_nil_of_length_eq_zero hl
    subst this
    refine wpList_copy_nothing hgd d s _ _ ho 5 Tryz.underlying22 hsz1 _ _ n dc 0 c hd hs (by simp) ?_
    exact h w 0 (by simpa using hg) (Past.refl _ _ _) rfl
  · obtain ⟨b, off, rfl⟩ := where_ hb (by omega)
    have hpl : (bv (bs (p.take n))).length = min m n := by rw [bvs_length, List.length_take, hl, Nat.min_comm]
    refine wpList_copy_own hgd d s _ _ ho 5 Tryz.underlying22 hsz1 g 0 n dc ⟨b, off, none⟩ m c hd hs _ _ hg (bv (bs (p.take n))) hpl ?_ (by rw [hpl]; simp [bvs_length]; omega) (bv_one _) ?_
    · intro j v hv
      have hb2 := bytes_take hb n
      obtain ⟨b', off', e, hc⟩ := hb2.row j v hv
      simp only [Option.some.injEq, Addr.mk.injEq] at e
      obtain ⟨rfl, rfl, _⟩ := e
      rw [addr_add]; exact hc
    · refine h _ _ ?_ ⟨rfl, rfl, rfl, by simp [World.setRow], fun k _ hk => setRow_other w g k _ hk⟩ (by simp [World.setRow])
      have := setRow_heap w g (bv (bs old)).toArray (((bv (bs old)).toArray.toList.take 0) ++ (bv (bs (p.take n)) ++ (bv (bs old)).toArray.toList.drop (0 + (bv (bs (p.take n))).length))).toArray _ _ hg
      have e2 : (((bv (bs old)).toArray.toList.take 0) ++ (bv (bs (p.take n)) ++ (bv (bs old)).toArray.toList.drop (0 + (bv (bs (p.take n))).length))) = bv (bs (p.take n ++ old.drop (min m n))) := by
        rw [hpl]
        simp [bv, bs, List.map_drop]
      rw [e2] at this
      rw [e2]
      exact this
set_option maxRecDepth 100000 in
set_option maxHeartbeats 2000000 in
theorem kfull_calls (A : Option Addr) (p : List F8) (m c n : Nat) (w : World) (hl : p.length = m) (hb : Bytes w A (bs p)) (hn : n ≤ 1000000) : Calls Tryz.prog 42 #[.slice A m c, .int .i64 n] w (ROwn w (full p n) n) := by
  obtain ⟨w1, hmk, hO1, hB1⟩ := make_run w n (by omega)
  have hBlk := Own.block hO1
  have HBl := Lib.hid hBlk
  have HB := Lib.hid (hb.below hB1)
  have HL := Lib.hid hl
  have hglt := hBlk.lt
  clear hb hl hO1 hBlk
  go_enter Tryz.func42, Tryz.ntmps42
  go_wp2_with ((with_reducible refine wpList_copy_cut rfl (.tmp 8) (.tmp 9) rfl w.heap.size n n A m c rfl rfl _ p HBl.out HL.out HB.out (by simp) ?_); intro w2 q hb2 hp2 _; have HB2 := Lib.hid hb2; have HP2 := Lib.hid hp2; clear hb2 hp2)
  have hf : p.take n ++ (List.replicate n (0 : F8)).drop (min m n) = full p n := by
    unfold full
    rw [List.drop_replicate, HL.out]
    congr 2
    omega
  have hb2 := HB2.out
  have hp2 := HP2.out
  rw [hf] at hb2
  have hO2 : Own w2 w.heap.size 5 (.slice (some ⟨w.heap.size, 0, none⟩) n n) (bv (bs (full p n))) := Own.of_block hb2 (Nat.le_refl _) (by rw [bvs_length, full_length]) (by simp only [maxLen]; omega)
  go_ret
  exact ⟨_, n, rfl, Nat.le_refl _, hO2, hB1.trans ((hp2.mono hB1.size).below (Nat.le_refl _))⟩
end Go.Proofs.YtiapokojlkdddaaGreat.Rd

/- The walk of layer 4's examples. -/
namespace Go.Proofs.YtiapokojlkdddaaGreat.Poly
open Go.RowKit F8 GF

theorem DivBy.of {a b q r : List F8} (h1 : trim q = q) (h2 : trim r = r) (h3 : trim a = trim (padd (pmul q b) r)) (h4 : len r < len b) : DivBy a b q r := ⟨h1, h2, trim_eq_iff.1 h3, h4⟩
theorem Thru.of {xs ys r : List F8} (h1 : trim r = r) (h2 : r.length ≤ xs.length) (h3 : xs.map (eval r) = ys) : Thru xs ys r :=
  ⟨h1, (bdd_length r).mono h2, fun i h h' => by subst h3; simp⟩
section
variable {w0 w : World} {g : Nat} {ls : List (Option Addr × List F8)}
/-- A row that is written out. -/
theorem W.lit (h : W w0 g ls w) (cs : Array Value) (p : List F8) (hp : cs.toList = bv (bs p)) : W w0 g ((some ⟨w.heap.size, 0, none⟩, p) :: ls) (w.alloc (.cells cs 5)) := by
  refine (h.alloc _).cons ⟨?_, bs_lt p⟩ (fun _ a ha => ?_)
  · have := Row.new w cs 5 (0, 0)
    rw [hp] at this; exact this
  · cases ha; have := h.glt; simp; omega
theorem alloc_size (w : World) (o : Obj) : (w.alloc o).heap.size = w.heap.size + 1 := by simp
theorem W.lit2 (h : W w0 g ls w) (cs ds : Array Value) (p q : List F8) (hp : cs.toList = bv (bs p)) (hq : ds.toList = bv (bs q)) :
    W w0 g ((some ⟨w.heap.size + 1, 0, none⟩, q) :: (some ⟨w.heap.size, 0, none⟩, p) :: ls) ((w.alloc (.cells cs 5)).alloc (.cells ds 5)) := by
  have := (h.lit cs p hp).lit ds q hq
  rw [alloc_size] at this; exact this
theorem W.nil (h : W w0 g ls w) : W w0 g ((none, []) :: ls) w := h.cons (Bytes.nil _ _) (fun _ a ha => by cases ha)
end
theorem ownx (w : World) (x : F8) : Own (w.alloc (.cells #[.int .u8 x.n] 5)) w.heap.size 5 (.slice (some ⟨w.heap.size, 0, none⟩) 1 1) (bv (bs [x])) :=
  Own.lit w w.heap.size 5 #[.int .u8 (x.n : Int)] 1 (Nat.le_refl _) rfl (by simp [maxLen])
theorem ownx_app (w wm : World) (x : F8) (p xp : List F8) (hx : x :: p = xp) (v : Value) (h : Own wm w.heap.size 5 v (bv (bs [x]) ++ bv (bs p))) : Own wm w.heap.size 5 v (bv (bs xp)) := by
  rw [← bv_append, ← bs_append] at h; rw [← hx]; exact h
/-- A byte that is written out. -/
def f (n : Nat) (h : n < 256 := by decide) : F8 := ⟨n, h⟩
theorem ex_div : DivBy [1, 0, 1] [1, 1] [1, 1] [] := DivBy.of (by decide +kernel) (by decide +kernel) (by decide +kernel) (by decide +kernel)
theorem ex_thru : Thru [0, 1] [f 7, f 6] [f 7, 1] := Thru.of (by decide +kernel) (by decide) (by decide +kernel)

end Go.Proofs.YtiapokojlkdddaaGreat.Poly
