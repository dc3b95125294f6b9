/- The walk of FieldsBack: whatever is put is read in that order, and just what stands behind is left. -/
import Derived.Test.YtggonoppdekilaaFieldsPutWalk
import Derived.Deep.DeepCutAuto
namespace Go.Proofs.Ytggonoppdekilaa.fieldsBack
open Go.RowKit Fld fieldsPut
set_option linter.unusedVariables false

theorem allOf_drop (l : List Part) (k : Nat) (hk : k < l.length) : allOf (l.drop k) = l[k].raw ++ allOf (l.drop (k + 1)) := by
  unfold allOf; rw [List.drop_eq_getElem_cons hk, List.flatMap_cons]
/-- A byte list of the caller's, a reader's request behind. -/
theorem bytes_reader {w w' : World} {A : Option Addr} {l : List Nat} {r : Nat} {st : Option (List Nat)} (h : Bytes w A l) (hr : Rd w r st) (hp : Past w.heap.size r w w') : Bytes w' A l := by
  obtain ⟨A', n, c, f, hb, _⟩ := hr
  exact h.past hp (Nat.le_refl _) hb (noByte_rd _ _ _ _)

set_option maxHeartbeats 4000000 in
set_option maxRecDepth 100000 in
theorem walk (w : World) (A0 : Option Addr) (l0 : List Fld.Part) (c0 : Nat) (hb0 : Fld.Parts w A0 l0) (hc0 : l0.length ≤ 140737488355328) (hm0 : ∀ p ∈ l0, p.b.length ≤ 140737488355328) (A1 : Option Addr) (l1 : List Nat) (c1 : Nat) (hb1 : Bytes w A1 l1) (hc1 : l1.length ≤ c1) (hm1 : c1 ≤ 9223372036854775807) :
    Calls Try.prog 5 #[.slice A0 l0.length c0, .slice A1 l1.length c1] w fun e w' => e = .returned (.bool true) ∧ Below w.heap.size w w' := by
  have HB := Lib.hid hb0
  have HM := Lib.hid hm0
  have HK := Lib.hid hb1
  clear hb0 hm0 hb1
  by_cases hfew : l0.length ≤ 60 ∧ tot l0 ≤ 2000
  · have HD := Lib.hid (decide_eq_true hfew)
    have hl60 := hfew.1
    have HT := Lib.hid hfew.2
    clear hfew hc0 hm1
    by_cases hbig : (100 : Int) < (l1.length : Int)
    · go_enter Try.func5, Try.ntmps5
      go_wp2_with fail
      refine (few_calls w A0 l0 c0 HB.out (by omega) HM.out).mono ?_
      rintro e w1 ⟨rfl, rfl⟩
      rw [HD.out]
      go_wp2_with fail
      refine (works_calls _).mono ?_
      rintro e w5 ⟨rfl, hb⟩
      go_wp2
      go_ret
      exact ⟨rfl, hb⟩
    · have HA : ∀ k, (allOf (l0.take k)).length ≤ 2480 := fun k => by
        have h1 := allOf_len (l0.take k)
        have h2 := tot_take_le l0 k
        have h3 : (l0.take k).length ≤ 60 := by simp; omega
        have h4 := HT.out
        omega
      replace HA := Lib.hid HA
      go_enter Try.func5, Try.ntmps5
      go_wp2_with fail
      refine (few_calls w A0 l0 c0 HB.out (by omega) HM.out).mono ?_
      rintro e w1 ⟨rfl, rfl⟩
      rw [HD.out]
      go_wp2_with fail
      have HBL := Lib.hid ((Below.refl w.heap.size w).alloc (Nat.le_refl _) (.cells #[.slice none 0 0] 27))
      have HW := Lib.hid (Wr.new w (B := w.heap.size) (Nat.le_refl _))
      generalize w.alloc (.cells #[.slice none 0 0] 27) = wa at *
      go_loopw [6] (fun i wr => ∃ k : Nat, k ≤ l0.length ∧ i = .int .i64 k ∧ Hid (Wr wr w.heap.size w.heap.size (allOf (l0.take k))) ∧ Hid (Below w.heap.size w wr)) (fun i _ => l0.length - (intOf i).toNat)
      case atStart => exact ⟨0, by omega, rfl, HW, HBL⟩
      case round =>
        clear HW HBL
        obtain ⟨k, hk, rfl, HW, HBL⟩ := hrel
        by_cases hk2 : k < l0.length
        · obtain ⟨b, off, A', c', rfl, f0, f1, f2, -, hv⟩ := HB.out.at_ hk2
          have HV := Lib.hid hv
          have hlen := HA.out (k + 1)
          rw [allOf_take l0 k hk2, List.length_append] at hlen
          have HL := Lib.hid hlen
          have g0 := (HBL.out.cell (cell_lt f0)).trans f0
          have g1 := (HBL.out.cell (cell_lt f1)).trans f1
          have g2 := (HBL.out.cell (cell_lt f2)).trans f2
          clear hv hlen f0 f1 f2
          go_wp2_with fail
          refine (put_calls _ _ _ _ _ _ HW.out (HV.out.below HBL.out) (by have := HL.out; omega)).mono ?_
          rintro e w2 ⟨rfl, hw2, hp2⟩
          have hb2 := hp2.below (Nat.le_refl _)
          rw [← allOf_take l0 k hk2] at hw2
          have HW2 := Lib.hid hw2
          have HB2 := Lib.hid (HBL.out.trans hb2)
          clear hw2 hp2 hb2 g0 g1 g2 HW HBL
          go_wp2
          go_roundw
          case rel => exact ⟨k + 1, by omega, by go_num, HW2, HB2⟩
          case measure => simp [intOf]; omega
        · obtain rfl : k = l0.length := by omega
          have hl1 : l1.length ≤ 100 := by omega
          go_wp2_with fail
          refine (putRaw _ _ _ _ _ l1 _ _ HW.out rfl (HK.out.below HBL.out) (by have := HA.out l0.length; omega)).mono ?_
          rintro e w2 ⟨rfl, hw2, hp2⟩
          have HB2 := Lib.hid (HBL.out.trans (hp2.below (Nat.le_refl _)))
          have hlen : (allOf (l0.take l0.length) ++ l1).length ≤ 2580 := by rw [List.length_append]; have := HA.out l0.length; omega
          clear hp2 HBL HW
          go_wp2_with fail
          refine (out_calls _ _ _ _ hw2 (by omega)).mono ?_
          rintro e w3 ⟨v3, rfl, ho, hb⟩
          have HB3 := Lib.hid (HB2.out.trans (hb.mono HB2.out.size))
          obtain ⟨A3, c3, rfl, hr3, -⟩ := ho.form
          have HY := Lib.hid (⟨hr3, hw2.bytes⟩ : Bytes w3 A3 (allOf (l0.take l0.length) ++ l1))
          clear ho hb hr3 hw2 HB2
          obtain ⟨m3, hm3⟩ : ∃ m, (allOf (l0.take l0.length) ++ l1).length = m := ⟨_, rfl⟩
          have HM3 := Lib.hid hm3
          rw [bv_length, hm3]
          rw [hm3] at hlen
          clear hm3
          go_wp2_with fail
          refine (open_calls _ _ _ _ _ HM3.out HY.out (by omega)).mono ?_
          rintro e w4 ⟨r, rfl, hr, hge, hb⟩
          have HB4 := Lib.hid (HB3.out.trans (hb.mono HB3.out.size))
          have HG := Lib.hid (show w.heap.size ≤ r from Nat.le_trans HB3.out.size hge)
          rw [List.take_length] at hr
          have HR := Lib.hid hr
          clear hr hb hge HY HB3 hlen hk hk2
          go_wp2_with fail
          go_loopw [8, 9] (fun i _ wr => ∃ k : Nat, k ≤ l0.length ∧ i = .int .i64 k ∧ Hid (Rd wr r (some (allOf (l0.drop k) ++ l1))) ∧ Hid (Below w.heap.size w wr)) (fun i _ _ => l0.length - (intOf i).toNat)
          case atStart => exact ⟨0, by omega, rfl, HR, HB4⟩
          case round =>
            clear HR HB4
            obtain ⟨k, hk, rfl, HR, HBL⟩ := hrel
            by_cases hk2 : k < l0.length
            · obtain ⟨b, off, A', c', rfl, f0, f1, f2, hbb, hv⟩ := HB.out.at_ hk2
              have HV := Lib.hid hv
              have HBB := Lib.hid hbb
              have F0 := Lib.hid f0
              have F1 := Lib.hid f1
              have F2 := Lib.hid f2
              have g0 := (HBL.out.cell (cell_lt f0)).trans f0
              have g1 := (HBL.out.cell (cell_lt f1)).trans f1
              have g2 := (HBL.out.cell (cell_lt f2)).trans f2
              rw [allOf_drop l0 k hk2, List.append_assoc] at HR
              clear hv f0 f1 f2 hbb
              go_wp2_with fail
              refine (size_calls _ _ l0[k] (HV.out.below HBL.out)).mono ?_
              rintro e w5 ⟨rfl, hb⟩
              have HB5 := Lib.hid (HBL.out.trans (hb.mono HBL.out.size))
              have HR5 := Lib.hid (HR.out.below hb)
              clear hb HR HBL g0 g1 g2
              have HRd := Lib.hid HR5.out.drew
              have HBd := Lib.hid HB5.out.drew
              have g0 := (HB5.out.cell (cell_lt F0.out)).trans F0.out
              have g1 := (HB5.out.cell (cell_lt F1.out)).trans F1.out
              have g2 := (HB5.out.cell (cell_lt F2.out)).trans F2.out
              by_cases hz : l0[k].sz = 0
              · rw [hz]
                rw [Part.raw_zero hz] at HRd
                have FC := Lib.hid (cutOf_app l0[k].b (allOf (l0.drop (k + 1)) ++ l1) (l0[k].b.length : Int) rfl)
                have FT := Lib.hid (cutTo_app l0[k].b (allOf (l0.drop (k + 1)) ++ l1) (l0[k].b.length : Int) rfl)
                have HL2 := Lib.hid (HM.out l0[k] (List.getElem_mem hk2))
                have HX := Lib.hid (show ∀ wx, Below w.heap.size w wx → (convert 25 9 (.slice A' l0[k].b.length c')).run Try.prog wx = .ok (.string (str l0[k].b)) wx from
                  fun wx hbx => conv_str (HBB.out.below hbx) c' 25 9 5 Try.underlying25 Try.underlying5 Try.underlying9)
                have hcvd := HX.out _ HBd.out
                go_wp2_with fail
                clear HR5 HB5
                go_region_with (go_at_call 17; refine (getRaw _ _ _ _ HRd.out (by omega) (by have := HL2.out; omega) (by rw [FC.out]; exact HL2.out)).mono ?_; rintro e w6 ⟨v6, rfl, ho, hr, hp⟩; rw [FC.out] at ho; rw [FT.out] at hr; have hcv6 := conv_own ho HBB.out.lt; have HB6 := Lib.hid (HBd.out.trans ((hp.mono HBd.out.size).below HG.out)); have q0 := (HB6.out.cell (cell_lt F0.out)).trans F0.out; have q1 := (HB6.out.cell (cell_lt F1.out)).trans F1.out; have q2 := (HB6.out.cell (cell_lt F2.out)).trans F2.out; have hcvx := HX.out _ HB6.out; have HR6 := Lib.hid hr; clear ho hr hp)
                all_goals
                  go_wp2_with fail
                  go_roundw
                  case rel => exact ⟨k + 1, by omega, by go_num, HR6, HB6⟩
                  case measure => simp [intOf]; omega
              · have hd : ((l0[k].sz : Int) == 0) = false := by simp; omega
                have HSZ := Lib.hid (show l0[k].sz = 1 ∨ l0[k].sz = 2 ∨ l0[k].sz = 4 ∨ l0[k].sz = 8 by rcases sz_cases l0[k] with h | h | h | h | h <;> omega)
                have HRL := Lib.hid (show l0[k].raw.length = l0[k].sz by rw [Part.raw_len, if_neg hz])
                have FC := Lib.hid (cutOf_app l0[k].raw (allOf (l0.drop (k + 1)) ++ l1) (l0[k].sz : Int) (by rw [HRL.out]))
                have FT := Lib.hid (cutTo_app l0[k].raw (allOf (l0.drop (k + 1)) ++ l1) (l0[k].sz : Int) (by rw [HRL.out]))
                go_wp2_with fail
                clear HR5 HB5
                have H3 := Lib.hid (Bytes.nil w5.drew none)
                have HV3 := Lib.hid (HV.out.below HBd.out)
                go_region_with (first
                  | (go_at_call 15; refine (get_calls _ _ _ _ HRd.out (by have := HSZ.out; omega)).mono ?_; rintro e w6 ⟨rfl, hr, hp⟩; rw [FC.out]; rw [FT.out] at hr; replace H3 := Lib.hid (bytes_reader H3.out HRd.out hp); replace HBd := Lib.hid (HBd.out.trans ((hp.mono HBd.out.size).below HG.out)); replace HRd := Lib.hid hr; replace g0 := (HBd.out.cell (cell_lt F0.out)).trans F0.out; replace g1 := (HBd.out.cell (cell_lt F1.out)).trans F1.out; replace g2 := (HBd.out.cell (cell_lt F2.out)).trans F2.out; replace HV3 := Lib.hid (HV.out.below HBd.out); clear hr hp)
                  | (go_at_call 12; refine (plain_calls _ _ _ HV3.out).mono ?_; rintro e w7 ⟨A7, m7, c7, rfl, hm7, hb7, hbb⟩; replace H3 := Lib.hid hb7; replace HRd := Lib.hid (HRd.out.below hbb); replace HBd := Lib.hid (HBd.out.trans (hbb.mono HBd.out.size)); clear hb7 hbb)
                  | (go_at_call 24; refine (refNumber _ _ _ _ _ hm7 H3.out (by have h1 := HRL.out; have h2 := szOf_le l0[k].s; unfold Part.sz at h1; omega)).mono ?_; rintro e w8 ⟨rfl, rfl⟩))
                all_goals
                  go_wp2_with fail
                  go_roundw
                  case rel => exact ⟨k + 1, by omega, by go_num, HRd, HBd⟩
                  case measure => simp [intOf]; omega
            · obtain rfl : k = l0.length := by omega
              rw [List.drop_length, show allOf [] ++ l1 = l1 ++ [] by simp [allOf]] at HR
              have HBL2 := HBL
              have FC := Lib.hid (cutOf_app l1 [] (l1.length : Int) rfl)
              have FT := Lib.hid (cutTo_app l1 [] (l1.length : Int) rfl)
              have HX := Lib.hid (show ∀ wx, Below w.heap.size w wx → (convert 25 9 (.slice A1 l1.length c1)).run Try.prog wx = .ok (.string (str l1)) wx from
                fun wx hbx => conv_str (HK.out.below hbx) c1 25 9 5 Try.underlying25 Try.underlying5 Try.underlying9)
              have hlf := Lib.hid (show Fld.leftOf (some (l1 ++ [])) = l1.length by simp [Fld.leftOf])
              go_wp2_with fail
              have HRd := Lib.hid HR.out.drew
              have HBd := Lib.hid HBL.out.drew
              have hcvd := HX.out _ HBd.out
              clear HR HBL
              have HL1 := Lib.hid (show (l1.length : Int) < 200 by omega)
              have hlf2 := Lib.hid (show Fld.leftOf (some ([] : List Nat)) = 0 by rfl)
              have HP1 := Lib.hid HK.out.lt
              clear hl1 hbig
              go_region_held (fun w' => (convert 25 9 (.slice A1 l1.length c1)).run Try.prog w' = .ok (.string (str l1)) w') (first | exact HX.out _ HBd.out) ((first
                | (go_at_call 19; refine (left_calls _ _ _ HRd.out).mono ?_; rintro e w' ⟨rfl, rfl⟩; first | rw [hlf.out] | rw [hlf2.out])
                | (go_at_call 21; refine (bad_calls _ _ _ HRd.out).mono ?_; rintro e w' ⟨rfl, rfl⟩)
                | (go_at_call 10; refine (works_calls _).mono ?_; rintro e w9 ⟨rfl, hb9⟩; replace HBd := Lib.hid (HBd.out.trans (hb9.mono HBd.out.size)); clear hb9)
                | (go_at_call 17; refine (getRaw _ _ _ _ HRd.out (by omega) (by have := HL1.out; omega) (by rw [FC.out]; have := HL1.out; omega)).mono ?_; rintro e w6 ⟨v6, rfl, ho, hr, hp⟩; rw [FC.out] at ho; rw [FT.out] at hr; have hcv6 := conv_own ho HP1.out; replace HBd := Lib.hid (HBd.out.trans ((hp.mono HBd.out.size).below HG.out)); have hcvx := HX.out _ HBd.out; replace HRd := Lib.hid hr; clear ho hr hp)))
              all_goals
                go_wp2_with fail
                go_ret
                exact ⟨rfl, HBd.out⟩
  · have HD := Lib.hid (decide_eq_false hfew)
    clear hfew
    go_enter Try.func5, Try.ntmps5
    go_wp2_with fail
    refine (few_calls w A0 l0 c0 HB.out hc0 HM.out).mono ?_
    rintro e w1 ⟨rfl, rfl⟩
    rw [HD.out]
    go_wp2_with fail
    refine (works_calls _).mono ?_
    rintro e w5 ⟨rfl, hb⟩
    go_wp2
    go_ret
    exact ⟨rfl, hb⟩
end Go.Proofs.Ytggonoppdekilaa.fieldsBack
