/- The walk of FieldsCut: of bytes that are cut off all fields ahead of the cut are read, and none from there on. -/
import Derived.Test.YtggonoppdekilaaFieldsPutWalk
namespace Go.Proofs.Ytggonoppdekilaa.fieldsCut
open Go.RowKit Fld fieldsPut
set_option linter.unusedVariables false

/-- What is ahead behind the first k fields, all of them n bytes. -/
def ahead (l : List Part) (n k : Nat) : Option (List Nat) :=
  if (allOf (l.take k)).length ≤ n then some (((allOf l).take n).drop (allOf (l.take k)).length) else none
theorem allOf_split (l : List Part) (k : Nat) (hk : k < l.length) : allOf l = allOf (l.take k) ++ (l[k].raw ++ allOf (l.drop (k + 1))) := by
  have h : l = l.take k ++ (l[k] :: l.drop (k + 1)) := by rw [← List.drop_eq_getElem_cons hk, List.take_append_drop]
  conv => lhs; rw [h]
  unfold allOf; rw [List.flatMap_append, List.flatMap_cons]
/-- One field more: it is whole, or the reader fails, or it had failed. -/
theorem ahead_whole (l : List Part) (n k : Nat) (hk : k < l.length) (hn : n ≤ (allOf l).length) (h : (allOf (l.take k)).length + l[k].raw.length ≤ n) :
    cutOf (ahead l n k) (l[k].raw.length : Int) = l[k].raw ∧ cutTo (ahead l n k) (l[k].raw.length : Int) = ahead l n (k + 1) ∧ (∃ x, ahead l n k = some x) ∧ ahead l n (k + 1) = some (((allOf l).take n).drop ((allOf (l.take k)).length + l[k].raw.length)) := by
  have h1 : ahead l n k = some (((allOf l).take n).drop (allOf (l.take k)).length) := by unfold ahead; rw [if_pos (by omega)]
  have h2 : ((allOf l).take n).drop (allOf (l.take k)).length = l[k].raw ++ (((allOf l).take n).drop ((allOf (l.take k)).length + l[k].raw.length)) := by
    have e := allOf_split l k hk
    rw [List.drop_take, List.drop_take]
    conv => lhs; rw [e]
    rw [List.drop_left, List.take_append, List.take_of_length_le (by omega)]
    congr 1
    rw [e, ← List.append_assoc, show (allOf (l.take k)).length + l[k].raw.length = (allOf (l.take k) ++ l[k].raw).length by simp, List.drop_left]
    congr 1
    simp; omega
  have h3 : ahead l n (k + 1) = some (((allOf l).take n).drop ((allOf (l.take k)).length + l[k].raw.length)) := by
    unfold ahead; rw [allOf_take l k hk, List.length_append, if_pos h]
  rw [h1, h2, h3]
  exact ⟨cutOf_app _ _ _ rfl, cutTo_app _ _ _ rfl, ⟨_, rfl⟩, rfl⟩
theorem ahead_torn (l : List Part) (n k : Nat) (hk : k < l.length) (hn : n ≤ (allOf l).length) (h : n < (allOf (l.take k)).length + l[k].raw.length) :
    cutOf (ahead l n k) (l[k].raw.length : Int) = [] ∧ cutTo (ahead l n k) (l[k].raw.length : Int) = none ∧ ahead l n (k + 1) = none := by
  have h3 : ahead l n (k + 1) = none := by
    unfold ahead; rw [allOf_take l k hk, List.length_append, if_neg (by omega)]
  rw [h3]
  unfold ahead
  split
  · rename_i hle
    have hl : (((allOf l).take n).drop (allOf (l.take k)).length).length = n - (allOf (l.take k)).length := by simp; omega
    have ho : ((((allOf l).take n).drop (allOf (l.take k)).length).length : Int) < (l[k].raw.length : Int) := by rw [hl]; omega
    exact ⟨cutOf_out (.inr ho), cutTo_out (.inr ho), rfl⟩
  · exact ⟨rfl, rfl, rfl⟩
/-- A byte list of the caller's, a reader's request behind. -/
theorem bytes_reader {w w' : World} {A : Option Addr} {l : List Nat} {r : Nat} {st : Option (List Nat)} (h : Bytes w A l) (hr : Rd w r st) (hp : Past w.heap.size r w w') : Bytes w' A l := by
  obtain ⟨A', n, c, f, hb, _⟩ := hr
  exact h.past hp (Nat.le_refl _) hb (noByte_rd _ _ _ _)
theorem conv_zero {w : World} {B m : Nat} {v : Value} (ho : w.ownsRow B 5 1 v m (madeCells (Value.int .u8 0).cells (m * 1)).toList) : (convert 25 9 v).run Try.prog w = .ok (.string (str (List.replicate m 0))) w := by
  rw [made_bytes] at ho
  refine conv_own (B := B) ?_ (fun x hx => by have := List.eq_of_mem_replicate hx; omega)
  unfold Own
  rw [bv_length, List.length_replicate]
  exact ho
theorem ahead_zero (l : List Part) (n : Nat) : ahead l n 0 = some ((allOf l).take n) := by unfold ahead; simp [allOf]

set_option maxHeartbeats 2000000 in
set_option maxRecDepth 100000 in
theorem walk (w : World) (A0 : Option Addr) (l0 : List Fld.Part) (c0 : Nat) (hb0 : Fld.Parts w A0 l0) (hc0 : l0.length ≤ 140737488355328) (hm0 : ∀ p ∈ l0, p.b.length ≤ 140737488355328) (n1 : Nat) (hn1 : n1 < 65536) :
    Calls Try.prog 7 #[.slice A0 l0.length c0, .int .u16 (n1 : Nat)] w fun e w' => e = .returned (.bool true) ∧ Below w.heap.size w w' := by
  have HB := Lib.hid hb0
  have HM := Lib.hid hm0
  clear hb0 hm0
  by_cases hfew : l0.length ≤ 60 ∧ tot l0 ≤ 2000
  · have HD := Lib.hid (decide_eq_true hfew)
    have hl60 := hfew.1
    have HT := Lib.hid hfew.2
    clear hfew hc0
    have HA : ∀ k, (allOf (l0.take k)).length ≤ 2480 := fun k => by
      have h1 := allOf_len (l0.take k)
      have h2 := tot_take_le l0 k
      have h3 : (l0.take k).length ≤ 60 := by simp; omega
      have h4 := HT.out
      omega
    replace HA := Lib.hid HA
    go_enter Try.func7, Try.ntmps7
    go_wp2_with fail
    refine (few_calls w A0 l0 c0 HB.out (by omega) HM.out).mono ?_
    rintro e w1 ⟨rfl, rfl⟩
    rw [HD.out]
    go_wp2_with fail
    have HB0 := Lib.hid (Below.refl w.heap.size w)
    go_loopw [5, 6] (fun s i wr => ∃ k : Nat, k ≤ l0.length ∧ i = .int .i64 k ∧ s = .string (str (allOf (l0.take k))) ∧ Hid (Below w.heap.size w wr)) (fun _ i _ => l0.length - (intOf i).toNat)
    case atStart => exact ⟨0, by omega, rfl, rfl, HB0⟩
    case round =>
      clear HB0
      obtain ⟨k, hk, rfl, rfl, HBL⟩ := hrel
      by_cases hk2 : k < l0.length
      · obtain ⟨b, off, A', c', rfl, f0, f1, f2, -, hv⟩ := HB.out.at_ hk2
        have HV := Lib.hid hv
        have HL := Lib.hid (HA.out (k + 1))
        have g0 := (HBL.out.cell (cell_lt f0)).trans f0
        have g1 := (HBL.out.cell (cell_lt f1)).trans f1
        have g2 := (HBL.out.cell (cell_lt f2)).trans f2
        clear hv f0 f1 f2
        go_wp2_with fail
        refine (plain_calls _ _ _ (HV.out.below HBL.out)).mono ?_
        rintro e w3 ⟨A3, m3, c3, rfl, rfl, hb3, hbb⟩
        have hcv := conv_str hb3 c3 25 9 5 Try.underlying25 Try.underlying5 Try.underlying9
        have HB3 := Lib.hid (HBL.out.trans (hbb.mono HBL.out.size))
        have hadd : ∀ w : World, (Op.stringOp .add (str (allOf (l0.take k))) (str l0[k].raw)).run Try.prog w = .ok (.string (str (allOf (l0.take (k + 1))))) w := fun w => by
          rw [run_string_add_sum w _ _ (by rw [str_size, str_size]; have := HL.out; rw [allOf_take l0 k hk2, List.length_append] at this; omega), ← str_append, allOf_take l0 k hk2]
        clear hb3 hbb HBL g0 g1 g2
        go_wp2_with fail
        go_roundw
        case rel => exact ⟨k + 1, by omega, by go_num, rfl, HB3⟩
        case measure => simp [intOf]; omega
      · obtain rfl : k = l0.length := by omega
        rw [List.take_length]
        have hall := HA.out l0.length
        rw [List.take_length] at hall
        obtain ⟨T, hT⟩ : ∃ T, (allOf l0).length = T := ⟨_, rfl⟩
        have hs : (str (allOf l0)).size = T := by rw [str_size]; exact hT
        rw [hT] at hall
        have HTT := Lib.hid hT
        clear hT
        obtain ⟨c, hc, hcT⟩ : ∃ c : Nat, ((n1 : Int) % ((T : Int) + 1)) = (c : Int) ∧ c ≤ T := ⟨n1 % (T + 1), by simp, by have := Nat.mod_lt n1 (show 0 < T + 1 by omega); omega⟩
        have i1 : (0 : Int) ≤ (c : Int) := by omega
        have i2 : (c : Int) ≤ (T : Int) := by omega
        have hx : (str (allOf l0)).extract 0 c = str ((allOf l0).take c) := by have := str_extract (allOf l0) 0 c; simpa using this
        have hcb : ∀ w : World, (convert 9 25 (.string (str ((allOf l0).take c)))).run Try.prog w = .ok (.slice (some ⟨w.heap.size, 0, none⟩) ((allOf l0).take c).length (grownCap w ((allOf l0).take c).length 0 5)) (Lib.bytesWorld w 5 (str ((allOf l0).take c))) :=
          fun w => conv_bytes w _ 9 25 5 Try.underlying9 Try.underlying25 Try.underlying5
        have hct : ((allOf l0).take c).length = c := by have := HTT.out; simp; omega
        rw [hct] at hcb
        have hlt : ∀ x ∈ (allOf l0).take c, x < 256 := fun x hx => by
          have := allOf_lt HB.out l0.length x
          rw [List.take_length] at this
          exact this (List.mem_of_mem_take hx)
        have HLT := Lib.hid hlt
        have HCT := Lib.hid hct
        have HCL := Lib.hid (show c ≤ (allOf l0).length by have := HTT.out; omega)
        have HC0 := Lib.hid (show c ≤ 2480 by omega)
        clear hlt hct hcT
        go_wp2_with fail
        have hbw := bytesWorld_below wr 5 (str ((allOf l0).take c))
        have hby := bytesWorld_bytes wr 5 ((allOf l0).take c) HLT.out
        refine (open_calls _ _ _ _ _ HCT.out hby (by have := HC0.out; omega)).mono ?_
        rintro e w4 ⟨r, rfl, hr, hge, hb⟩
        have HB4 := Lib.hid ((HBL.out.trans (hbw.mono HBL.out.size)).trans (hb.mono (Nat.le_trans HBL.out.size hbw.size)))
        have HG := Lib.hid (show w.heap.size ≤ r from Nat.le_trans HBL.out.size (Nat.le_trans hbw.size hge))
        rw [← ahead_zero] at hr
        have HR := Lib.hid hr
        clear hr hb hge hby hbw HBL hcb hx hk hk2 hs i1 i2 hall
        go_wp2_with fail
        go_loopw [9, 10, 11, 12, 13] (fun a i _ _ _ wr => ∃ k : Nat, k ≤ l0.length ∧ i = .int .i64 k ∧ a = .int .i64 ((allOf (l0.take k)).length : Nat) ∧ Hid (Rd wr r (ahead l0 c k)) ∧ Hid (Below w.heap.size w wr)) (fun _ i _ _ _ _ => l0.length - (intOf i).toNat)
        case atStart => exact ⟨0, by omega, rfl, rfl, HR, HB4⟩
        case round =>
          clear HR HB4
          obtain ⟨k, hk, rfl, rfl, HR, HBL⟩ := hrel
          by_cases hk2 : k < l0.length
          · obtain ⟨b, off, A', c', rfl, f0, f1, f2, -, hv⟩ := HB.out.at_ hk2
            have HV := Lib.hid hv
            have F0 := Lib.hid f0
            have F1 := Lib.hid f1
            have F2 := Lib.hid f2
            have HL := Lib.hid (HA.out (k + 1))
            obtain ⟨La, hLa⟩ : ∃ La, (allOf (l0.take k)).length = La := ⟨_, rfl⟩
            rw [hLa]
            have g0 := (HBL.out.cell (cell_lt f0)).trans f0
            have g1 := (HBL.out.cell (cell_lt f1)).trans f1
            have g2 := (HBL.out.cell (cell_lt f2)).trans f2
            clear hv f0 f1 f2
            go_wp2_with fail
            refine (plain_calls _ _ _ (HV.out.below HBL.out)).mono ?_
            rintro e w5 ⟨A5, m5, c5, rfl, hm5, hb5, hbb⟩
            have HB5 := Lib.hid (HBL.out.trans (hbb.mono HBL.out.size))
            have HR5 := Lib.hid (HR.out.below hbb)
            have HY5 := Lib.hid hb5
            clear hb5 hbb HR HBL g0 g1 g2
            have ha := HL.out
            rw [allOf_take l0 k hk2, List.length_append] at ha
            have HLR := Lib.hid hm5
            have HRW := Lib.hid (Part.raw_lt (HV.out))
            have hcp0 := fun (wx : World) (hy : Bytes wx A5 l0[k].raw) => conv_str hy c5 25 9 5 Try.underlying25 Try.underlying5 Try.underlying9
            rw [hm5] at hcp0
            have HX := Lib.hid (show ∀ wx, Bytes wx A5 l0[k].raw → (convert 25 9 (.slice A5 m5 c5)).run Try.prog wx = .ok (.string (str l0[k].raw)) wx from hcp0)
            have hcp := HX.out _ HY5.out
            have HLA2 := Lib.hid (show (allOf (l0.take (k + 1))).length = La + m5 by rw [allOf_take l0 k hk2, List.length_append, hLa, hm5])
            have HW1 := Lib.hid (ahead_whole l0 c k hk2 HCL.out)
            have HT1 := Lib.hid (ahead_torn l0 c k hk2 HCL.out)
            rw [hLa, hm5] at HW1 HT1 ha
            have HM5 := Lib.hid (show m5 ≤ 2480 by omega)
            have e1 : IntKind.i64.wrap ((La : Int) + (m5 : Int)) = (La : Int) + (m5 : Int) := IntWalk.i64_in _ (by omega)
            have HVd := Lib.hid (HV.out.below HB5.out)
            have HYd := HY5
            have HRd := HR5
            have HBd := HB5
            have g0 := (HBd.out.cell (cell_lt F0.out)).trans F0.out
            have g1 := (HBd.out.cell (cell_lt F1.out)).trans F1.out
            have g2 := (HBd.out.cell (cell_lt F2.out)).trans F2.out
            clear hcp0 HY5 HR5 HB5 hm5 hLa
            by_cases hw : La + m5 ≤ c
            · obtain ⟨fc, ft, ⟨x, hx⟩, hx2⟩ := HW1.out hw
              rw [hx] at fc ft HRd
              have FC := Lib.hid fc
              have FT := Lib.hid ft
              obtain ⟨q, hq⟩ : ∃ q : Nat, q = c - (La + m5) := ⟨_, rfl⟩
              have HLF := Lib.hid (show Fld.leftOf (ahead l0 c (k + 1)) = q by rw [hx2, hq]; simp only [Fld.leftOf, List.length_drop, HCT.out])
              have e2 : IntKind.i64.wrap ((c : Int) - ((La : Int) + (m5 : Int))) = (q : Int) := by rw [IntWalk.i64_in _ (by have := HC0.out; omega)]; omega
              have e3 : (La : Int) + (m5 : Int) ≤ (c : Int) := by omega
              clear fc ft hx hx2 hq HW1 HT1 hw ha
              by_cases hz : l0[k].sz = 0
              · skip
                go_wp2_with (first
                  | (go_at_call 21; refine (bad_calls _ _ _ HRd.out).mono ?_; rintro e w' ⟨rfl, rfl⟩)
                  | (go_at_call 19; refine (left_calls _ _ _ HRd.out).mono ?_; rintro e w' ⟨rfl, rfl⟩; rw [HLF.out])
                  | (go_at_call 23; refine (size_calls _ _ l0[k] HVd.out).mono ?_; rintro e w6 ⟨rfl, hb⟩; rw [hz]; replace HYd := Lib.hid (HYd.out.below hb); replace HRd := Lib.hid (HRd.out.below hb); replace HBd := Lib.hid (HBd.out.trans (hb.mono HBd.out.size)); replace g0 := (HBd.out.cell (cell_lt F0.out)).trans F0.out; replace g1 := (HBd.out.cell (cell_lt F1.out)).trans F1.out; replace g2 := (HBd.out.cell (cell_lt F2.out)).trans F2.out; replace HVd := Lib.hid (HV.out.below HBd.out); replace hcp := HX.out _ HYd.out; clear hb)
                  | (go_at_call 17; refine (getRaw _ _ _ _ HRd.out (by omega) (by have := HM5.out; omega) (by rw [FC.out]; have := HM5.out; have := HLR.out; first | omega | simp)).mono ?_; rintro e w7 ⟨v7, rfl, ho, hr, hp⟩; rw [FC.out] at ho; rw [FT.out] at hr; have hcv := conv_own ho (by first | exact HRW.out | simp); (try rw [show str ([] : List Nat) = { data := #[] } from rfl] at hcv); clear ho; replace HYd := Lib.hid (bytes_reader HYd.out HRd.out hp); replace HBd := Lib.hid (HBd.out.trans ((hp.mono HBd.out.size).below HG.out)); replace HRd := Lib.hid hr; replace g0 := (HBd.out.cell (cell_lt F0.out)).trans F0.out; replace g1 := (HBd.out.cell (cell_lt F1.out)).trans F1.out; replace g2 := (HBd.out.cell (cell_lt F2.out)).trans F2.out; replace HVd := Lib.hid (HV.out.below HBd.out); replace hcp := HX.out _ HYd.out; clear hp hr))
                go_roundw
                case rel => exact ⟨k + 1, by omega, by go_num, by rw [HLA2.out]; first | rfl | (congr 1), (by first | exact HRd.out | (rw [HX2.out]; exact HRd.out) | (rw [HX2.out]; exact HRd.out.below hbm.out)), (by first | exact HBd.out | exact HBd.out.trans (hbm.out.mono HBd.out.size))⟩
                case measure => simp [intOf]; omega
              · have HSZ := Lib.hid (show l0[k].sz = m5 by have h := Part.raw_len l0[k]; rw [if_neg hz, HLR.out] at h; exact h.symm)
                have HK5 := Lib.hid (show (m5 : Int) = 1 ∨ (m5 : Int) = 2 ∨ (m5 : Int) = 4 ∨ (m5 : Int) = 8 by have := HSZ.out; rcases sz_cases l0[k] with h | h | h | h | h <;> omega)
                have hd : ((m5 : Int) == 0) = false := by have := HK5.out; rw [beq_eq_false_iff_ne]; omega
                have hpos : (0 : Int) < (m5 : Int) := by have := HK5.out; omega
                have HBE := Lib.hid (show be m5 (num l0[k].raw) = l0[k].raw by have := be_num l0[k].raw HRW.out; rw [HLR.out] at this; exact this)
                have HNL := Lib.hid (show num l0[k].raw < 18446744073709551616 by have h := num_lt l0[k].raw HRW.out; rw [HLR.out] at h; exact Nat.lt_of_lt_of_le h (Nat.pow_le_pow_right (show 0 < 256 by decide) (show m5 ≤ 8 by have := HK5.out; omega)))
                go_wp2_with (first
                  | (go_at_call 21; refine (bad_calls _ _ _ HRd.out).mono ?_; rintro e w' ⟨rfl, rfl⟩)
                  | (go_at_call 19; refine (left_calls _ _ _ HRd.out).mono ?_; rintro e w' ⟨rfl, rfl⟩; rw [HLF.out])
                  | (go_at_call 23; refine (size_calls _ _ l0[k] HVd.out).mono ?_; rintro e w6 ⟨rfl, hb⟩; rw [HSZ.out]; replace HYd := Lib.hid (HYd.out.below hb); replace HRd := Lib.hid (HRd.out.below hb); replace HBd := Lib.hid (HBd.out.trans (hb.mono HBd.out.size)); replace g0 := (HBd.out.cell (cell_lt F0.out)).trans F0.out; replace g1 := (HBd.out.cell (cell_lt F1.out)).trans F1.out; replace g2 := (HBd.out.cell (cell_lt F2.out)).trans F2.out; replace HVd := Lib.hid (HV.out.below HBd.out); replace hcp := HX.out _ HYd.out; clear hb)
                  | (go_at_call 15; refine (get_calls _ _ _ _ HRd.out HK5.out).mono ?_; rintro e w7 ⟨rfl, hr, hp⟩; rw [FC.out]; rw [FT.out] at hr; replace HYd := Lib.hid (bytes_reader HYd.out HRd.out hp); replace HBd := Lib.hid (HBd.out.trans ((hp.mono HBd.out.size).below HG.out)); replace HRd := Lib.hid hr; replace g0 := (HBd.out.cell (cell_lt F0.out)).trans F0.out; replace g1 := (HBd.out.cell (cell_lt F1.out)).trans F1.out; replace g2 := (HBd.out.cell (cell_lt F2.out)).trans F2.out; replace HVd := Lib.hid (HV.out.below HBd.out); replace hcp := HX.out _ HYd.out; clear hp hr)
                  | (go_at_call 33; refine (refBytes _ _ _ HNL.out (by have := HK5.out; omega)).mono ?_; rintro e w8 ⟨v8, rfl, ho, hb⟩; rw [HBE.out] at ho; have hcv := conv_own ho (by first | exact HRW.out | (intro x hx; have := List.eq_of_mem_replicate hx; omega)); clear ho; replace HYd := Lib.hid (HYd.out.below hb); replace HRd := Lib.hid (HRd.out.below hb); replace HBd := Lib.hid (HBd.out.trans (hb.mono HBd.out.size)); replace g0 := (HBd.out.cell (cell_lt F0.out)).trans F0.out; replace g1 := (HBd.out.cell (cell_lt F1.out)).trans F1.out; replace g2 := (HBd.out.cell (cell_lt F2.out)).trans F2.out; replace HVd := Lib.hid (HV.out.below HBd.out); replace hcp := HX.out _ HYd.out; clear hb))
                go_roundw
                case rel => exact ⟨k + 1, by omega, by go_num, by rw [HLA2.out]; first | rfl | (congr 1), (by first | exact HRd.out | (rw [HX2.out]; exact HRd.out) | (rw [HX2.out]; exact HRd.out.below hbm.out)), (by first | exact HBd.out | exact HBd.out.trans (hbm.out.mono HBd.out.size))⟩
                case measure => simp [intOf]; omega
            · obtain ⟨fc, ft, hx2⟩ := HT1.out (by omega)
              have e3 : ¬ (La : Int) + (m5 : Int) ≤ (c : Int) := by omega
              have HLF := Lib.hid (show Fld.leftOf none = 0 by rfl)
              clear HW1 HT1 hw ha
              cases hst : ahead l0 c k with
              | none =>
                rw [hst] at fc ft HRd
                have FC := Lib.hid fc
                have FT := Lib.hid ft
                have HX2 := Lib.hid hx2
                clear fc ft hst hx2
                by_cases hz : l0[k].sz = 0
                · skip
                  go_wp2_with (first
                    | (go_at_call 21; refine (bad_calls _ _ _ HRd.out).mono ?_; rintro e w' ⟨rfl, rfl⟩)
                    | (go_at_call 19; refine (left_calls _ _ _ HRd.out).mono ?_; rintro e w' ⟨rfl, rfl⟩; rw [HLF.out])
                    | (go_at_call 23; refine (size_calls _ _ l0[k] HVd.out).mono ?_; rintro e w6 ⟨rfl, hb⟩; rw [hz]; replace HYd := Lib.hid (HYd.out.below hb); replace HRd := Lib.hid (HRd.out.below hb); replace HBd := Lib.hid (HBd.out.trans (hb.mono HBd.out.size)); replace g0 := (HBd.out.cell (cell_lt F0.out)).trans F0.out; replace g1 := (HBd.out.cell (cell_lt F1.out)).trans F1.out; replace g2 := (HBd.out.cell (cell_lt F2.out)).trans F2.out; replace HVd := Lib.hid (HV.out.below HBd.out); replace hcp := HX.out _ HYd.out; clear hb)
                    | (go_at_call 17; refine (getRaw _ _ _ _ HRd.out (by omega) (by have := HM5.out; omega) (by rw [FC.out]; have := HM5.out; have := HLR.out; first | omega | simp)).mono ?_; rintro e w7 ⟨v7, rfl, ho, hr, hp⟩; rw [FC.out] at ho; rw [FT.out] at hr; have hcv := conv_own ho (by first | exact HRW.out | simp); (try rw [show str ([] : List Nat) = { data := #[] } from rfl] at hcv); clear ho; replace HYd := Lib.hid (bytes_reader HYd.out HRd.out hp); replace HBd := Lib.hid (HBd.out.trans ((hp.mono HBd.out.size).below HG.out)); replace HRd := Lib.hid hr; replace g0 := (HBd.out.cell (cell_lt F0.out)).trans F0.out; replace g1 := (HBd.out.cell (cell_lt F1.out)).trans F1.out; replace g2 := (HBd.out.cell (cell_lt F2.out)).trans F2.out; replace HVd := Lib.hid (HV.out.below HBd.out); replace hcp := HX.out _ HYd.out; clear hp hr))
                  go_roundw
                  case rel => exact ⟨k + 1, by omega, by go_num, by rw [HLA2.out]; first | rfl | (congr 1), (by first | exact HRd.out | (rw [HX2.out]; exact HRd.out) | (rw [HX2.out]; exact HRd.out.below hbm.out)), (by first | exact HBd.out | exact HBd.out.trans (hbm.out.mono HBd.out.size))⟩
                  case measure => simp [intOf]; omega
                · have HSZ := Lib.hid (show l0[k].sz = m5 by have h := Part.raw_len l0[k]; rw [if_neg hz, HLR.out] at h; exact h.symm)
                  have HK5 := Lib.hid (show (m5 : Int) = 1 ∨ (m5 : Int) = 2 ∨ (m5 : Int) = 4 ∨ (m5 : Int) = 8 by have := HSZ.out; rcases sz_cases l0[k] with h | h | h | h | h <;> omega)
                  have hd : ((m5 : Int) == 0) = false := by have := HK5.out; rw [beq_eq_false_iff_ne]; omega
                  have hpos : (0 : Int) < (m5 : Int) := by have := HK5.out; omega
                  have HBE := Lib.hid (show be m5 (num []) = List.replicate m5 0 from be_zero m5)
                  have HNL := Lib.hid (show num [] < 18446744073709551616 by decide)
                  obtain ⟨i0, hi0, hi1, hi2, hi3⟩ := info_parts info_u8
                  have HI0 := Lib.hid (show Try.prog.info? 5 = some i0 ∧ i0.zero = some (.int .u8 0) ∧ i0.size = 1 ∧ i0.bytes = 1 from ⟨hi0, hi1, hi2, hi3⟩)
                  clear hi0 hi1 hi2 hi3
                  go_wp2_with (first
                    | (go_at_call 21; refine (bad_calls _ _ _ HRd.out).mono ?_; rintro e w' ⟨rfl, rfl⟩)
                    | (go_at_call 19; refine (left_calls _ _ _ HRd.out).mono ?_; rintro e w' ⟨rfl, rfl⟩; rw [HLF.out])
                    | (go_at_call 23; refine (size_calls _ _ l0[k] HVd.out).mono ?_; rintro e w6 ⟨rfl, hb⟩; rw [HSZ.out]; replace HYd := Lib.hid (HYd.out.below hb); replace HRd := Lib.hid (HRd.out.below hb); replace HBd := Lib.hid (HBd.out.trans (hb.mono HBd.out.size)); replace g0 := (HBd.out.cell (cell_lt F0.out)).trans F0.out; replace g1 := (HBd.out.cell (cell_lt F1.out)).trans F1.out; replace g2 := (HBd.out.cell (cell_lt F2.out)).trans F2.out; replace HVd := Lib.hid (HV.out.below HBd.out); replace hcp := HX.out _ HYd.out; clear hb; obtain ⟨wm, hmk, hom, hgm⟩ := run_make_full (P := Try.prog) w6 w6.heap.size 25 5 i0 _ 1 Try.underlying25 HI0.out.1 HI0.out.2.1 HI0.out.2.2.1 .i64 .i64 m5 (by rw [HI0.out.2.2.2]; have := HM5.out; omega) (by have := HM5.out; simp only [maxLen]; omega) (Nat.le_refl _); have hcm := conv_zero hom; have hbm := Lib.hid ((Below.refl w6.heap.size w6).grown hgm (Nat.le_refl _) (fun _ h => by cases h)); clear hom hgm)
                    | (go_at_call 15; refine (get_calls _ _ _ _ HRd.out HK5.out).mono ?_; rintro e w7 ⟨rfl, hr, hp⟩; rw [FC.out]; rw [FT.out] at hr; replace HYd := Lib.hid (bytes_reader HYd.out HRd.out hp); replace HBd := Lib.hid (HBd.out.trans ((hp.mono HBd.out.size).below HG.out)); replace HRd := Lib.hid hr; replace g0 := (HBd.out.cell (cell_lt F0.out)).trans F0.out; replace g1 := (HBd.out.cell (cell_lt F1.out)).trans F1.out; replace g2 := (HBd.out.cell (cell_lt F2.out)).trans F2.out; replace HVd := Lib.hid (HV.out.below HBd.out); replace hcp := HX.out _ HYd.out; clear hp hr)
                    | (go_at_call 33; refine (refBytes _ _ _ HNL.out (by have := HK5.out; omega)).mono ?_; rintro e w8 ⟨v8, rfl, ho, hb⟩; rw [HBE.out] at ho; have hcv := conv_own ho (by first | exact HRW.out | (intro x hx; have := List.eq_of_mem_replicate hx; omega)); clear ho; replace HYd := Lib.hid (HYd.out.below hb); replace HRd := Lib.hid (HRd.out.below hb); replace HBd := Lib.hid (HBd.out.trans (hb.mono HBd.out.size)); replace g0 := (HBd.out.cell (cell_lt F0.out)).trans F0.out; replace g1 := (HBd.out.cell (cell_lt F1.out)).trans F1.out; replace g2 := (HBd.out.cell (cell_lt F2.out)).trans F2.out; replace HVd := Lib.hid (HV.out.below HBd.out); replace hcp := HX.out _ HYd.out; clear hb))
                  go_roundw
                  case rel => exact ⟨k + 1, by omega, by go_num, by rw [HLA2.out]; first | rfl | (congr 1), (by first | exact HRd.out | (rw [HX2.out]; exact HRd.out) | (rw [HX2.out]; exact HRd.out.below hbm.out)), (by first | exact HBd.out | exact HBd.out.trans (hbm.out.mono HBd.out.size))⟩
                  case measure => simp [intOf]; omega
              | some x =>
                rw [hst] at fc ft HRd
                have FC := Lib.hid fc
                have FT := Lib.hid ft
                have HX2 := Lib.hid hx2
                clear fc ft hst hx2
                by_cases hz : l0[k].sz = 0
                · skip
                  go_wp2_with (first
                    | (go_at_call 21; refine (bad_calls _ _ _ HRd.out).mono ?_; rintro e w' ⟨rfl, rfl⟩)
                    | (go_at_call 19; refine (left_calls _ _ _ HRd.out).mono ?_; rintro e w' ⟨rfl, rfl⟩; rw [HLF.out])
                    | (go_at_call 23; refine (size_calls _ _ l0[k] HVd.out).mono ?_; rintro e w6 ⟨rfl, hb⟩; rw [hz]; replace HYd := Lib.hid (HYd.out.below hb); replace HRd := Lib.hid (HRd.out.below hb); replace HBd := Lib.hid (HBd.out.trans (hb.mono HBd.out.size)); replace g0 := (HBd.out.cell (cell_lt F0.out)).trans F0.out; replace g1 := (HBd.out.cell (cell_lt F1.out)).trans F1.out; replace g2 := (HBd.out.cell (cell_lt F2.out)).trans F2.out; replace HVd := Lib.hid (HV.out.below HBd.out); replace hcp := HX.out _ HYd.out; clear hb)
                    | (go_at_call 17; refine (getRaw _ _ _ _ HRd.out (by omega) (by have := HM5.out; omega) (by rw [FC.out]; have := HM5.out; have := HLR.out; first | omega | simp)).mono ?_; rintro e w7 ⟨v7, rfl, ho, hr, hp⟩; rw [FC.out] at ho; rw [FT.out] at hr; have hcv := conv_own ho (by first | exact HRW.out | simp); (try rw [show str ([] : List Nat) = { data := #[] } from rfl] at hcv); clear ho; replace HYd := Lib.hid (bytes_reader HYd.out HRd.out hp); replace HBd := Lib.hid (HBd.out.trans ((hp.mono HBd.out.size).below HG.out)); replace HRd := Lib.hid hr; replace g0 := (HBd.out.cell (cell_lt F0.out)).trans F0.out; replace g1 := (HBd.out.cell (cell_lt F1.out)).trans F1.out; replace g2 := (HBd.out.cell (cell_lt F2.out)).trans F2.out; replace HVd := Lib.hid (HV.out.below HBd.out); replace hcp := HX.out _ HYd.out; clear hp hr))
                  go_roundw
                  case rel => exact ⟨k + 1, by omega, by go_num, by rw [HLA2.out]; first | rfl | (congr 1), (by first | exact HRd.out | (rw [HX2.out]; exact HRd.out) | (rw [HX2.out]; exact HRd.out.below hbm.out)), (by first | exact HBd.out | exact HBd.out.trans (hbm.out.mono HBd.out.size))⟩
                  case measure => simp [intOf]; omega
                · have HSZ := Lib.hid (show l0[k].sz = m5 by have h := Part.raw_len l0[k]; rw [if_neg hz, HLR.out] at h; exact h.symm)
                  have HK5 := Lib.hid (show (m5 : Int) = 1 ∨ (m5 : Int) = 2 ∨ (m5 : Int) = 4 ∨ (m5 : Int) = 8 by have := HSZ.out; rcases sz_cases l0[k] with h | h | h | h | h <;> omega)
                  have hd : ((m5 : Int) == 0) = false := by have := HK5.out; rw [beq_eq_false_iff_ne]; omega
                  have hpos : (0 : Int) < (m5 : Int) := by have := HK5.out; omega
                  have HBE := Lib.hid (show be m5 (num []) = List.replicate m5 0 from be_zero m5)
                  have HNL := Lib.hid (show num [] < 18446744073709551616 by decide)
                  obtain ⟨i0, hi0, hi1, hi2, hi3⟩ := info_parts info_u8
                  have HI0 := Lib.hid (show Try.prog.info? 5 = some i0 ∧ i0.zero = some (.int .u8 0) ∧ i0.size = 1 ∧ i0.bytes = 1 from ⟨hi0, hi1, hi2, hi3⟩)
                  clear hi0 hi1 hi2 hi3
                  go_wp2_with (first
                    | (go_at_call 21; refine (bad_calls _ _ _ HRd.out).mono ?_; rintro e w' ⟨rfl, rfl⟩)
                    | (go_at_call 19; refine (left_calls _ _ _ HRd.out).mono ?_; rintro e w' ⟨rfl, rfl⟩; rw [HLF.out])
                    | (go_at_call 23; refine (size_calls _ _ l0[k] HVd.out).mono ?_; rintro e w6 ⟨rfl, hb⟩; rw [HSZ.out]; replace HYd := Lib.hid (HYd.out.below hb); replace HRd := Lib.hid (HRd.out.below hb); replace HBd := Lib.hid (HBd.out.trans (hb.mono HBd.out.size)); replace g0 := (HBd.out.cell (cell_lt F0.out)).trans F0.out; replace g1 := (HBd.out.cell (cell_lt F1.out)).trans F1.out; replace g2 := (HBd.out.cell (cell_lt F2.out)).trans F2.out; replace HVd := Lib.hid (HV.out.below HBd.out); replace hcp := HX.out _ HYd.out; clear hb; obtain ⟨wm, hmk, hom, hgm⟩ := run_make_full (P := Try.prog) w6 w6.heap.size 25 5 i0 _ 1 Try.underlying25 HI0.out.1 HI0.out.2.1 HI0.out.2.2.1 .i64 .i64 m5 (by rw [HI0.out.2.2.2]; have := HM5.out; omega) (by have := HM5.out; simp only [maxLen]; omega) (Nat.le_refl _); have hcm := conv_zero hom; have hbm := Lib.hid ((Below.refl w6.heap.size w6).grown hgm (Nat.le_refl _) (fun _ h => by cases h)); clear hom hgm)
                    | (go_at_call 15; refine (get_calls _ _ _ _ HRd.out HK5.out).mono ?_; rintro e w7 ⟨rfl, hr, hp⟩; rw [FC.out]; rw [FT.out] at hr; replace HYd := Lib.hid (bytes_reader HYd.out HRd.out hp); replace HBd := Lib.hid (HBd.out.trans ((hp.mono HBd.out.size).below HG.out)); replace HRd := Lib.hid hr; replace g0 := (HBd.out.cell (cell_lt F0.out)).trans F0.out; replace g1 := (HBd.out.cell (cell_lt F1.out)).trans F1.out; replace g2 := (HBd.out.cell (cell_lt F2.out)).trans F2.out; replace HVd := Lib.hid (HV.out.below HBd.out); replace hcp := HX.out _ HYd.out; clear hp hr)
                    | (go_at_call 33; refine (refBytes _ _ _ HNL.out (by have := HK5.out; omega)).mono ?_; rintro e w8 ⟨v8, rfl, ho, hb⟩; rw [HBE.out] at ho; have hcv := conv_own ho (by first | exact HRW.out | (intro x hx; have := List.eq_of_mem_replicate hx; omega)); clear ho; replace HYd := Lib.hid (HYd.out.below hb); replace HRd := Lib.hid (HRd.out.below hb); replace HBd := Lib.hid (HBd.out.trans (hb.mono HBd.out.size)); replace g0 := (HBd.out.cell (cell_lt F0.out)).trans F0.out; replace g1 := (HBd.out.cell (cell_lt F1.out)).trans F1.out; replace g2 := (HBd.out.cell (cell_lt F2.out)).trans F2.out; replace HVd := Lib.hid (HV.out.below HBd.out); replace hcp := HX.out _ HYd.out; clear hb))
                  go_roundw
                  case rel => exact ⟨k + 1, by omega, by go_num, by rw [HLA2.out]; first | rfl | (congr 1), (by first | exact HRd.out | (rw [HX2.out]; exact HRd.out) | (rw [HX2.out]; exact HRd.out.below hbm.out)), (by first | exact HBd.out | exact HBd.out.trans (hbm.out.mono HBd.out.size))⟩
                  case measure => simp [intOf]; omega
          · obtain rfl : k = l0.length := by omega
            go_wp2_with fail
            refine (works_calls _).mono ?_
            rintro e w9 ⟨rfl, hb9⟩
            go_wp2
            go_ret
            exact ⟨rfl, HBL.out.trans (hb9.mono HBL.out.size)⟩
  · have HD := Lib.hid (decide_eq_false hfew)
    clear hfew
    go_enter Try.func7, Try.ntmps7
    go_wp2_with fail
    refine (few_calls w A0 l0 c0 HB.out hc0 HM.out).mono ?_
    rintro e w1 ⟨rfl, rfl⟩
    rw [HD.out]
    go_wp2_with fail
    refine (works_calls _).mono ?_
    rintro e w5 ⟨rfl, hb⟩
    go_wp2
    go_ret
    exact ⟨rfl, hb⟩
end Go.Proofs.Ytggonoppdekilaa.fieldsCut
