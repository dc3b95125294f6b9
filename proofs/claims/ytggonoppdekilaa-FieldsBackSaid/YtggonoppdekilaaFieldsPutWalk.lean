/- The walk of FieldsPut: a writer has the fields' bytes, one behind the other; what it tells is its own. -/
import Derived.Test.YtggonoppdekilaaFldLaw2
namespace Go.Proofs.Ytggonoppdekilaa.fieldsPut
open Go.RowKit Fld
set_option linter.unusedVariables false

/-- The bytes of fields, one behind the other. -/
def allOf (l : List Part) : List Nat := l.flatMap Part.raw
theorem allOf_take (l : List Part) (k : Nat) (hk : k < l.length) : allOf (l.take (k + 1)) = allOf (l.take k) ++ l[k].raw := by
  unfold allOf; rw [List.take_succ_eq_append_getElem hk, List.flatMap_append]; simp
theorem allOf_len (l : List Part) : (allOf l).length ≤ tot l + 8 * l.length := by
  unfold allOf tot
  induction l with
  | nil => simp
  | cons p l ih =>
    simp only [List.flatMap_cons, List.length_append, List.map_cons, List.sum_cons, List.length_cons]
    have h1 : p.raw.length ≤ p.b.length + 8 := by
      rw [Part.raw_len]; split
      · omega
      · have := szOf_le p.s; unfold Part.sz; omega
    omega
theorem tot_take_le (l : List Part) (k : Nat) : tot (l.take k) ≤ tot l := by
  unfold tot
  have h : l = l.take k ++ l.drop k := (List.take_append_drop k l).symm
  have : (l.map fun p => p.b.length).sum = ((l.take k).map fun p => p.b.length).sum + ((l.drop k).map fun p => p.b.length).sum := by
    conv => lhs; rw [h]
    rw [List.map_append, List.sum_append]
  omega
/-- Each field's byte list is of bytes. -/
theorem Parts.raws {w : World} {A : Option Addr} {l : List Part} (h : Parts w A l) : ∀ p ∈ l, ∀ c ∈ p.raw, c < 256 := by
  intro p hp
  obtain ⟨i, hi, rfl⟩ := List.getElem_of_mem hp
  obtain ⟨b, off, A', c', e, _, _, _, _, hv⟩ := h.at_ hi
  exact Part.raw_lt hv
theorem allOf_lt {w : World} {A : Option Addr} {l : List Part} (h : Parts w A l) (k : Nat) : ∀ c ∈ allOf (l.take k), c < 256 := by
  intro c hc
  obtain ⟨p, hp, hcp⟩ := List.mem_flatMap.1 hc
  exact Parts.raws h p (List.mem_of_mem_take hp) c hcp

/-- A slice that a call has made, its bytes turned as may be, nothing else. -/
structure Flip (w3 wr : World) (v : Value) (n : Nat) : Prop where
  own : ∃ ys : List Nat, ys.length = n ∧ (∀ c ∈ ys, c < 256) ∧ Own wr w3.heap.size 5 v (bv ys)
  bel : Below w3.heap.size w3 wr
theorem Flip.step {w3 wr : World} {v : Value} {n j : Nat} (h : Flip w3 wr v n) (hj : j < n) : ∃ g c y, v = .slice (some ⟨g, 0, none⟩) n c ∧ wr.cell? ⟨g, j, none⟩ = some (.int .u8 ((y : Nat) : Int)) ∧ wr.frozen? ⟨g, j, none⟩ = false ∧ y < 256 ∧
    ∀ z, z < 256 → Flip w3 (wr.setCell ⟨g, j, none⟩ (.int .u8 ((z : Nat) : Int))) v n := by
  obtain ⟨⟨ys, hl, hlt, ho⟩, hb⟩ := h
  obtain ⟨g, c, rfl, hge, -, -⟩ := ho.form1 (by rw [bv_length]; omega)
  rw [bv_length, hl] at ho ⊢
  refine ⟨g, c, ys[j], rfl, ?_, ho.frozenAt (by rw [bv_length]; exact hl) j, hlt _ (List.getElem_mem _), fun z hz => ⟨⟨ys.set j z, by simp [hl], set_lt hlt hz, ?_⟩, hb.setCell hge _⟩⟩
  · rw [ho.cellAt (by rw [bv_length]; exact hl) j (by rw [bv_length]; omega), bv_get]
  · have := ho.set_ (by rw [bv_length]; exact hl) j (.int .u8 (z : Int))
    rw [bv_set] at this
    exact this

set_option maxHeartbeats 1000000 in
set_option maxRecDepth 100000 in
theorem walk (w : World) (A0 : Option Addr) (l0 : List Fld.Part) (c0 : Nat) (hb0 : Fld.Parts w A0 l0) (hc0 : l0.length ≤ 140737488355328) (hm0 : ∀ p ∈ l0, p.b.length ≤ 140737488355328) :
    Calls Try.prog 3 #[.slice A0 l0.length c0] w fun e w' => e = .returned (.bool true) ∧ Below w.heap.size w w' := by
  have HB := Lib.hid hb0
  have HM := Lib.hid hm0
  clear hb0 hm0
  by_cases hfew : l0.length ≤ 60 ∧ tot l0 ≤ 2000
  · have hd : decide (l0.length ≤ 60 ∧ tot l0 ≤ 2000) = true := decide_eq_true hfew
    have HD := Lib.hid hd
    have hl60 := hfew.1
    have HT := Lib.hid hfew.2
    clear hd hfew hc0
    go_enter Try.func3, Try.ntmps3
    go_wp2_with fail
    refine (few_calls w A0 l0 c0 HB.out (by omega) HM.out).mono ?_
    rintro e w1 ⟨rfl, rfl⟩
    rw [HD.out]
    go_wp2_with fail
    have HBL := Lib.hid ((Below.refl w.heap.size w).alloc (Nat.le_refl _) (.cells #[.slice none 0 0] 27))
    have HW := Lib.hid (Wr.new w (B := w.heap.size) (Nat.le_refl _))
    generalize w.alloc (.cells #[.slice none 0 0] 27) = wa at *
    go_loopw [4, 5, 6, 7] (fun s i _ _ wr => ∃ k : Nat, k ≤ l0.length ∧ i = .int .i64 k ∧ s = .string (str (allOf (l0.take k))) ∧ Hid (Wr wr w.heap.size w.heap.size (allOf (l0.take k))) ∧ Hid (Below w.heap.size w wr)) (fun _ i _ _ _ => l0.length - (intOf i).toNat)
    case atStart => exact ⟨0, by omega, rfl, rfl, HW, HBL⟩
    case round =>
      clear HW HBL
      obtain ⟨k, hk, rfl, rfl, HW, HBL⟩ := hrel
      by_cases hk2 : k < l0.length
      · obtain ⟨b, off, A', c', rfl, f0, f1, f2, -, hv⟩ := HB.out.at_ hk2
        have HV := Lib.hid hv
        have F0 := Lib.hid f0
        have F1 := Lib.hid f1
        have F2 := Lib.hid f2
        have hlen : (allOf (l0.take k)).length + l0[k].raw.length ≤ 2480 := by
          have h1 := allOf_len (l0.take (k + 1))
          have h2 := tot_take_le l0 (k + 1)
          have h3 : (l0.take (k + 1)).length ≤ 60 := by simp; omega
          have h4 := HT.out
          rw [allOf_take l0 k hk2, List.length_append] at h1
          omega
        have HL := Lib.hid hlen
        clear hv hlen f0 f1 f2
        have g0 := (HBL.out.cell (cell_lt F0.out)).trans F0.out
        have g1 := (HBL.out.cell (cell_lt F1.out)).trans F1.out
        have g2 := (HBL.out.cell (cell_lt F2.out)).trans F2.out
        go_wp2_with fail
        refine (put_calls _ _ _ _ _ _ HW.out (HV.out.below HBL.out) (by have := HL.out; omega)).mono ?_
        rintro e w2 ⟨rfl, hw2, hp2⟩
        have hb2 := hp2.below (Nat.le_refl _)
        rw [← allOf_take l0 k hk2] at hw2
        have HW2 := Lib.hid hw2
        have HB2 := Lib.hid (HBL.out.trans hb2)
        clear hw2 hp2 hb2 g0 g1 g2 HW HBL
        have g0 := (HB2.out.cell (cell_lt F0.out)).trans F0.out
        have g1 := (HB2.out.cell (cell_lt F1.out)).trans F1.out
        have g2 := (HB2.out.cell (cell_lt F2.out)).trans F2.out
        go_wp2_with fail
        refine (plain_calls _ _ _ (HV.out.below HB2.out)).mono ?_
        rintro e w3 ⟨A3, m3, c3, rfl, rfl, hb3, hbb⟩
        have hcv := conv_str hb3 c3 25 9 5 Try.underlying25 Try.underlying5 Try.underlying9
        have HW3 := Lib.hid (HW2.out.below hbb)
        have HB3 := Lib.hid (HB2.out.trans (hbb.mono HB2.out.size))
        have hadd : ∀ w : World, (Op.stringOp .add (str (allOf (l0.take k))) (str l0[k].raw)).run Try.prog w = .ok (.string (str (allOf (l0.take (k + 1))))) w := fun w => by
          rw [run_string_add_sum w _ _ (by rw [str_size, str_size]; have := HL.out; omega), ← str_append, allOf_take l0 k hk2]
        clear hb3 hbb HW2 HB2 g0 g1 g2
        go_wp2_with fail
        clear hcv hadd
        refine (out_calls _ _ _ _ HW3.out (by rw [allOf_take l0 k hk2, List.length_append]; have := HL.out; omega)).mono ?_
        rintro e w4 ⟨v4, rfl, ho, hb⟩
        have hcv := conv_own ho HW3.out.bytes
        obtain ⟨A4, c4, rfl, -, -⟩ := ho.form
        have HF := Lib.hid (Flip.mk ⟨_, rfl, HW3.out.bytes, ho⟩ hb)
        rw [bv_length] at hcv HF ⊢
        clear ho hb
        go_wp2_with fail
        clear hcv
        generalize hm : (allOf (l0.take (k + 1))).length = m at *
        have hm2 : m ≤ 2480 := by rw [← hm, allOf_take l0 k hk2, List.length_append]; exact HL.out
        go_loopw [7] (fun kk wr => ∃ j : Nat, j ≤ m ∧ kk = .int .i64 j ∧ Hid (Flip w3 wr (.slice A4 m c4) m)) (fun kk _ => m - (intOf kk).toNat)
        case atStart => exact ⟨0, by omega, rfl, HF⟩
        case round =>
          clear HF
          obtain ⟨j, hj, rfl, HF⟩ := hrel
          by_cases hj2 : j < m
          · obtain ⟨g6, c6, y, hv, q0, q1, hy, hq⟩ := HF.out.step hj2
            simp only [Value.slice.injEq, true_and] at hv
            obtain ⟨rfl, rfl⟩ := hv
            have hx := u8_xor_nat y 255 hy (by decide)
            have hz : y ^^^ 255 < 256 := Nat.xor_lt_two_pow (n := 8) (by omega) (by decide)
            generalize y ^^^ 255 = z at *
            have HQ := Lib.hid (hq z hz)
            have hx2 : bits .xor .u8 (y : Int) 255 = (z : Int) := hx
            clear hq hx HF
            go_wp2
            go_roundw
            case rel => exact ⟨j + 1, by omega, by go_num, HQ⟩
            case measure => simp [intOf]; omega
          · obtain rfl : j = m := by omega
            go_wp2
            go_roundw
            case rel => exact ⟨k + 1, by omega, by go_num, rfl, HW3.out.below HF.out.bel, HB3.out.trans (HF.out.bel.mono HB3.out.size)⟩
            case measure => simp [intOf]; omega
      · obtain rfl : k = l0.length := by omega
        have hlen : (allOf (l0.take l0.length)).length ≤ 2480 := by
          have h1 := allOf_len (l0.take l0.length)
          have h2 := tot_take_le l0 l0.length
          have h3 : (l0.take l0.length).length ≤ 60 := by simp; omega
          have h4 := HT.out
          omega
        go_wp2_with fail
        refine (out_calls _ _ _ _ HW.out (by omega)).mono ?_
        rintro e w4 ⟨v4, rfl, ho, hb⟩
        have hcv := conv_own ho HW.out.bytes
        have HB4 := Lib.hid (HBL.out.trans (hb.mono HBL.out.size))
        clear ho hb
        go_wp2_with fail
        refine (works_calls _).mono ?_
        rintro e w5 ⟨rfl, hb⟩
        go_wp2
        go_ret
        exact ⟨rfl, HB4.out.trans (hb.mono HB4.out.size)⟩
  · have HD := Lib.hid (decide_eq_false hfew)
    clear hfew
    go_enter Try.func3, Try.ntmps3
    go_wp2_with fail
    refine (few_calls w A0 l0 c0 HB.out hc0 HM.out).mono ?_
    rintro e w1 ⟨rfl, rfl⟩
    rw [HD.out]
    go_wp2_with fail
    refine (works_calls _).mono ?_
    rintro e w5 ⟨rfl, hb⟩
    go_wp2
    go_ret
    exact ⟨rfl, hb⟩
end Go.Proofs.Ytggonoppdekilaa.fieldsPut
