/- The walk of FieldsHalves: a number is as its halves, put and read. -/
import Derived.Test.YtggonoppdekilaaFldLaw2
namespace Go.Proofs.Ytggonoppdekilaa.fieldsHalves
open Go.RowKit Fld
set_option linter.unusedVariables false

theorem wr_nil {w : World} {B g : Nat} (h : Block w g 27 #[.slice none 0 0]) (hB : B ≤ w.heap.size) : Wr w B g [] := ⟨_, h, Own.nil _ _ _, by simp, hB⟩
theorem wr_far {w w' : World} {B B' g g' : Nat} {l : List Nat} {v : Value} (h : Wr w B g l) (hp : Past B' g' w w') (hB : w.heap.size ≤ B') (hb : Block w g' 27 #[v]) (hg : g ≠ g') : Wr w' B g l :=
  h.past hp hB hb (by decide) hg
theorem be8 (n : Nat) : be 8 n = [n / 256 ^ 7 % 256, n / 256 ^ 6 % 256, n / 256 ^ 5 % 256, n / 256 ^ 4 % 256, n / 256 ^ 3 % 256, n / 256 ^ 2 % 256, n / 256 % 256, n % 256] := by
  simp [be, List.range_succ]
theorem be4 (n : Nat) : be 4 n = [n / 256 ^ 3 % 256, n / 256 ^ 2 % 256, n / 256 % 256, n % 256] := by simp [be, List.range_succ]
theorem be2 (n : Nat) : be 2 n = [n / 256 % 256, n % 256] := by simp [be, List.range_succ]
theorem be1 (n : Nat) : be 1 n = [n % 256] := by simp [be, List.range_succ]
theorem halves4 (n x0 x1 : Nat) (h0 : x0 = n / 4294967296) (h1 : x1 = n % 4294967296) : [] ++ be 4 x0 ++ be 4 x1 = be 8 n := by
  subst h0 h1
  simp only [be4, be8, List.nil_append, List.cons_append, List.cons.injEq, and_true, true_and, Nat.reducePow]
  (repeat' apply And.intro) <;> omega
theorem halves2 (n k j y : Nat) (hj : j + k = 3) (hy : y = n / 2 ^ (16 * j) % 65536) : (be 8 n).take (2 * k) ++ be 2 y = (be 8 n).take (2 * (k + 1)) := by
  subst hy
  have : k = 0 ∨ k = 1 ∨ k = 2 ∨ k = 3 := by omega
  rcases this with rfl | rfl | rfl | rfl
  · obtain rfl : j = 3 := by omega
    simp [be8, be2]; omega
  · obtain rfl : j = 2 := by omega
    simp [be8, be2]; omega
  · obtain rfl : j = 1 := by omega
    simp [be8, be2]; omega
  · obtain rfl : j = 0 := by omega
    simp [be8, be2]; omega
theorem halves1 (n k j y : Nat) (hj : j + k = 7) (hy : y = n / 2 ^ (8 * j) % 256) : (be 8 n).take k ++ be 1 y = (be 8 n).take (k + 1) := by
  rw [be_take 8 n k (by omega), show 8 - 1 - k = j by omega, be1, hy, show (256 : Nat) = 2 ^ 8 by rfl, ← Nat.pow_mul, Nat.mod_mod]
theorem parts_t (n : Nat) (hn : n < 18446744073709551616) : ∃ y0 y1 y2 y3, be 8 n = be 2 y0 ++ (be 1 y1 ++ (be 1 y2 ++ (be 4 y3 ++ []))) ∧ y0 < 65536 ∧ y1 < 256 ∧ y2 < 256 ∧ y3 < 4294967296 ∧ y0 * 281474976710656 + y1 * 1099511627776 + y2 * 4294967296 + y3 = n := by
  refine ⟨n / 281474976710656, n / 1099511627776 % 256, n / 4294967296 % 256, n % 4294967296, ?_, by omega, by omega, by omega, by omega, by omega⟩
  simp only [be8, be4, be2, be1, List.append_nil, List.nil_append, List.cons_append, List.cons.injEq, and_true, true_and, Nat.reducePow]
  (repeat' apply And.intro) <;> omega
theorem parts_r (n : Nat) (hn : n < 18446744073709551616) : ∃ x0 x1, be 8 n = be 4 x0 ++ (be 4 x1 ++ []) ∧ x0 < 4294967296 ∧ x1 < 4294967296 ∧ x0 * 4294967296 + x1 = n := by
  refine ⟨n / 4294967296, n % 4294967296, ?_, by omega, by omega, by omega⟩
  simp only [be8, be4, List.append_nil, List.nil_append, List.cons_append, List.cons.injEq, and_true, true_and, Nat.reducePow]
  (repeat' apply And.intro) <;> omega
theorem num_at (k x : Nat) (l : List Nat) (h : x < 256 ^ k) : num (cutOf (some (be k x ++ l)) (k : Int)) = x := by
  rw [cutOf_app _ _ _ (by rw [be_len]), num_be, Nat.mod_eq_of_lt h]
theorem to_at (k x : Nat) (l : List Nat) : cutTo (some (be k x ++ l)) (k : Int) = some l := cutTo_app _ _ _ (by rw [be_len])

theorem rd_far {w w' : World} {r r' : Nat} {st st' : Option (List Nat)} (h : Rd w r st) (h' : Rd w r' st') (hp : Past w.heap.size r' w w') (hr : r ≠ r') : Rd w' r st := by
  obtain ⟨A, n, c, f, hb, _⟩ := h'
  exact h.past hp (Nat.le_refl _) hb (noByte_rd _ _ _ _) hr

set_option maxHeartbeats 2000000 in
set_option maxRecDepth 100000 in
theorem walk (w : World) (n0 : Nat) (hn0 : n0 < 18446744073709551616) :
    Calls Try.prog 6 #[.int .u64 (n0 : Nat)] w fun e w' => e = .returned (.bool true) ∧ Below w.heap.size w w' := by
  go_enter Try.func6, Try.ntmps6
  go_wp2_with fail
  generalize hw4 : (((w.alloc (.cells #[.slice none 0 0] 27)).alloc (.cells #[.slice none 0 0] 27)).alloc (.cells #[.slice none 0 0] 27)).alloc (.cells #[.slice none 0 0] 27) = w4 at *
  have hst : Block w4 w.heap.size 27 #[.slice none 0 0] ∧ Block w4 (w.heap.size + 1) 27 #[.slice none 0 0] ∧ Block w4 (w.heap.size + 1 + 1) 27 #[.slice none 0 0] ∧ Block w4 (w.heap.size + 1 + 1 + 1) 27 #[.slice none 0 0] ∧ Below w.heap.size w w4 ∧ w4.heap.size = w.heap.size + 4 := by
    subst hw4
    have b1 := Block.new w 27 #[.slice none 0 0]
    have b2 := Block.new (w.alloc (.cells #[.slice none 0 0] 27)) 27 #[.slice none 0 0]
    have b3 := Block.new ((w.alloc (.cells #[.slice none 0 0] 27)).alloc (.cells #[.slice none 0 0] 27)) 27 #[.slice none 0 0]
    have b4 := Block.new (((w.alloc (.cells #[.slice none 0 0] 27)).alloc (.cells #[.slice none 0 0] 27)).alloc (.cells #[.slice none 0 0] 27)) 27 #[.slice none 0 0]
    simp only [World.size_alloc] at b2 b3 b4
    exact ⟨((b1.alloc _).alloc _).alloc _, (b2.alloc _).alloc _, b3.alloc _, b4, ((((Below.refl w.heap.size w).alloc (Nat.le_refl _) _).alloc (by simp) _).alloc (by simp; omega) _).alloc (by simp; omega) _, by simp⟩
  obtain ⟨hba, hbb, hbc, hbd, hP, hsz⟩ := hst
  have hP := Lib.hid hP
  have HA := Lib.hid (wr_nil hba (Nat.le_refl _))
  have HBb := Lib.hid hbb
  have HBc := Lib.hid hbc
  have HBd := Lib.hid hbd
  have HSZ := Lib.hid hsz
  have HBa := Lib.hid hba
  clear hba hbb hbc hbd hw4 hsz
  refine (put8 _ _ _ _ _ HA.out (by omega) (by omega) (by simp)).mono ?_
  rintro e w5 ⟨rfl, h5, p5⟩
  rw [Int.toNat_natCast, List.nil_append] at h5
  have hs4 := HSZ.out
  have hs5 := p5.size
  replace hP := Lib.hid (hP.out.trans ((p5.mono (by omega)).below (Nat.le_refl _)))
  replace HBb := Lib.hid (HBb.out.past p5 (by omega) (by omega))
  replace HBc := Lib.hid (HBc.out.past p5 (by omega) (by omega))
  replace HBd := Lib.hid (HBd.out.past p5 (by omega) (by omega))
  replace HA := Lib.hid h5
  have HS5 := Lib.hid (show w.heap.size + 4 ≤ w5.heap.size by omega)
  have HX := Lib.hid (wr_nil HBb.out (Nat.le_refl _))
  clear h5 p5 hs4 hs5 HSZ HBa
  -- two words
  obtain ⟨x0, hx0⟩ : ∃ x0, x0 = n0 / 4294967296 := ⟨_, rfl⟩
  obtain ⟨x1, hx1⟩ : ∃ x1, x1 = n0 % 4294967296 := ⟨_, rfl⟩
  have e0 : IntKind.u32.wrap ((n0 : Int) / 4294967296) = (x0 : Int) := by rw [IntKind.wrap_u32']; omega
  have e1 : IntKind.u32.wrap (n0 : Int) = (x1 : Int) := by rw [IntKind.wrap_u32']; omega
  have l0 : (x0 : Int) < 4294967296 := by omega
  have l1 : (x1 : Int) < 4294967296 := by omega
  have HH4 := Lib.hid (halves4 n0 x0 x1 hx0 hx1)
  clear hx0 hx1
  go_wp2_with fail
  refine (put4 _ _ _ _ _ HX.out (by omega) l0 (by simp)).mono ?_
  rintro e w6 ⟨rfl, h6, p6⟩
  go_wp2_with fail
  refine (put4 _ _ _ _ _ h6 (by omega) l1 (by simp [be_len])).mono ?_
  rintro e w7 ⟨rfl, h7, p7⟩
  rw [Int.toNat_natCast, Int.toNat_natCast, HH4.out] at h7
  have pp := p6.trans p7
  have hs5 := HS5.out
  have hs7 := pp.size
  replace hP := Lib.hid (hP.out.trans ((pp.mono (by omega)).below (by omega)))
  replace HA := Lib.hid (wr_far HA.out pp (Nat.le_refl _) HBb.out (by omega))
  replace HBc := Lib.hid (HBc.out.past pp (by omega) (by omega))
  replace HBd := Lib.hid (HBd.out.past pp (by omega) (by omega))
  replace HBb := Lib.hid h7
  have HS7 := Lib.hid (show w.heap.size + 4 ≤ w7.heap.size by omega)
  clear h6 p6 h7 p7 pp hs5 hs7 HX HH4 HS5 e0 e1 l0 l1
  -- four shorts
  go_wp2_with fail
  have hc0 := wr_nil HBc.out (Nat.le_refl _)
  go_loopw [7] (fun i wr => ∃ k : Nat, k ≤ 4 ∧ i = .int .i64 (3 - k : Int) ∧ Hid (Wr wr w7.heap.size (w.heap.size + 1 + 1) ((be 8 n0).take (2 * k))) ∧ Hid (Past w7.heap.size (w.heap.size + 1 + 1) w7 wr)) (fun i _ => (intOf i + 1).toNat)
  case atStart => exact ⟨0, by omega, rfl, hc0, Past.refl _ _ _⟩
  case round =>
    obtain ⟨k, hk, rfl, HW, HP⟩ := hrel
    by_cases hlt : k < 4
    · obtain ⟨j, hj⟩ : ∃ j : Nat, j + k = 3 := ⟨3 - k, by omega⟩
      rw [show (3 - (k : Int)) = (j : Int) by omega]
      have hq : (j : Int) ≤ 3 := by omega
      have e1 : IntKind.i64.wrap (16 * (j : Int)) = 16 * (j : Int) := IntWalk.i64_in _ (by omega)
      have e2 : (0 : Int) ≤ 16 * (j : Int) := by omega
      have e3 : (16 * (j : Int)).toNat = 16 * j := by omega
      obtain ⟨y, hy, hy2⟩ : ∃ y : Nat, IntKind.u16.wrap ((n0 : Int) / 2 ^ (16 * j)) = (y : Int) ∧ y = n0 / 2 ^ (16 * j) % 65536 := ⟨_, by simp [IntKind.wrap, IntKind.bits, IntKind.signed], rfl⟩
      have hy3 : (y : Int) < 65536 := by omega
      have HL := Lib.hid (halves2 n0 k j y hj hy2)
      clear hy2
      go_wp2_with (go_at_call 27; refine (put2 _ _ _ _ _ HW.out (by omega) hy3 (by rw [List.length_take, be_len]; omega)).mono ?_; rintro e w8 ⟨rfl, h8, p8⟩)
      rw [Int.toNat_natCast, HL.out] at h8
      go_roundw
      case rel => exact ⟨k + 1, by omega, by go_num, h8, HP.out.trans p8⟩
      case measure => first | (simp [intOf]; done) | (simp [intOf]; omega)
    · obtain rfl : k = 4 := by omega
      rw [show (3 - ((4 : Nat) : Int)) = -1 by rfl]
      rw [show (be 8 n0).take (2 * 4) = be 8 n0 from be_take_all 8 n0] at HW
      have hs7 := HS7.out
      have hs9 := HP.out.size
      replace hP := Lib.hid (hP.out.trans ((HP.out.mono (by omega)).below (by omega)))
      replace HA := Lib.hid (wr_far HA.out HP.out (Nat.le_refl _) HBc.out (by omega))
      replace HBb := Lib.hid (wr_far HBb.out HP.out (Nat.le_refl _) HBc.out (by omega))
      replace HBd := Lib.hid (HBd.out.past HP.out (by omega) (by omega))
      have HS9 := Lib.hid (show w.heap.size + 4 ≤ wr.heap.size by omega)
      clear HBc HS7 hs7 hs9 HP hc0 hlt hk
      have hd0 := wr_nil HBd.out (Nat.le_refl _)
      go_wp2_with fail
      generalize hwr : wr = w9 at *
      clear hwr
      go_loopw [8] (fun i wr => ∃ k : Nat, k ≤ 8 ∧ i = .int .i64 (7 - k : Int) ∧ Hid (Wr wr w9.heap.size (w.heap.size + 1 + 1 + 1) ((be 8 n0).take k)) ∧ Hid (Past w9.heap.size (w.heap.size + 1 + 1 + 1) w9 wr)) (fun i _ => (intOf i + 1).toNat)
      case atStart => exact ⟨0, by omega, rfl, hd0, Past.refl _ _ _⟩
      case round =>
        obtain ⟨k, hk, rfl, HZ, HP⟩ := hrel
        by_cases hlt : k < 8
        · obtain ⟨j, hj⟩ : ∃ j : Nat, j + k = 7 := ⟨7 - k, by omega⟩
          rw [show (7 - (k : Int)) = (j : Int) by omega]
          have hq : (j : Int) ≤ 7 := by omega
          have e1 : IntKind.i64.wrap (8 * (j : Int)) = 8 * (j : Int) := IntWalk.i64_in _ (by omega)
          have e2 : (0 : Int) ≤ 8 * (j : Int) := by omega
          have e3 : (8 * (j : Int)).toNat = 8 * j := by omega
          obtain ⟨y, hy, hy2⟩ : ∃ y : Nat, IntKind.u8.wrap ((n0 : Int) / 2 ^ (8 * j)) = (y : Int) ∧ y = n0 / 2 ^ (8 * j) % 256 := ⟨_, by simp [IntKind.wrap, IntKind.bits, IntKind.signed], rfl⟩
          have hy3 : (y : Int) < 256 := by omega
          have HL := Lib.hid (halves1 n0 k j y hj hy2)
          clear hy2
          go_wp2_with (go_at_call 28; refine (put1 _ _ _ _ _ HZ.out (by omega) hy3 (by rw [List.length_take, be_len]; omega)).mono ?_; rintro e w8 ⟨rfl, h8, p8⟩)
          rw [Int.toNat_natCast, HL.out] at h8
          go_roundw
          case rel => exact ⟨k + 1, by omega, by go_num, h8, HP.out.trans p8⟩
          case measure => first | (simp [intOf]; done) | (simp [intOf]; omega)
        · obtain rfl : k = 8 := by omega
          rw [show (7 - ((8 : Nat) : Int)) = -1 by rfl]
          rw [be_take_all] at HZ
          have hs9 := HS9.out
          have hs10 := HP.out.size
          replace hP := Lib.hid (hP.out.trans ((HP.out.mono (by omega)).below (by omega)))
          replace HA := Lib.hid (wr_far HA.out HP.out (Nat.le_refl _) HBd.out (by omega))
          replace HBb := Lib.hid (wr_far HBb.out HP.out (Nat.le_refl _) HBd.out (by omega))
          replace HW := Lib.hid (wr_far HW.out HP.out (Nat.le_refl _) HBd.out (by omega))
          have HS := Lib.hid (show w.heap.size ≤ wr.heap.size by omega)
          clear HBd HS9 hs9 hs10 HP hd0 hlt hk
          have hL := be_lt 8 n0
          have HL := Lib.hid hL
          have hs8 : (str (be 8 n0)).size = 8 := by rw [str_size, be_len]
          clear hL
          go_wp2_with fail
          refine (out_calls _ _ _ _ HA.out (by rw [be_len]; omega)).mono ?_
          rintro e w10 ⟨v10, rfl, ho, hb⟩
          have hcv := conv_own ho HL.out
          replace hP := Lib.hid (hP.out.trans (hb.mono HS.out))
          replace HA := Lib.hid (HA.out.below hb)
          replace HBb := Lib.hid (HBb.out.below hb)
          replace HW := Lib.hid (HW.out.below hb)
          replace HZ := Lib.hid (HZ.out.below hb)
          replace HS := Lib.hid (Nat.le_trans HS.out hb.size)
          clear ho hb
          go_wp2_with fail
          clear hcv
          refine (out_calls _ _ _ _ HBb.out (by rw [be_len]; omega)).mono ?_
          rintro e w11 ⟨v11, rfl, ho, hb⟩
          have hcv := conv_own ho HL.out
          replace hP := Lib.hid (hP.out.trans (hb.mono HS.out))
          replace HA := Lib.hid (HA.out.below hb)
          replace HW := Lib.hid (HW.out.below hb)
          replace HZ := Lib.hid (HZ.out.below hb)
          replace HS := Lib.hid (Nat.le_trans HS.out hb.size)
          clear ho hb HBb
          go_wp2_with fail
          clear hcv
          refine (out_calls _ _ _ _ HW.out (by rw [be_len]; omega)).mono ?_
          rintro e w12 ⟨v12, rfl, ho, hb⟩
          have hcv := conv_own ho HL.out
          replace hP := Lib.hid (hP.out.trans (hb.mono HS.out))
          replace HA := Lib.hid (HA.out.below hb)
          replace HZ := Lib.hid (HZ.out.below hb)
          replace HS := Lib.hid (Nat.le_trans HS.out hb.size)
          clear ho hb HW
          go_wp2_with fail
          clear hcv
          refine (out_calls _ _ _ _ HZ.out (by rw [be_len]; omega)).mono ?_
          rintro e w13 ⟨v13, rfl, ho, hb⟩
          have hcv := conv_own ho HL.out
          replace hP := Lib.hid (hP.out.trans (hb.mono HS.out))
          replace HA := Lib.hid (HA.out.below hb)
          replace HS := Lib.hid (Nat.le_trans HS.out hb.size)
          clear ho hb HZ
          go_wp2_with fail
          clear hcv
          refine (out_calls _ _ _ _ HA.out (by rw [be_len]; omega)).mono ?_
          rintro e w14 ⟨v14, rfl, ho, hb⟩
          replace hP := Lib.hid (hP.out.trans (hb.mono HS.out))
          replace HA := Lib.hid (HA.out.below hb)
          replace HS := Lib.hid (Nat.le_trans HS.out hb.size)
          obtain ⟨A14, c14, rfl, hr14, -⟩ := ho.form
          have HY := Lib.hid (⟨hr14, HL.out⟩ : Bytes w14 A14 (be 8 n0))
          clear ho hb hr14
          rw [bv_length, be_len]
          go_wp2_with fail
          refine (open_calls _ _ (be 8 n0) 8 _ (be_len _ _) HY.out (by omega)).mono ?_
          rintro e w15 ⟨r1, rfl, HR1, hge, hb⟩
          have G1 := Lib.hid (Nat.le_trans HS.out hge)
          replace HR1 := Lib.hid HR1
          replace hP := Lib.hid (hP.out.trans (hb.mono HS.out))
          replace HA := Lib.hid (HA.out.below hb)
          replace HS := Lib.hid (Nat.le_trans HS.out hb.size)
          clear hb HY hge
          go_wp2_with fail
          refine (out_calls _ _ _ _ HA.out (by rw [be_len]; omega)).mono ?_
          rintro e w16 ⟨v16, rfl, ho, hb⟩
          replace hP := Lib.hid (hP.out.trans (hb.mono HS.out))
          replace HA := Lib.hid (HA.out.below hb)
          replace HR1 := Lib.hid (HR1.out.below hb)
          replace HS := Lib.hid (Nat.le_trans HS.out hb.size)
          obtain ⟨A16, c16, rfl, hr16, -⟩ := ho.form
          have HY := Lib.hid (⟨hr16, HL.out⟩ : Bytes w16 A16 (be 8 n0))
          clear ho hb hr16
          rw [bv_length, be_len]
          go_wp2_with fail
          refine (open_calls _ _ (be 8 n0) 8 _ (be_len _ _) HY.out (by omega)).mono ?_
          rintro e w17 ⟨r2, rfl, HR2, hge, hb⟩
          have G2 := Lib.hid (Nat.le_trans HS.out hge)
          have N2 := Lib.hid (Nat.lt_of_lt_of_le HR1.out.lt hge)
          replace HR2 := Lib.hid HR2
          replace hP := Lib.hid (hP.out.trans (hb.mono HS.out))
          replace HA := Lib.hid (HA.out.below hb)
          replace HR1 := Lib.hid (HR1.out.below hb)
          replace HS := Lib.hid (Nat.le_trans HS.out hb.size)
          clear hb HY hge
          go_wp2_with fail
          refine (out_calls _ _ _ _ HA.out (by rw [be_len]; omega)).mono ?_
          rintro e w18 ⟨v18, rfl, ho, hb⟩
          replace hP := Lib.hid (hP.out.trans (hb.mono HS.out))
          replace HA := Lib.hid (HA.out.below hb)
          replace HR1 := Lib.hid (HR1.out.below hb)
          replace HR2 := Lib.hid (HR2.out.below hb)
          replace HS := Lib.hid (Nat.le_trans HS.out hb.size)
          obtain ⟨A18, c18, rfl, hr18, -⟩ := ho.form
          have HY := Lib.hid (⟨hr18, HL.out⟩ : Bytes w18 A18 (be 8 n0))
          clear ho hb hr18
          rw [bv_length, be_len]
          go_wp2_with fail
          refine (open_calls _ _ (be 8 n0) 8 _ (be_len _ _) HY.out (by omega)).mono ?_
          rintro e w19 ⟨r3, rfl, HR3, hge, hb⟩
          have G3 := Lib.hid (Nat.le_trans HS.out hge)
          have N3 := Lib.hid (show r1 < r3 ∧ r2 < r3 from ⟨Nat.lt_of_lt_of_le HR1.out.lt hge, Nat.lt_of_lt_of_le HR2.out.lt hge⟩)
          replace HR3 := Lib.hid HR3
          replace hP := Lib.hid (hP.out.trans (hb.mono HS.out))
          replace HA := Lib.hid (HA.out.below hb)
          replace HR1 := Lib.hid (HR1.out.below hb)
          replace HR2 := Lib.hid (HR2.out.below hb)
          replace HS := Lib.hid (Nat.le_trans HS.out hb.size)
          clear hb HY hge
          clear HA
          obtain ⟨x0, x1, hx, lx0, lx1, sx⟩ := parts_r n0 hn0
          obtain ⟨y0, y1, y2, y3, hy, ly0, ly1, ly2, ly3, sy⟩ := parts_t n0 hn0
          have FA1 := Lib.hid (show num (cutOf (some (be 8 n0)) 4) = x0 by rw [hx]; exact num_at 4 x0 _ lx0)
          have FT1 := Lib.hid (show cutTo (some (be 8 n0)) 4 = some (be 4 x1 ++ []) by rw [hx]; exact to_at 4 x0 _)
          have FA2 := Lib.hid (show num (cutOf (some (be 4 x1 ++ [])) 4) = x1 from num_at 4 x1 _ lx1)
          have FT2 := Lib.hid (show cutTo (some (be 4 x1 ++ [])) 4 = some [] from to_at 4 x1 _)
          have FA3 := Lib.hid (show num (cutOf (some (be 8 n0)) 2) = y0 by rw [hy]; exact num_at 2 y0 _ ly0)
          have FT3 := Lib.hid (show cutTo (some (be 8 n0)) 2 = some (be 1 y1 ++ (be 1 y2 ++ (be 4 y3 ++ []))) by rw [hy]; exact to_at 2 y0 _)
          have FA4 := Lib.hid (show num (cutOf (some (be 1 y1 ++ (be 1 y2 ++ (be 4 y3 ++ [])))) 1) = y1 from num_at 1 y1 _ ly1)
          have FT4 := Lib.hid (show cutTo (some (be 1 y1 ++ (be 1 y2 ++ (be 4 y3 ++ [])))) 1 = some (be 1 y2 ++ (be 4 y3 ++ [])) from to_at 1 y1 _)
          have FA5 := Lib.hid (show num (cutOf (some (be 1 y2 ++ (be 4 y3 ++ []))) 1) = y2 from num_at 1 y2 _ ly2)
          have FT5 := Lib.hid (show cutTo (some (be 1 y2 ++ (be 4 y3 ++ []))) 1 = some (be 4 y3 ++ []) from to_at 1 y2 _)
          have FA6 := Lib.hid (show num (cutOf (some (be 4 y3 ++ [])) 4) = y3 from num_at 4 y3 _ ly3)
          have FT6 := Lib.hid (show cutTo (some (be 4 y3 ++ [])) 4 = some [] from to_at 4 y3 _)
          have FA7 := Lib.hid (show num (cutOf (some (be 8 n0)) 8) = n0 by have := num_at 8 n0 [] hn0; rw [List.append_nil] at this; exact this)
          have FT7 := Lib.hid (show cutTo (some (be 8 n0)) 8 = some [] by have := to_at 8 n0 []; rw [List.append_nil] at this; exact this)
          have a1 : IntKind.u64.wrap (x0 : Int) = (x0 : Int) := by rw [IntKind.wrap_u64]; omega
          have a2 : IntKind.u64.wrap ((x0 : Int) * 4294967296) = (x0 : Int) * 4294967296 := by rw [IntKind.wrap_u64]; omega
          have a3 : IntKind.u64.wrap (x1 : Int) = (x1 : Int) := by rw [IntKind.wrap_u64]; omega
          have a4 : IntKind.u64.wrap ((x0 : Int) * 4294967296 + (x1 : Int)) = (n0 : Int) := by rw [IntKind.wrap_u64]; omega
          have b1 : IntKind.u64.wrap (y0 : Int) = (y0 : Int) := by rw [IntKind.wrap_u64]; omega
          have b2 : IntKind.u64.wrap ((y0 : Int) * 281474976710656) = (y0 : Int) * 281474976710656 := by rw [IntKind.wrap_u64]; omega
          have b3 : IntKind.u64.wrap (y1 : Int) = (y1 : Int) := by rw [IntKind.wrap_u64]; omega
          have b4 : IntKind.u64.wrap ((y1 : Int) * 1099511627776) = (y1 : Int) * 1099511627776 := by rw [IntKind.wrap_u64]; omega
          have b5 : IntKind.u64.wrap ((y0 : Int) * 281474976710656 + (y1 : Int) * 1099511627776) = (y0 : Int) * 281474976710656 + (y1 : Int) * 1099511627776 := by rw [IntKind.wrap_u64]; omega
          have b6 : IntKind.u64.wrap (y2 : Int) = (y2 : Int) := by rw [IntKind.wrap_u64]; omega
          have b7 : IntKind.u64.wrap ((y2 : Int) * 4294967296) = (y2 : Int) * 4294967296 := by rw [IntKind.wrap_u64]; omega
          have b8 : IntKind.u64.wrap ((y0 : Int) * 281474976710656 + (y1 : Int) * 1099511627776 + (y2 : Int) * 4294967296) = (y0 : Int) * 281474976710656 + (y1 : Int) * 1099511627776 + (y2 : Int) * 4294967296 := by rw [IntKind.wrap_u64]; omega
          have b9 : IntKind.u64.wrap (y3 : Int) = (y3 : Int) := by rw [IntKind.wrap_u64]; omega
          have b10 : IntKind.u64.wrap ((y0 : Int) * 281474976710656 + (y1 : Int) * 1099511627776 + (y2 : Int) * 4294967296 + (y3 : Int)) = (n0 : Int) := by rw [IntKind.wrap_u64]; omega
          clear hx hy sx sy lx0 lx1 ly0 ly1 ly2 ly3 hs8
          go_wp2_with fail
          refine (get4 _ _ _ HR1.out).mono ?_
          rintro e w20 ⟨rfl, hr, p⟩
          replace hP := Lib.hid (hP.out.trans ((p.mono HS.out).below G1.out))
          replace HR2 := Lib.hid (rd_far HR2.out HR1.out p (by have := N2.out; omega))
          replace HR3 := Lib.hid (rd_far HR3.out HR1.out p (by have := N3.out; omega))
          replace HS := Lib.hid (Nat.le_trans HS.out p.size)
          rw [FT1.out] at hr
          rw [FA1.out]
          replace HR1 := Lib.hid hr
          clear hr p
          go_wp2_with fail
          refine (get4 _ _ _ HR1.out).mono ?_
          rintro e w21 ⟨rfl, hr, p⟩
          replace hP := Lib.hid (hP.out.trans ((p.mono HS.out).below G1.out))
          replace HR2 := Lib.hid (rd_far HR2.out HR1.out p (by have := N2.out; omega))
          replace HR3 := Lib.hid (rd_far HR3.out HR1.out p (by have := N3.out; omega))
          replace HS := Lib.hid (Nat.le_trans HS.out p.size)
          rw [FT2.out] at hr
          rw [FA2.out]
          replace HR1 := Lib.hid hr
          clear hr p
          go_wp2_with fail
          refine (get2 _ _ _ HR2.out).mono ?_
          rintro e w22 ⟨rfl, hr, p⟩
          replace hP := Lib.hid (hP.out.trans ((p.mono HS.out).below G2.out))
          replace HR3 := Lib.hid (rd_far HR3.out HR2.out p (by have := N3.out; omega))
          replace HS := Lib.hid (Nat.le_trans HS.out p.size)
          rw [FT3.out] at hr
          rw [FA3.out]
          replace HR2 := Lib.hid hr
          clear hr p
          go_wp2_with fail
          refine (get1 _ _ _ HR2.out).mono ?_
          rintro e w23 ⟨rfl, hr, p⟩
          replace hP := Lib.hid (hP.out.trans ((p.mono HS.out).below G2.out))
          replace HR3 := Lib.hid (rd_far HR3.out HR2.out p (by have := N3.out; omega))
          replace HS := Lib.hid (Nat.le_trans HS.out p.size)
          rw [FT4.out] at hr
          rw [FA4.out]
          replace HR2 := Lib.hid hr
          clear hr p
          go_wp2_with fail
          refine (get1 _ _ _ HR2.out).mono ?_
          rintro e w24 ⟨rfl, hr, p⟩
          replace hP := Lib.hid (hP.out.trans ((p.mono HS.out).below G2.out))
          replace HR3 := Lib.hid (rd_far HR3.out HR2.out p (by have := N3.out; omega))
          replace HS := Lib.hid (Nat.le_trans HS.out p.size)
          rw [FT5.out] at hr
          rw [FA5.out]
          replace HR2 := Lib.hid hr
          clear hr p
          go_wp2_with fail
          refine (get4 _ _ _ HR2.out).mono ?_
          rintro e w25 ⟨rfl, hr, p⟩
          replace hP := Lib.hid (hP.out.trans ((p.mono HS.out).below G2.out))
          replace HR3 := Lib.hid (rd_far HR3.out HR2.out p (by have := N3.out; omega))
          replace HS := Lib.hid (Nat.le_trans HS.out p.size)
          rw [FT6.out] at hr
          rw [FA6.out]
          replace HR2 := Lib.hid hr
          clear hr p
          go_wp2_with fail
          refine (get8 _ _ _ HR3.out).mono ?_
          rintro e w26 ⟨rfl, hr, p⟩
          replace hP := Lib.hid (hP.out.trans ((p.mono HS.out).below G3.out))
          replace HS := Lib.hid (Nat.le_trans HS.out p.size)
          rw [FT7.out] at hr
          rw [FA7.out]
          replace HR3 := Lib.hid hr
          clear hr p
          go_wp2_with fail
          refine (works_calls _).mono ?_
          rintro e w27 ⟨rfl, hb⟩
          replace hP := Lib.hid (hP.out.trans (hb.mono HS.out))
          clear hb
          go_wp2
          go_ret
          exact ⟨rfl, hP.out⟩
end Go.Proofs.Ytggonoppdekilaa.fieldsHalves
