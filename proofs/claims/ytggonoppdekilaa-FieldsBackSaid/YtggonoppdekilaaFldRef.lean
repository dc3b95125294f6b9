/- The walks of layer 2's definition: Bytes, Number, the plain reader. -/
import Derived.Test.YtggonoppdekilaaFldRead
import Derived.Test.YtggonoppdekilaaStr
namespace Go.Proofs.Ytggonoppdekilaa.Fld
open Go.RowKit
set_option linter.unusedVariables false

/-- What Bytes has behind j rounds. -/
def mid (k n j : Nat) : List Nat := (List.range k).map fun i => if k - 1 - i < j then n / 256 ^ (k - 1 - i) % 256 else 0
theorem mid_len (k n j : Nat) : (mid k n j).length = k := by simp [mid]
theorem mid_zero (k n : Nat) : mid k n 0 = List.replicate k 0 := by
  apply List.ext_getElem <;> simp [mid]
theorem mid_all (k n : Nat) : mid k n k = be k n := by
  unfold mid be
  apply List.map_congr_left
  intro i hi
  have := List.mem_range.1 hi
  rw [if_pos (by omega)]
theorem mid_set (k n j q : Nat) (hq : q + j + 1 = k) : (mid k n j).set q (n / 256 ^ j % 256) = mid k n (j + 1) := by
  apply List.ext_getElem
  · simp [mid]
  · intro i h1 h2
    have hi : i < k := by simpa [mid] using h2
    rw [List.getElem_set]
    simp only [mid, List.getElem_map, List.getElem_range]
    by_cases h : q = i
    · subst h
      rw [if_pos rfl, if_pos (by omega), show k - 1 - q = j by omega]
    · rw [if_neg h]
      by_cases h3 : k - 1 - i < j
      · rw [if_pos h3, if_pos (by omega)]
      · rw [if_neg h3, if_neg (by omega)]
theorem made_bytes (n : Nat) : (madeCells (Value.int .u8 0).cells (n * 1)).toList = bv (List.replicate n 0) := by
  apply List.ext_getElem
  · simp [madeCells, bv]
  · intro i h1 h2
    simp [madeCells, bv, Value.cells, Nat.mod_one]

set_option maxHeartbeats 400000 in
theorem refBytes (w : World) (n : Nat) (k : Nat) (hn : n < 18446744073709551616) (hk : k ≤ 2000) :
    Calls Try.prog 33 #[.int .u64 (n : Nat), .int .i64 (k : Nat)] w fun e w' => ∃ v, e = .returned v ∧ Own w' w.heap.size 5 v (bv (be k n)) ∧ Below w.heap.size w w' := by
  obtain ⟨i0, hi, hi1, hi2, hi3⟩ := info_parts info_u8
  obtain ⟨w1, hmk, ho, hg⟩ := run_make_full (P := Try.prog) w w.heap.size 25 5 i0 _ 1 Try.underlying25 hi hi1 hi2   .i64 .i64 k (by rw [hi3]; omega) (by simp only [maxLen]; omega) (Nat.le_refl _)
  rw [made_bytes] at ho
  have hO : Own w1 w.heap.size 5 (.slice (some ⟨w.heap.size, 0, none⟩) k k) (bv (mid k n 0)) := by
    unfold Own; rw [bv_length, mid_len, mid_zero]; exact ho
  have HO := Lib.hid hO
  have hP := Lib.hid ((Below.refl w.heap.size w).grown hg (Nat.le_refl _) (fun _ h => by cases h))
  clear ho hg hi hi1 hi2 hi3 hO
  go_enter Try.func33, Try.ntmps33
  go_wp2
  generalize hgw : w.heap.size = g at *
  go_loopw [0, 6] (fun x i wr => ∃ j : Nat, j ≤ k ∧ i = .int .i64 (j + 1 : Int) ∧ x = .int .u64 (n / 256 ^ j : Nat) ∧ Hid (Own wr g 5 (.slice (some ⟨g, 0, none⟩) k k) (bv (mid k n j))) ∧ Hid (Below g w wr)) (fun _ i _ => k + 1 - (intOf i).toNat)
  case atStart => exact ⟨0, by omega, rfl, by simp, HO, hP⟩
  case round =>
    clear HO hP hmk
    obtain ⟨j, hj, rfl, rfl, HO, HP⟩ := hrel
    by_cases hlt : j < k
    · obtain ⟨q, hq⟩ : ∃ q : Nat, q + j + 1 = k := ⟨k - 1 - j, by omega⟩
      have e1 : IntKind.i64.wrap ((k : Int) - ((j : Int) + 1)) = (q : Int) := by rw [IntWalk.i64_in _ (by omega)]; omega
      have e2 : (q : Int) < (k : Int) := by omega
      have e3 : (j : Int) + 1 ≤ (k : Int) := by omega
      obtain ⟨x, hx⟩ : ∃ x, n / 256 ^ j = x := ⟨_, rfl⟩
      have hc : wr.cell? ⟨g, q, none⟩ = some (.int .u8 (((mid k n j)[q]'(by rw [mid_len]; omega) : Nat) : Int)) := by
        rw [HO.out.cellAt (by rw [bv_length, mid_len]) q (by rw [bv_length, mid_len]; omega), bv_get]
      have hf := HO.out.frozenAt (by rw [bv_length, mid_len]) q
      obtain ⟨y, hb, hy⟩ : ∃ y : Nat, IntKind.u8.wrap ((x : Int) % 256) = (y : Int) ∧ y = x % 256 := ⟨x % 256, by rw [IntKind.wrap_u8']; omega, rfl⟩
      have hS := HO.out.set_ (by rw [bv_length, mid_len]) q (.int .u8 (y : Int))
      rw [bv_set, hy, ← hx, mid_set k n j q hq, hx, ← hy] at hS
      have HS := Lib.hid hS
      have HP2 := Lib.hid (HP.out.setCell (p := ⟨g, q, none⟩) (Nat.le_refl _) (.int .u8 (y : Int)))
      have HX := Lib.hid hx
      clear hy
      rw [hx]
      clear hS HO HP
      go_wp2
      go_roundw
      case rel =>
        have hx18 : x < 18446744073709551616 := by rw [← hx]; exact Nat.lt_of_le_of_lt (Nat.div_le_self _ _) hn
        refine ⟨j + 1, by omega, by go_num, ?_, HS.out, HP2.out⟩
        rw [Nat.pow_succ, ← Nat.div_div_eq_div_mul, hx, IntKind.wrap_u64]
        congr 1; omega
      case measure => simp [intOf]; omega
    · obtain rfl : j = k := by omega
      go_wp2
      go_ret
      rw [mid_all] at HO
      subst hgw
      exact ⟨_, rfl, HO.out, HP.out⟩

theorem num_drop_lt {q : List Nat} (hq : ∀ c ∈ q, c < 256) (hlen : q.length ≤ 8) (k : Nat) (hk : k < q.length) : num (q.take k) < 72057594037927936 := by
  have h1 := num_lt (q.take k) (fun c hc => hq c (List.mem_of_mem_take hc))
  have h2 : (q.take k).length ≤ 7 := by simp; omega
  exact Nat.lt_of_lt_of_le h1 (Nat.pow_le_pow_right (n := 256) (by decide) h2)

set_option maxHeartbeats 400000 in
theorem refNumber (w : World) (A : Option Addr) (q : List Nat) (m c : Nat) (hm : q.length = m) (hb : Bytes w A q) (hlen : m ≤ 8) :
    Calls Try.prog 24 #[.slice A m c] w fun e w' => e = .returned (.int .u64 (num q : Nat)) ∧ w = w' := by
  subst hm
  have HB := Lib.hid hb
  clear hb
  go_enter Try.func24, Try.ntmps24
  go_wp2
  go_loopw [3, 4] (fun x i wr => ∃ k : Nat, k ≤ q.length ∧ i = .int .i64 k ∧ x = .int .u64 (num (q.take k) : Nat) ∧ w = wr) (fun _ i _ => q.length - (intOf i).toNat)
  case atStart => exact ⟨0, by omega, rfl, rfl, rfl⟩
  case round =>
    obtain ⟨k, hk, rfl, rfl, rfl⟩ := hrel
    by_cases hk2 : k < q.length
    · obtain ⟨b, off, rfl, hc, h256⟩ := HB.out.at_ hk2
      have hn := num_drop_lt HB.out.lt hlen k hk2
      have hw2 : IntKind.u64.wrap ((num (q.take k) : Int) * 256) = (num (q.take k) : Int) * 256 := by rw [IntKind.wrap_u64]; omega
      have hw3 : IntKind.u64.wrap ((num (q.take k) : Int) * 256 + (q[k] : Int)) = (num (q.take k) : Int) * 256 + (q[k] : Int) := by rw [IntKind.wrap_u64]; omega
      go_wp2
      go_roundw
      case rel => exact ⟨k + 1, by omega, by go_num, by rw [num_take q k hk2]; congr 1, by first | rfl | trivial⟩
      case measure => simp [intOf]; omega
    · obtain rfl : k = q.length := by omega
      rw [List.take_of_length_le (Nat.le_refl _)]
      go_wp2
      go_ret
      exact ⟨rfl, rfl⟩

/-- The plain reader at g over s. -/
def RefRd (w : World) (g : Nat) (s : List Nat) (st : Option (List Nat)) : Prop :=
  ∃ (at_ : Nat) (f : Bool), Block w g 40 #[.string (str s), .int .i64 (at_ : Int), .bool f] ∧ (f = true ↔ st = none) ∧ at_ ≤ s.length ∧ s.length ≤ 3000 ∧ (∀ c ∈ s, c < 256) ∧ ∀ l, st = some l → l = s.drop at_
theorem noByte_ref (s : ByteArray) (i : Int) (f : Bool) : NoByte #[.string s, .int .i64 i, .bool f] := NoByte.of (by simp)
theorem RefRd.lt {w : World} {g : Nat} {s : List Nat} {st : Option (List Nat)} (h : RefRd w g s st) : g < w.heap.size := by obtain ⟨_, _, hb, _⟩ := h; exact hb.lt
theorem RefRd.below {w w' : World} {g : Nat} {s : List Nat} {st : Option (List Nat)} (h : RefRd w g s st) (hb : Below w.heap.size w w') : RefRd w' g s st := by
  obtain ⟨a, f, h1, h2⟩ := h
  exact ⟨a, f, h1.below hb h1.lt, h2⟩
theorem RefRd.drewN {w : World} {g : Nat} {s : List Nat} {st : Option (List Nat)} (h : RefRd w g s st) (n : Nat) : RefRd (w.drewN n) g s st := h
theorem RefRd.drew {w : World} {g : Nat} {s : List Nat} {st : Option (List Nat)} (h : RefRd w g s st) : RefRd w.drew g s st := h
theorem RefRd.past {B g' : Nat} {w w' : World} {g : Nat} {s : List Nat} {st : Option (List Nat)} (h : RefRd w g s st) (hp : Past B g' w w') (hB : w.heap.size ≤ B) (hg : g ≠ g') : RefRd w' g s st := by
  obtain ⟨a, f, h1, h2⟩ := h
  exact ⟨a, f, h1.past hp (Nat.lt_of_lt_of_le h1.lt hB) hg, h2⟩
theorem RefRd.bytes {w : World} {g : Nat} {s : List Nat} {st : Option (List Nat)} (h : RefRd w g s st) : ∀ l, st = some l → ∀ c ∈ l, c < 256 := by
  obtain ⟨a, f, _, _, _, _, h1, h2⟩ := h
  intro l hl c hc
  rw [h2 l hl] at hc
  exact h1 c (List.mem_of_mem_drop hc)

theorem refLeft (w : World) (g : Nat) (s : List Nat) (st : Option (List Nat)) (h : RefRd w g s st) :
    Calls Try.prog 20 #[.pointer (some ⟨g, 0, none⟩)] w fun e w' => e = .returned (.int .i64 (leftOf st : Nat)) ∧ ∃ n, w' = w.drewN n := by
  obtain ⟨p, f, hb, h1, h2, h3, h4, h5⟩ := h
  have hc0 := hb.cell 0
  have hc1 := hb.cell 1
  have hc2 := hb.cell 2
  cases st with
  | none =>
    obtain rfl : f = true := by simpa using h1
    clear h1 h5 h4
    go_enter Try.func20, Try.ntmps20
    go_wp2
    go_ret
    exact ⟨rfl, 0, rfl⟩
  | some l =>
    obtain rfl : f = false := by cases f <;> simp_all
    obtain rfl := h5 l rfl
    have hs := str_size s
    have e1 : IntKind.i64.wrap (((str s).size : Int) - (p : Int)) = ((str s).size : Int) - (p : Int) := IntWalk.i64_in _ (by omega)
    have HE := Lib.hid e1
    have HS := Lib.hid hs
    have HPS := Lib.hid h2
    clear h1 h5 h4
    go_enter Try.func20, Try.ntmps20
    go_wp2
    go_quiet (fail)
    go_wp2
    go_ret
    refine ⟨?_, _, rfl⟩
    simp only [leftOf, List.length_drop]
    have e2 := HE.out
    have e3 := HS.out
    have e4 := HPS.out
    show Ending.returned (Value.int .i64 ((s.length : Int) - (p : Int))) = _
    congr 2; omega

theorem str_extract (s : List Nat) (a n : Nat) : (str s).extract a (a + n) = str ((s.drop a).take n) := by
  apply ByteArray.ext
  simp [str, ByteArray.data_extract]

set_option maxHeartbeats 400000 in
set_option maxRecDepth 100000 in
theorem refCut (w : World) (g : Nat) (s : List Nat) (st : Option (List Nat)) (n : Int) (h : RefRd w g s st) (h0 : -9223372036854775808 ≤ n) (h1 : n < 9223372036854775808) :
    Calls Try.prog 18 #[.pointer (some ⟨g, 0, none⟩), .int .i64 n] w fun e w' => e = .returned (.string (str (cutOf st n))) ∧ RefRd w' g s (cutTo st n) ∧ Past w.heap.size g w w' := by
  have HH := Lib.hid h
  obtain ⟨p, f, hb, h2, h3, h4, h5, h6⟩ := h
  have HB := Lib.hid hb
  have HL := Lib.hid h5
  by_cases hin : 0 ≤ n ∧ n ≤ (leftOf st : Int) ∧ st.isSome
  · obtain ⟨l, rfl⟩ := Option.isSome_iff_exists.1 hin.2.2
    obtain ⟨n, rfl⟩ := Int.eq_ofNat_of_zero_le hin.1
    obtain rfl : f = false := by cases f <;> simp_all
    obtain rfl := h6 l rfl
    have hle : n ≤ (s.drop p).length := by have := hin.2.1; simp only [leftOf] at this; omega
    rw [cutOf_in hle, cutTo_in hle, List.drop_drop]
    have hps : p + n ≤ s.length := by simp at hle; omega
    have hc0 := hb.cell 0
    have hc1 := hb.cell 1
    have hc2 := hb.cell 2
    have hf1 := hb.frozen 1
    have hq : ¬ (leftOf (some (s.drop p)) : Int) < (n : Int) := by have := hin.2.1; omega
    have e1 : IntKind.i64.wrap ((p : Int) + (n : Int)) = ((p + n : Nat) : Int) := by rw [IntWalk.i64_in _ (by omega)]; simp
    have e2 : IntKind.i64.wrap (((p + n : Nat) : Int) - (n : Int)) = (p : Int) := by rw [IntWalk.i64_in _ (by omega)]; omega
    obtain ⟨t, ht⟩ : ∃ t, p + n = t := ⟨_, rfl⟩
    rw [ht] at e1 e2
    have ht2 : p ≤ t := by omega
    have hb1 := HB.out.set_ 1 (.int .i64 (t : Int))
    have hd0 := hb1.cell 0
    have hd1 := hb1.cell 1
    have hs := str_size s
    have g1 : (p : Int) ≤ (t : Int) := by omega
    have g2 : (t : Int) ≤ (s.length : Int) := by omega
    have hx := Lib.hid (str_extract s p n)
    have HB1 := Lib.hid hb1
    have HT := Lib.hid ht
    have HPS := Lib.hid hps
    have HS3 := Lib.hid h4
    clear h2 h5 h6 hin hle hb hb1 ht h0 h1 hps h3 h4
    go_enter Try.func18, Try.ntmps18
    go_wp2_with (go_at_call 20; refine (refLeft w g s _ HH.out).mono ?_; rintro e w' ⟨rfl, d, rfl⟩)
    go_quiet (fail)
    go_wp2
    go_ret
    have hw : ((w.drewN d).setCell ⟨g, 1, none⟩ (.int .i64 (t : Int))).drewN nq = (w.setCell ⟨g, 1, none⟩ (.int .i64 (t : Int))).drewN (d + nq) := by simp [World.drewN, World.setCell, Nat.add_assoc]
    rw [hw]
    refine ⟨?_, ?_, ((Past.refl w.heap.size g w).setCell (p := ⟨g, 1, none⟩) (.inl rfl) _).drewN _⟩
    · rw [← hx.out, HT.out]; rfl
    · exact ⟨t, false, HB1.out, by simp, by have := HPS.out; have := HT.out; omega, HS3.out, HL.out, fun l e => by rw [← HT.out]; exact (Option.some.inj e).symm⟩
  · have hof : cutOf st n = [] := by
      cases st with
      | none => rfl
      | some l => exact cutOf_out (by simp only [leftOf, Option.isSome_some, and_true] at hin; omega)
    have hto : cutTo st n = none := by
      cases st with
      | none => rfl
      | some l => exact cutTo_out (by simp only [leftOf, Option.isSome_some, and_true] at hin; omega)
    rw [hof, hto]
    have hc2 := hb.cell 2
    have hf2 := hb.frozen 2
    have hb1 := HB.out.set_ 2 (.bool true)
    have hd2 := hb1.cell 2
    have HB1 := Lib.hid hb1
    have HR : RefRd (w.setCell ⟨g, 2, none⟩ (.bool true)) g s none := ⟨p, true, hb1, by simp, h3, h4, h5, by simp⟩
    have HR := Lib.hid HR
    have HP := Lib.hid ((Past.refl w.heap.size g w).setCell (p := ⟨g, 2, none⟩) (.inl rfl) (.bool true))
    by_cases hneg : n < 0
    · clear hin h2 h5 h6 hb hb1
      go_enter Try.func18, Try.ntmps18
      go_wp2
      go_ret
      exact ⟨rfl, HR.out, HP.out⟩
    · by_cases hmore : (leftOf st : Int) < n
      · clear hin h2 h5 h6 hb hb1
        go_enter Try.func18, Try.ntmps18
        go_wp2_with (go_at_call 20; refine (refLeft w g s _ HH.out).mono ?_; rintro e w' ⟨rfl, d, rfl⟩)
        go_ret
        refine ⟨rfl, ?_, ?_⟩
        · exact HR.out.drewN d
        · exact HP.out.drewN d
      · obtain rfl : st = none := by
          cases st with
          | none => rfl
          | some l => exfalso; apply hin; refine ⟨by omega, by omega, rfl⟩
        obtain rfl : f = true := by simpa using h2
        have hm2 : ¬ (0 : Int) < n := by simp only [leftOf] at hmore; omega
        clear hin h2 h5 h6 hb hb1 hmore
        go_enter Try.func18, Try.ntmps18
        go_wp2_with (go_at_call 20; refine (refLeft w g s _ HH.out).mono ?_; rintro e w' ⟨rfl, d, rfl⟩)
        go_ret
        refine ⟨rfl, HH.out.drewN d, (Past.refl _ _ _).drewN d⟩

theorem refField (w : World) (g : Nat) (s : List Nat) (st : Option (List Nat)) (n : Int) (h : RefRd w g s st) (h0 : 0 ≤ n) (h1 : n ≤ 8) :
    Calls Try.prog 16 #[.pointer (some ⟨g, 0, none⟩), .int .i64 n] w fun e w' => e = .returned (.int .u64 (num (cutOf st n) : Nat)) ∧ RefRd w' g s (cutTo st n) ∧ Past w.heap.size g w w' := by
  have HH := Lib.hid h
  have hl : (cutOf st n).length ≤ 8 := by
    obtain ⟨n, rfl⟩ := Int.eq_ofNat_of_zero_le h0
    have := cutOf_len st n
    omega
  have HB := Lib.hid (cutOf_lt h.bytes n)
  have hconv : ∀ w : World, (convert 9 25 (.string (str (cutOf st n)))).run Try.prog w = .ok (.slice (some ⟨w.heap.size, 0, none⟩) (cutOf st n).length (grownCap w (cutOf st n).length 0 5)) (Lib.bytesWorld w 5 (str (cutOf st n))) :=
    fun w => conv_bytes w (cutOf st n) 9 25 5 Try.underlying9 Try.underlying25 Try.underlying5
  clear h
  go_enter Try.func16, Try.ntmps16
  go_wp2_with (first
    | (go_at_call 18; refine (refCut w g s _ _ HH.out (by omega) (by omega)).mono ?_; rintro e w1 ⟨rfl, hr, hp⟩)
    | (go_at_call 24; refine (refNumber _ _ (cutOf st n) _ _ rfl (bytesWorld_bytes w1 5 _ HB.out) hl).mono ?_; rintro e w2 ⟨rfl, rfl⟩))
  go_ret
  have hbw := bytesWorld_below w1 5 (str (cutOf st n))
  exact ⟨rfl, hr.below hbw, hp.trans (Past.of_below (hbw.mono hp.size) g)⟩
end Go.Proofs.Ytggonoppdekilaa.Fld
