/- Of the program and its document, joined: RdRef, RdRef2, RdApp. -/
import Derived.Test.YtiapokojlkdddaaGreatPk10
import Derived.Test.YtiapokojlkdddaaGreatPk07
import Derived.Test.YtiapokojlkdddaaGreatPk05
import Derived.Test.YtiapokojlkdddaaGreatPk08
import Derived.Lib.AppendZeros
import Derived.Lib.AppendStr
/- What the definition's calls on codes do: Unlike, New, Encode, Full, Places, At, Decode. -/
namespace Go.Proofs.YtiapokojlkdddaaGreat.Rd
open Go.RowKit Go.Shelf F8 Poly GF
attribute [local go_sem] Oper.semAt_some

theorem coef_mem_take {p : List F8} {i k : Nat} (h : k < p.length) : coef p i ∈ p.take (k + 1) ↔ coef p i ∈ p.take k ∨ coef p i = coef p k := by
  rw [take_succ' p h, List.mem_append, List.mem_singleton, coef_of_lt h]
theorem drew_bytes {w wr : World} {A : Option Addr} {l : List Nat} (h : Bytes w A l) (hd : ∃ n, wr = w.drewN n) : Bytes wr A l := by obtain ⟨n, rfl⟩ := hd; exact h.drewN n
theorem drew_row {w wr : World} {A : Option Addr} {l : List Value} (h : Row w A l) (hd : ∃ n, wr = w.drewN n) : Row wr A l := by obtain ⟨n, rfl⟩ := hd; exact h.drewN n
theorem drew_more {w wr : World} (hd : ∃ n, wr = w.drewN n) : ∃ n, wr.drew = w.drewN n := by obtain ⟨n, rfl⟩ := hd; exact ⟨n + 1, rfl⟩
/-- A list and an error's number. -/
def REnc (w : World) (r : List F8 × Int) (e : Ending) (w' : World) : Prop :=
  ∃ A c, e = .returned (.tuple #[.slice A r.1.length c, .int .i64 r.2]) ∧ r.1.length ≤ c ∧ Own w' w.heap.size 5 (.slice A r.1.length c) (bv (bs r.1)) ∧ Below w.heap.size w w'
set_option maxRecDepth 100000 in
set_option maxHeartbeats 2000000 in
theorem refEncode_calls (A : Option Addr) (p : List F8) (m c k : Nat) (B : Option Addr) (q : List F8) (n d : Nat) (w : World) (hl : p.length = m) (hb : Bytes w A (bs p)) (hm : m ≤ 1000000) (hn : q.length = n) (hb2 : Bytes w B (bs q)) (hn2 : n ≤ 1000000) :
    Calls Tryz.prog 58 #[.slice A m c, .int .i64 k, .slice B n d] w (REnc w (encR p k q)) := by
  by_cases hk : n = k
  · have e1 : encR p k q = (word q p, 0) := if_pos (by omega)
    have h1 : ((n : Int) == (k : Int)) = true := by simp; omega
    have h2 : ((n : Int) != (k : Int)) = false := by simp; omega
    rw [e1]
    have HB := Lib.hid hb
    have HB2 := Lib.hid hb2
    have HM := Lib.hid hl
    have HN := Lib.hid hn
    clear e1 hk hb hb2 hl hn
    go_enter Tryz.func58, Tryz.ntmps58
    go_wp2
    go_loopw [8, 9] (fun out i wr => ∃ k : Nat, k ≤ m ∧ i = .int .i64 k ∧ Hid (Own wr w.heap.size 5 out (bv (bs (word q (p.take k))))) ∧ Below w.heap.size w wr) (fun _ i _ => m - (intOf i).toNat)
    case atStart => exact ⟨0, by omega, rfl, Lib.hid (Own.nil _ _ _), Below.refl _ _⟩
    case round =>
      obtain ⟨j, hj, rfl, HO, HW⟩ := hrel
      have hsz := HW.size
      by_cases hlt : j < m
      · have hlp : j < p.length := by rw [HM.out]; exact hlt
        obtain ⟨b2, o2, rfl⟩ := where_ HB.out (by omega)
        have hcell := cellAt (HB.out.below HW) j hlp
        obtain ⟨y, hy⟩ : ∃ y, eval q (coef p j) = y := ⟨_, rfl⟩
        have HT : Hid (bv (bs (word q (p.take j))) ++ bv [y.n] = bv (bs (word q (p.take (j + 1))))) := Lib.hid (by
          rw [word, word, take_succ' p hlp, ← coef_of_lt hlp, List.map_append, List.map_cons, List.map_nil, hy, bvs_snoc])
        have HL : Hid ((bv (bs (word q (p.take j)))).length = j) := Lib.hid (by rw [bvs_length, word_length, List.length_take]; omega)
        have HY := Lib.hid hy
        clear hy
        obtain ⟨x, hx⟩ : ∃ x, coef p j = x := ⟨_, rfl⟩
        rw [hx] at hcell HY
        clear hx
        go_wp2_with (first
          | (go_at_call 106; refine (refAt_calls B q n d x _ HN.out (HB2.out.below HW) (by omega)).mono ?_; rintro e w2 ⟨rfl, rfl⟩; rw [HY.out])
          | (at_builtin; refine wpList_app _ rfl _ _ _ rfl w.heap.size 5 _ 1 Tryz.underlying22 info_u8 rfl (by omega) _ _ rfl (HO.out.alloc _) (some ⟨wr.heap.size, 0, none⟩) 1 1 (bv [y.n]) rfl rfl (Row.new _ _ _ _) (bv_one _) (by rw [HL.out]; omega) (by simp; omega) ?_; rintro v2 w2 hown hg3 -))
        rw [HT.out] at hown
        have HO2 := Lib.hid hown
        have hB2 := (HW.alloc hsz _).trans ((HO.out.alloc _).grew (by simp; omega) hg3)
        clear hown hg3
        go_roundw
        case rel => exact ⟨j + 1, by omega, by go_num, HO2, hB2⟩
        case measure => simp [intOf]; omega
      · obtain rfl : j = m := by omega
        have ht : p.take j = p := List.take_of_length_le (by rw [HM.out]; exact Nat.le_refl _)
        rw [ht] at HO
        obtain ⟨A1, c1, rfl, hc1⟩ := Own.shape HO.out
        go_wp2
        go_ret2
        exact ⟨A1, c1, rfl, hc1, HO.out, HW⟩
  · have e1 : encR p k q = ([], 2) := if_neg (by omega)
    have h1 : ((n : Int) == (k : Int)) = false := by simp; omega
    have h2 : ((n : Int) != (k : Int)) = true := by simp; omega
    rw [e1]
    clear e1 hk hb hb2
    go_enter Tryz.func58, Tryz.ntmps58
    go_wp2
    go_ret2
    exact ⟨none, 0, rfl, Nat.le_refl _, Own.nil _ _ _, Below.refl _ _⟩
/-- What Full gives. -/
def RFull (w : World) (p : List F8) (k : Nat) (e : Ending) (w' : World) : Prop :=
  ∃ A c l, l = (if p.length ≤ k then full p k else p) ∧ e = .returned (.tuple #[.slice A l.length c, .bool (decide (p.length ≤ k))]) ∧ l.length ≤ c ∧ Own w' w.heap.size 5 (.slice A l.length c) (bv (bs l)) ∧ Below w.heap.size w w'
theorem pad_snoc (p : List F8) (j : Nat) : (p ++ List.replicate j 0) ++ [0] = p ++ List.replicate (j + 1) (0 : F8) := by
  rw [List.append_assoc, ← List.replicate_succ']
set_option maxRecDepth 100000 in
set_option maxHeartbeats 2000000 in
theorem refFull_calls (A : Option Addr) (p : List F8) (m c k : Nat) (w : World) (hl : p.length = m) (hb : Bytes w A (bs p)) (hm : m ≤ 1000000) (hk : k ≤ 1000000) :
    Calls Tryz.prog 153 #[.slice A m c, .int .i64 k] w (RFull w p k) := by
  have HB := Lib.hid hb
  have HM := Lib.hid hl
  have HV : Hid ((bv (bs p)).length = m) := Lib.hid (by rw [bvs_length, hl])
  clear hb hl
  go_enter Tryz.func153, Tryz.ntmps153
  go_wp2_with (at_builtin; refine wpList_app _ rfl (.tmp 7) (.tmp 8) _ rfl w.heap.size 5 _ 1 Tryz.underlying22 info_u8 rfl (by omega) (.slice none 0 0) [] rfl (Own.nil _ _ _) A m c (bv (bs p)) rfl HV.out HB.out.row (bv_one _) (by simp; omega) (Nat.le_refl _) ?_; intro v1 w1 hown1 hg1 _)
  have hB1 := (Own.nil w w.heap.size 5).grew (Nat.le_refl _) hg1
  rw [List.nil_append] at hown1
  have HO1 := Lib.hid hown1
  obtain ⟨A1, c1, rfl, hc1⟩ := Own.shape hown1
  rw [HM.out] at HO1 hc1 ⊢
  clear hown1 hg1
  go_loopw [6] (fun out wr => ∃ (j : Nat) (A : Option Addr) (c : Nat), (j = 0 ∨ m + j ≤ k) ∧ out = .slice A (m + j) c ∧ m + j ≤ c ∧ Hid (Own wr w.heap.size 5 (.slice A (m + j) c) (bv (bs (p ++ List.replicate j 0)))) ∧ Below w.heap.size w wr) (fun out _ => k - (match out with | .slice _ n _ => n | _ => 0))
  case atStart => exact ⟨0, A1, c1, .inl rfl, rfl, hc1, by simpa using HO1, hB1⟩
  case round =>
    obtain ⟨j, A2, c2, hj, rfl, hc2, HO, HW⟩ := hrel
    have hsz := HW.size
    have HL : Hid ((bv (bs (p ++ List.replicate j 0))).length = m + j) := Lib.hid (by rw [bvs_length, List.length_append, HM.out, List.length_replicate])
    have HT : Hid (bv (bs (p ++ List.replicate j 0)) ++ [.int .u8 0] = bv (bs (p ++ List.replicate (j + 1) 0))) := Lib.hid (by rw [← pad_snoc, bvs_snoc]; rfl)
    by_cases hlt : m + j < k
    · have h1 : ((m + j : Nat) : Int) < (k : Int) := by omega
      go_wp2_with (at_builtin; refine wpList_app _ rfl _ _ _ rfl w.heap.size 5 _ 1 Tryz.underlying22 info_u8 rfl (by omega) _ _ rfl (HO.out.alloc _) (some ⟨wr.heap.size, 0, none⟩) 1 1 [.int .u8 0] rfl rfl (Row.new _ _ _ _) (by intro u hu; obtain rfl := List.mem_singleton.1 hu; rfl) (by rw [HL.out]; omega) (by simp; omega) ?_; rintro v2 w2 hown hg3 -)
      rw [HT.out] at hown
      have hB2 := (HW.alloc hsz _).trans ((HO.out.alloc _).grew (by simp; omega) hg3)
      have HO2 := Lib.hid hown
      obtain ⟨A3, c3, rfl, hc3⟩ := Own.shape hown
      have HLL : Hid ((p ++ List.replicate (j + 1) (0 : F8)).length = m + (j + 1)) := Lib.hid (by rw [List.length_append, HM.out, List.length_replicate])
      rw [HLL.out] at HO2 hc3 ⊢
      clear hown hg3
      go_roundw
      case rel => exact ⟨j + 1, A3, c3, .inr (by omega), rfl, hc3, HO2, hB2⟩
      case measure => simp only []; omega
    · have h1 : ¬ ((m + j : Nat) : Int) < (k : Int) := by omega
      have hle : k ≤ m + j := by omega
      have HR : Hid (p ++ List.replicate j 0 = if p.length ≤ k then full p k else p) := Lib.hid (by
        rw [HM.out]
        rcases hj with rfl | hj
        · by_cases h : m ≤ k
          · rw [if_pos h, full_same (by rw [HM.out]; omega)]; simp
          · rw [if_neg h]; simp
        · rw [if_pos (by omega)]
          unfold full
          rw [List.take_of_length_le (by rw [HM.out]; omega), HM.out, show k - m = j by omega])
      have HLn : Hid ((p ++ List.replicate j (0 : F8)).length = m + j) := Lib.hid (by rw [List.length_append, HM.out, List.length_replicate])
      by_cases he : m + j = k
      · have h2 : ((m : Int) + (j : Int) == (k : Int)) = true := by simp; omega
        have HD : Hid (decide (p.length ≤ k) = true) := Lib.hid (decide_eq_true (by rw [HM.out]; omega))
        clear he hj
        go_wp2
        go_ret2
        exact ⟨A2, c2, p ++ List.replicate j 0, HR.out, by rw [HLn.out, HD.out]; rfl, by rw [HLn.out]; exact hc2, by rw [HLn.out]; exact HO.out, HW⟩
      · have h2 : ((m : Int) + (j : Int) == (k : Int)) = false := by simp; omega
        have HD : Hid (decide (p.length ≤ k) = false) := Lib.hid (decide_eq_false (by rw [HM.out]; omega))
        clear he hj
        go_wp2
        go_ret2
        exact ⟨A2, c2, p ++ List.replicate j 0, HR.out, by rw [HLn.out, HD.out]; rfl, by rw [HLn.out]; exact hc2, by rw [HLn.out]; exact HO.out, HW⟩
end Go.Proofs.YtiapokojlkdddaaGreat.Rd

/- What the definition's Places, At and Decode do. -/
namespace Go.Proofs.YtiapokojlkdddaaGreat.Rd
open Go.RowKit Go.Shelf F8 Poly GF
attribute [local go_sem] Oper.semAt_some

theorem int_mem_take {l : List Int} {k : Nat} {z : Int} (h : k < l.length) : z ∈ l.take (k + 1) ↔ z ∈ l.take k ∨ z = l[k] := by
  rw [take_succ' l h, List.mem_append, List.mem_singleton]
set_option maxRecDepth 100000 in
set_option maxHeartbeats 4000000 in
theorem refPlaces_calls (A : Option Addr) (n c : Nat) (B : Option Addr) (pl : List Int) (m d : Nat) (C : Option Addr) (o e : Nat) (w : World) (hl : pl.length = m) (hb : Row w B (zs pl)) (hm : m ≤ 1000000) :
    Calls Tryz.prog 103 #[.slice A n c, .slice B m d, .slice C o e] w fun e w' => e = .returned (.bool (decide (pl.length = o ∧ OkP n pl))) ∧ ∃ n, w' = w.drewN n := by
  have HB := Lib.hid hb
  have HM := Lib.hid hl
  obtain ⟨r, hrr⟩ : ∃ r, decide (pl.length = o ∧ OkP n pl) = r := ⟨_, rfl⟩
  rw [hrr]
  have HRR := Lib.hid hrr
  clear hb hl hrr
  go_enter Tryz.func103, Tryz.ntmps103
  go_wp2
  go_loopw [7] (fun i wr => ∃ k : Nat, k ≤ m ∧ i = .int .i64 k ∧ Hid (OkP n (pl.take k)) ∧ Hid (∃ n, wr = w.drewN n)) (fun i _ => m - (intOf i).toNat)
  case atStart => exact ⟨0, by omega, rfl, Lib.hid ⟨by simp, by simp⟩, Lib.hid ⟨0, rfl⟩⟩
  case round =>
    obtain ⟨k, hk, rfl, HN, HD⟩ := hrel
    by_cases hkk : k < m
    · have hkp : k < pl.length := by rw [HM.out]; exact hkk
      obtain ⟨b, off, rfl, hcell⟩ := zs_at (drew_row HB.out HD.out) (k := k) hkp
      have hiff := okP_take (n := n) hkp HN.out
      have HOUT : Hid (¬ OkP n (pl.take (k + 1)) → decide (pl.length = o ∧ OkP n pl) = false) := Lib.hid (fun h => decide_eq_false fun h2 => h (okP_of_take (k + 1) h2.2))
      obtain ⟨z, hz2⟩ : ∃ z, pl[k] = z := ⟨_, rfl⟩
      rw [hz2] at hcell hiff
      have HI := Lib.hid hiff
      have HZ := Lib.hid hz2
      clear hz2 hiff
      by_cases h0 : z < 0
      · have HNO : Hid (decide (pl.length = o ∧ OkP n pl) = false) := Lib.hid (HOUT.out (by rw [HI.out]; rintro ⟨⟨h, _⟩, _⟩; omega))
        go_wp2
        go_ret
        exact ⟨by rw [← HRR.out, HNO.out]; rfl, HD.out⟩
      by_cases h1 : (n : Int) ≤ z
      · have HNO : Hid (decide (pl.length = o ∧ OkP n pl) = false) := Lib.hid (HOUT.out (by rw [HI.out]; rintro ⟨⟨_, h⟩, _⟩; omega))
        go_wp2
        go_ret
        exact ⟨by rw [← HRR.out, HNO.out]; rfl, HD.out⟩
      have HZB : Hid (0 ≤ z ∧ z < (n : Int)) := Lib.hid ⟨by omega, by omega⟩
      go_wp2
      clear hcell h0 h1
      go_loopw [8] (fun j wr => ∃ q : Nat, q ≤ k ∧ j = .int .i64 q ∧ Hid (z ∉ pl.take q) ∧ Hid (∃ n, wr = w.drewN n)) (fun j _ => k - (intOf j).toNat)
      case atStart => exact ⟨0, by omega, rfl, Lib.hid (by simp), HD⟩
      case round =>
        clear HD
        obtain ⟨q, hq, rfl, HQ, HD⟩ := hrel
        by_cases hqk : q < k
        · have hqp : q < pl.length := by omega
          obtain ⟨b1, o1, e1, hc1⟩ := zs_at (drew_row HB.out HD.out) (k := k) hkp
          obtain ⟨b2, o2, e2, hc2⟩ := zs_at (drew_row HB.out HD.out) (k := q) hqp
          simp only [Option.some.injEq, Addr.mk.injEq] at e1 e2
          obtain ⟨rfl, rfl, -⟩ := e1
          obtain ⟨rfl, rfl, -⟩ := e2
          have HX := Lib.hid (int_mem_take (z := z) hqp)
          have HD2 := Lib.hid (drew_more HD.out)
          have HEq : Hid (z = pl[q] → z ∈ pl.take k) := Lib.hid (fun e => by
            rw [e]; exact List.mem_iff_getElem.2 ⟨q, by rw [List.length_take]; omega, by simp⟩)
          rw [HZ.out] at hc1
          obtain ⟨y, hy⟩ : ∃ y, pl[q] = y := ⟨_, rfl⟩
          rw [hy] at hc2 HX HEq
          clear hy
          by_cases e : z = y
          · have he : (z == y) = true := by simp [e]
            have HNO : Hid (decide (pl.length = o ∧ OkP n pl) = false) := Lib.hid (HOUT.out (by rw [HI.out]; rintro ⟨_, h⟩; exact h (HEq.out e)))
            clear e
            go_wp2
            go_region
            go_wp2
            go_ret
            exact ⟨by rw [← HRR.out, HNO.out]; rfl, HD2.out⟩
          · have he : (z == y) = false := by simpa using e
            have HQ2 : Hid (z ∉ pl.take (q + 1)) := Lib.hid (by rw [HX.out]; rintro (h | h); exact HQ.out h; exact e h)
            clear e
            go_wp2
            go_region
            go_wp2
            go_roundw
            case rel => exact ⟨q + 1, by omega, by go_num, HQ2, HD2⟩
            case measure => simp [intOf]; omega
        · obtain rfl : q = k := by omega
          have HN2 : Hid (OkP n (pl.take (q + 1))) := Lib.hid (by rw [HI.out]; exact ⟨HZB.out, HQ.out⟩)
          go_wp2
          go_roundw
          case rel => exact ⟨q + 1, by omega, by go_num, HN2, HD⟩
          case measure => simp [intOf]; omega
    · obtain rfl : k = m := by omega
      have HY : Hid (OkP n pl) := Lib.hid (by have := HN.out; rwa [List.take_of_length_le (by have := HM.out; omega)] at this)
      by_cases e : k = o
      · have h1 : ((k : Int) == (o : Int)) = true := by simp; omega
        have HR : Hid (decide (pl.length = o ∧ OkP n pl) = true) := Lib.hid (decide_eq_true ⟨by rw [HM.out, e], HY.out⟩)
        clear e
        go_wp2
        go_ret
        exact ⟨by rw [← HRR.out, HR.out]; rfl, HD.out⟩
      · have h1 : ((k : Int) == (o : Int)) = false := by simp; omega
        have HR : Hid (decide (pl.length = o ∧ OkP n pl) = false) := Lib.hid (decide_eq_false (by rw [HM.out]; rintro ⟨h, _⟩; exact e h))
        clear e
        go_wp2
        go_ret
        exact ⟨by rw [← HRR.out, HR.out]; rfl, HD.out⟩
/-- A list of one's own. -/
def ROwn (w : World) (r : List F8) (n : Nat) (e : Ending) (w' : World) : Prop :=
  ∃ A c, e = .returned (.slice A n c) ∧ n ≤ c ∧ Own w' w.heap.size 5 (.slice A n c) (bv (bs r)) ∧ Below w.heap.size w w'
theorem ptsAt_snoc {p : List F8} {pl : List Int} {k : Nat} (h : k < pl.length) : bv (bs (ptsAt p (pl.take (k + 1)))) = bv (bs (ptsAt p (pl.take k))) ++ bv [(coef p pl[k].toNat).n] := by
  rw [take_succ' pl h, ptsAt, List.map_append, List.map_cons, List.map_nil, bvs_snoc]; rfl
set_option maxRecDepth 100000 in
set_option maxHeartbeats 2000000 in
theorem refAtP_calls (A : Option Addr) (p : List F8) (n c : Nat) (B : Option Addr) (pl : List Int) (m d : Nat) (w : World) (hn : p.length = n) (hb : Bytes w A (bs p)) (hn2 : n ≤ 1000000) (hl : pl.length = m) (hr : Row w B (zs pl)) (hm : m ≤ 1000000) (hok : OkP n pl) :
    Calls Tryz.prog 152 #[.slice A n c, .slice B m d] w (ROwn w (ptsAt p pl) m) := by
  have HB := Lib.hid hb
  have HR := Lib.hid hr
  have HM := Lib.hid hl
  have HN := Lib.hid hn
  have HK := Lib.hid hok
  clear hb hl hr hok hn
  go_enter Tryz.func152, Tryz.ntmps152
  go_wp2
  go_loopw [5, 6] (fun out i wr => ∃ k : Nat, k ≤ m ∧ i = .int .i64 k ∧ Hid (Own wr w.heap.size 5 out (bv (bs (ptsAt p (pl.take k))))) ∧ Below w.heap.size w wr) (fun _ i _ => m - (intOf i).toNat)
  case atStart => exact ⟨0, by omega, rfl, Lib.hid (Own.nil _ _ _), Below.refl _ _⟩
  case round =>
    obtain ⟨k, hk, rfl, HO, HW⟩ := hrel
    have hsz := HW.size
    by_cases hlt : k < m
    · have hkp : k < pl.length := by rw [HM.out]; exact hlt
      obtain ⟨b, off, rfl, hcell⟩ := zs_at (HR.out.below HW) (k := k) hkp
      have HT := Lib.hid (ptsAt_snoc (p := p) hkp)
      have hin := HK.out.1 pl[k] (List.getElem_mem hkp)
      have HL : Hid ((bv (bs (ptsAt p (pl.take k)))).length = k) := Lib.hid (by rw [bvs_length, ptsAt_length, List.length_take]; omega)
      obtain ⟨z, hz⟩ : ∃ z, pl[k] = z := ⟨_, rfl⟩
      rw [hz] at hcell hin HT
      obtain ⟨x, rfl⟩ : ∃ x : Nat, z = (x : Int) := ⟨z.toNat, by omega⟩
      obtain ⟨y, hy⟩ : ∃ y, coef p x = y := ⟨_, rfl⟩
      have hxn : (x : Int) < (n : Int) := hin.2
      have hxp : x < p.length := by rw [HN.out]; omega
      obtain ⟨b2, o2, rfl⟩ := where_ HB.out (by omega)
      have hc2 := cellAt (HB.out.below HW) x hxp
      rw [Int.toNat_natCast] at HT
      rw [hy] at hc2 HT
      clear hz hy hin hxp
      go_wp2_with (at_builtin; refine wpList_app _ rfl _ _ _ rfl w.heap.size 5 _ 1 Tryz.underlying22 info_u8 rfl (by omega) _ _ rfl (HO.out.alloc _) (some ⟨wr.heap.size, 0, none⟩) 1 1 (bv [y.n]) rfl rfl (Row.new _ _ _ _) (bv_one _) (by rw [HL.out]; omega) (by simp; omega) ?_; rintro v2 w2 hown hg3 -)
      rw [← HT.out] at hown
      have HO2 := Lib.hid hown
      have hB2 := (HW.alloc hsz _).trans ((HO.out.alloc _).grew (by simp; omega) hg3)
      clear hown hg3
      go_roundw
      case rel => exact ⟨k + 1, by omega, by go_num, HO2, hB2⟩
      case measure => simp [intOf]; omega
    · obtain rfl : k = m := by omega
      have ht : pl.take k = pl := List.take_of_length_le (by rw [HM.out]; exact Nat.le_refl _)
      rw [ht] at HO
      obtain ⟨A1, c1, rfl, hc1⟩ := Own.shape HO.out
      have HPL : Hid ((ptsAt p pl).length = k) := Lib.hid (by rw [ptsAt_length, HM.out])
      rw [HPL.out] at HO hc1 ⊢
      go_wp2
      go_ret
      exact ⟨A1, c1, rfl, hc1, HO.out, HW⟩
/-- What a decoder gives. -/
def RDec (w : World) (xs : List F8) (k : Nat) (pl : List Int) (ys : List F8) (e : Ending) (w' : World) : Prop := ∃ l n, DecIs xs k pl ys l n ∧ REnc w (l, n) e w'
set_option maxRecDepth 100000 in
set_option maxHeartbeats 4000000 in
theorem refDecode_calls (A : Option Addr) (p : List F8) (n c k : Nat) (B : Option Addr) (pl : List Int) (m d : Nat) (C : Option Addr) (ys : List F8) (o e : Nat) (w : World) (hn : p.length = n) (hb : Bytes w A (bs p)) (hn2 : n ≤ 1000000) (hnd : p.Nodup) (hk : k ≤ 1000000)
    (hl : pl.length = m) (hr : Row w B (zs pl)) (hm : m ≤ 1000000) (ho : ys.length = o) (hb2 : Bytes w C (bs ys)) :
    Calls Tryz.prog 105 #[.slice A n c, .int .i64 k, .slice B m d, .slice C o e] w (RDec w p k pl ys) := by
  have hp := refPlaces_calls A n c B pl m d C o e w hl hr hm
  by_cases hok : pl.length = ys.length ∧ OkP n pl
  · have hok2 : pl.length = o ∧ OkP n pl := ⟨by rw [hok.1, ho], hok.2⟩
    have hok3 : pl.length = ys.length ∧ OkP p.length pl := ⟨hok.1, by rw [hn]; exact hok.2⟩
    rw [decide_eq_true hok2] at hp
    have HOK := Lib.hid hok3
    have HPN := Lib.hid (ptsAt_nodup hnd hok3.2)
    have HPL := Lib.hid (ptsAt_length p pl)
    have hok4 := Lib.hid hok.2
    have HMO : Hid (m = o) := Lib.hid (by omega)
    by_cases hmk : m < k
    · have HX : Hid (DecIs p k pl ys [] 70) := Lib.hid (.inr (.inl ⟨hok3, by omega, rfl, rfl⟩))
      clear hok hok2 hok3 hb hr hb2 ho hl hn
      go_enter Tryz.func105, Tryz.ntmps105
      go_wp2_with (go_at_call 103; refine hp.mono ?_; rintro e w1 ⟨rfl, q, rfl⟩)
      go_ret2
      exact ⟨[], 70, HX.out, none, 0, rfl, Nat.le_refl _, Own.nil _ _ _, Below.drewN' (Below.refl _ _) _⟩
    · have HB := Lib.hid hb
      have HR := Lib.hid hr
      have HB2 := Lib.hid hb2
      have HM := Lib.hid hl
      have HN := Lib.hid hn
      have HO := Lib.hid ho
      clear hok hok2 hok3 hb hr hb2 ho hl hn
      go_enter Tryz.func105, Tryz.ntmps105
      go_wp2_with (go_at_call 103; refine hp.mono ?_; rintro e w1 ⟨rfl, q, rfl⟩)
      refine (refAtP_calls A p n c B pl m d _ HN.out (HB.out.drewN q) hn2 HM.out (HR.out.drewN q) hm hok4.out).mono ?_
      rintro e w2 ⟨A2, c2, rfl, hc2, hO2, hB2⟩
      obtain ⟨pts, hpts⟩ : ∃ pts, ptsAt p pl = pts := ⟨_, rfl⟩
      rw [hpts] at HPN HPL hO2
      have HPT := Lib.hid hpts
      have HO2 := Lib.hid hO2
      have HBW : Below w.heap.size w w2 := (Below.drewN' (Below.refl _ _) q).trans hB2
      clear hpts hO2 hp hB2
      go_wp2_with fail
      refine (refThrough_calls A2 C pts ys m o c2 e _ (by rw [HPL.out, HM.out]) HO.out HMO.out (Own.bytes HO2.out) (HB2.out.below HBW) hc2 (by omega)).mono ?_
      rintro e w3 (⟨-, r, A3, c3, ht, rfl, hc3, hO3, hB3⟩ | ⟨hno, -⟩)
      rotate_left
      · exact absurd HPN.out hno
      have HT := Lib.hid ht
      have HO3 := Lib.hid hO3
      have hrl := thru_length ht
      have hrl2 : r.length ≤ m := by rw [HPL.out, HM.out] at hrl; exact hrl
      have HBW3 : Below w.heap.size w w3 := HBW.trans (hB3.mono HBW.size)
      clear ht hO3 hB3 HBW HO2 hrl
      go_wp2_with fail
      refine (refFull_calls A3 r r.length c3 k _ rfl (Own.bytes HO3.out) (by omega) hk).mono ?_
      rintro e w4 ⟨A4, c4, l, hl4, rfl, hc4, hO4, hB4⟩
      have HBW4 : Below w.heap.size w w4 := HBW3.trans (hB4.mono HBW3.size)
      have hO4' := hO4.more HBW3.size
      by_cases hrk : r.length ≤ k
      · rw [if_pos hrk] at hl4
        subst hl4
        have hd := decide_eq_true hrk
        have HX : Hid (DecIs p k pl ys (full r k) 0) := Lib.hid (.inr (.inr (.inl ⟨HOK.out, by have := HM.out; omega, rfl, full_length r k, by rw [HPT.out, word_congr (full_eqv hrk)]; exact thru_word (by rw [HPL.out]; exact HOK.out.1) HT.out⟩)))
        rw [hd]
        clear hd hrk hO4 hB4
        go_wp2
        go_ret2
        exact ⟨_, 0, HX.out, A4, c4, rfl, hc4, hO4', HBW4⟩
      · rw [if_neg hrk] at hl4
        subst hl4
        have hd := decide_eq_false hrk
        have HX : Hid (DecIs p k pl ys [] 71) := Lib.hid (.inr (.inr (.inr ⟨HOK.out, by have := HM.out; omega, rfl, rfl, by rw [HPT.out]; exact thru_no HPN.out (by rw [HPL.out]; exact HOK.out.1) (by have := HM.out; have := HPL.out; omega) HT.out (by omega)⟩)))
        rw [hd]
        clear hd hrk hO4 hB4 hO4'
        go_wp2
        go_ret2
        exact ⟨[], 71, HX.out, none, 0, rfl, Nat.le_refl _, Own.nil _ _ _, HBW4⟩
  · have hno : ¬ (pl.length = o ∧ OkP n pl) := fun h => hok ⟨by rw [h.1, ho], h.2⟩
    rw [decide_eq_false hno] at hp
    have HX : Hid (DecIs p k pl ys [] 2) := Lib.hid (.inl ⟨fun h => hok ⟨h.1, by rw [← hn]; exact h.2⟩, rfl, rfl⟩)
    clear hok hno hb hr hb2 ho hl hn
    go_enter Tryz.func105, Tryz.ntmps105
    go_wp2_with (go_at_call 103; refine hp.mono ?_; rintro e w1 ⟨rfl, q, rfl⟩)
    go_ret2
    exact ⟨[], 2, HX.out, none, 0, rfl, Nat.le_refl _, Own.nil _ _ _, Below.drewN' (Below.refl _ _) _⟩
end Go.Proofs.YtiapokojlkdddaaGreat.Rd

/- An append of noughts: append(s, make([]byte, k)...), s of the call's own. -/
namespace Go.Proofs.YtiapokojlkdddaaGreat.Rd
open Go.RowKit F8 Poly

/-- So many noughts as a string. -/
def nuls (k : Nat) : ByteArray := str (List.replicate k 0)
theorem nuls_size (k : Nat) : (nuls k).size = k := by rw [nuls, str_size, List.length_replicate]
theorem nuls_cells (k : Nat) : Lib.strCells (nuls k) = bv (List.replicate k 0) := by
  simp [Lib.strCells, nuls, str, bv]
theorem nuls_zero (k : Nat) : (Lib.strCells (nuls k)).toArray = Builtin.zeroCells (Value.int .u8 0).cells k := by
  rw [nuls_cells]
  apply Array.ext
  · simp [bv, size_zeroCells, Value.cells]
  · intro i h1 h2
    simp [bv, Builtin.zeroCells, Value.cells, Nat.mod_one]
theorem app_zeros_eq (w : World) (ty : TypeId) (base : Option Addr) (n cap k : Nat) (hk : k ≤ 1000000000) (hn : n ≤ 1000000000) (hc : n ≤ cap) :
    (Builtin.append_ #[22, 3] ty #[.slice base n cap, .int .i64 (k : Int)]).run Tryz.prog w =
    (Builtin.append_ #[22, 9] ty #[.slice base n cap, .string (nuls k)]).run Tryz.prog w := by
  obtain ⟨i, hi, hi1, hi2, hi3⟩ := info_parts info_u8
  have hw : IntKind.i64.wrap (k : Int) = k := by rw [IntKind.wrap_i64]; omega
  have hneg : ¬ ((k : Int) < 0) := by omega
  have h48i : ¬ (281474976710656 < (k : Int)) := by omega
  have h63 : ¬ (9223372036854775807 < (n : Int) + (k : Int)) := by omega
  have hf : ∀ w, (Builtin.firstCells 1 k (.string (nuls k))).run Tryz.prog w = .ok (Builtin.zeroCells (Value.int .u8 0).cells k) w := fun w => by
    have := Lib.run_firstCells_string (P := Tryz.prog) w 1 (nuls k)
    rw [nuls_size, nuls_zero] at this; exact this
  by_cases hroom : n + k ≤ cap
  · by_cases h0 : k = 0
    · subst h0
      have hw0 : IntKind.i64.wrap 0 = 0 := rfl
      have hr0 : n ≤ cap := hroom
      have hs0 := nuls_size 0
      simp [Builtin.append_, run_underlying Tryz.underlying22, run_underlying Tryz.underlying3, run_underlying Tryz.underlying9, sizeOf, typeInfo, zeroValue, hi, hi1, hi2, hi3, asInt, asIntOf, hw0, hr0, Builtin.lenOf, hs0, hf, Builtin.zeroCells]
    · simp [Builtin.append_, run_underlying Tryz.underlying22, run_underlying Tryz.underlying3, run_underlying Tryz.underlying9, sizeOf, typeInfo, zeroValue, hi, hi1, hi2, hi3, asInt, asIntOf, hw, hneg, h48i, Builtin.lenOf, nuls_size, hroom, hf, h0]
  · have h0 : k ≠ 0 := by omega
    have hfit : Builtin.nextslicecap (n + k) cap * 1 ≤ 281474976710656 := growslice_fits (by omega) (by omega)
    have h48' : ¬ (281474976710656 < Builtin.nextslicecap (n + k) cap) := by omega
    simp [Builtin.append_, run_underlying Tryz.underlying22, run_underlying Tryz.underlying3, run_underlying Tryz.underlying9, sizeOf, typeInfo, zeroValue, hi, hi1, hi2, hi3, asInt, asIntOf, hw, hneg, h48i, h48', h63, Builtin.lenOf, nuls_size, hroom, hf, h0, Question.forced]
/-- Noughts behind what is one's own. -/
theorem run_app_zeros (w : World) (ty : TypeId) (B : Nat) (v : Value) (xs : List Value) (hown : Own w B 5 v xs) (k : Nat) (hk : k ≤ 1000000000) (hn : xs.length ≤ 1000000000) (hB : B ≤ w.heap.size) :
    ∃ v' w', (Builtin.append_ #[22, 3] ty #[v, .int .i64 (k : Int)]).run Tryz.prog w = .ok v' w' ∧ Own w' B 5 v' (xs ++ bv (List.replicate k 0)) ∧ w.grownBy w' v.ownBlock := by
  obtain ⟨i, hi, hi1, hi2, hi3⟩ := info_parts info_u8
  obtain ⟨v', w', hr, h2, h3, _⟩ := Lib.run_append_own_string (P := Tryz.prog) w B 22 9 ty 5 i Tryz.underlying22 Tryz.underlying9 hi hi1 hi2 hi3 v xs.length xs hown (nuls k) (by rw [nuls_size]; simp only [maxLen]; omega) (by rw [nuls_size]; omega) hB
  have he : (Builtin.append_ #[22, 3] ty #[v, .int .i64 (k : Int)]).run Tryz.prog w = (Builtin.append_ #[22, 9] ty #[v, .string (nuls k)]).run Tryz.prog w := by
    rcases hown.2 with ⟨rfl, h0⟩ | ⟨g, cap, cur, rfl, _, _, hnc, _⟩
    · exact app_zeros_eq w ty none 0 0 k hk (by omega) (Nat.le_refl _)
    · exact app_zeros_eq w ty _ xs.length cap k hk hn hnc
  refine ⟨v', w', he.trans hr, ?_, h3⟩
  rw [nuls_size, nuls_cells] at h2
  unfold Own
  rw [List.length_append, bv_length, List.length_replicate]
  exact h2
end Go.Proofs.YtiapokojlkdddaaGreat.Rd
