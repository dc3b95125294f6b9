/- What the definition's calls on codes do: Unlike, New, Encode, Full, Places, At, Decode. -/
import Derived.Test.YtjpbdbgihakpmaaRdCode
import Derived.Test.YtjpbdbgihakpmaaPolyRef3
namespace Go.Proofs.Ytjpbdbgihakpmaa.Rd
open Go.RowKit Go.Shelf F8 Poly GF
attribute [local go_sem] Oper.semAt_some

theorem coef_mem_take {p : List F8} {i k : Nat} (h : k < p.length) : coef p i ∈ p.take (k + 1) ↔ coef p i ∈ p.take k ∨ coef p i = coef p k := by
  rw [take_succ' p h, List.mem_append, List.mem_singleton, coef_of_lt h]
theorem drew_bytes {w wr : World} {A : Option Addr} {l : List Nat} (h : Bytes w A l) (hd : ∃ n, wr = w.drewN n) : Bytes wr A l := by obtain ⟨n, rfl⟩ := hd; exact h.drewN n
theorem drew_row {w wr : World} {A : Option Addr} {l : List Value} (h : Row w A l) (hd : ∃ n, wr = w.drewN n) : Row wr A l := by obtain ⟨n, rfl⟩ := hd; exact h.drewN n
theorem drew_more {w wr : World} (hd : ∃ n, wr = w.drewN n) : ∃ n, wr.drew = w.drewN n := by obtain ⟨n, rfl⟩ := hd; exact ⟨n + 1, rfl⟩
set_option maxRecDepth 100000 in
set_option maxHeartbeats 2000000 in
theorem refUnlike_calls (A : Option Addr) (p : List F8) (m c : Nat) (w : World) (hl : p.length = m) (hb : Bytes w A (bs p)) (hm : m ≤ 1000000) :
    Calls Try.prog 71 #[.slice A m c] w fun e w' => e = .returned (.bool (decide p.Nodup)) ∧ ∃ n, w' = w.drewN n := by
  have HB := Lib.hid hb
  have HM := Lib.hid hl
  clear hb hl
  go_enter Try.func71, Try.ntmps71
  go_wp2
  go_loopw [3] (fun i wr => ∃ k : Nat, k ≤ m ∧ i = .int .i64 k ∧ Hid ((p.take k).Nodup) ∧ Hid (∃ n, wr = w.drewN n)) (fun i _ => m - (intOf i).toNat)
  case atStart => exact ⟨0, by omega, rfl, Lib.hid (by simp), Lib.hid ⟨0, rfl⟩⟩
  case round =>
    obtain ⟨k, hk, rfl, HN, HD⟩ := hrel
    by_cases hkk : k < m
    · have hkp : k < p.length := by rw [HM.out]; exact hkk
      obtain ⟨b, off, rfl⟩ := where_ HB.out (by omega)
      go_wp2
      go_loopw [4] (fun j wr => ∃ q : Nat, q ≤ k ∧ j = .int .i64 q ∧ Hid (coef p k ∉ p.take q) ∧ Hid (∃ n, wr = w.drewN n)) (fun j _ => k - (intOf j).toNat)
      case atStart => exact ⟨0, by omega, rfl, Lib.hid (by simp), HD⟩
      case round =>
        clear HD
        obtain ⟨q, hq, rfl, HQ, HD⟩ := hrel
        by_cases hqk : q < k
        · have hbr := drew_bytes HB.out HD.out
          have h1 := cellAt hbr k hkp
          have h2 := cellAt hbr q (by omega)
          clear hbr
          have HD2 := Lib.hid (drew_more HD.out)
          have HX := Lib.hid (coef_mem_take (p := p) (i := k) (k := q) (by omega))
          have HNO : Hid (coef p k = coef p q → decide p.Nodup = false) := Lib.hid (fun e => decide_eq_false (not_nodup_of_take (k := k + 1) (by
            rw [take_succ' p hkp, nodup_snoc, ← coef_of_lt hkp]
            rintro ⟨_, h⟩
            refine h ?_
            rw [e, coef_of_lt (by omega)]
            exact List.mem_iff_getElem.2 ⟨q, by rw [List.length_take]; omega, by simp⟩)))
          obtain ⟨x, hx⟩ : ∃ x, coef p k = x := ⟨_, rfl⟩
          obtain ⟨y, hy⟩ : ∃ y, coef p q = y := ⟨_, rfl⟩
          rw [hx] at h1 HX HNO HQ
          rw [hy] at h2 HX HNO
          have HXX := Lib.hid hx
          clear hx hy
          by_cases e : x = y
          · have he : ((x.n : Int) == (y.n : Int)) = true := by simp [e]
            have hno := HNO.out e
            have HNO := Lib.hid hno
            clear hno e
            go_wp2
            go_region
            go_wp2
            go_ret
            exact ⟨by rw [HNO.out]; rfl, HD2.out⟩
          · have he := n_beq_false e
            have HQ2 : Hid (x ∉ p.take (q + 1)) := Lib.hid (by rw [HX.out]; rintro (h | h); exact HQ.out h; exact e h)
            rw [← HXX.out] at HQ2
            clear e
            go_wp2
            go_region
            go_wp2
            go_roundw
            case rel => exact ⟨q + 1, by omega, by go_num, HQ2, HD2⟩
            case measure => simp [intOf]; omega
        · obtain rfl : q = k := by omega
          have HN2 : Hid ((p.take (q + 1)).Nodup) := Lib.hid (by rw [take_succ' p hkp, nodup_snoc, ← coef_of_lt hkp]; exact ⟨HN.out, HQ.out⟩)
          go_wp2
          go_roundw
          case rel => exact ⟨q + 1, by omega, by go_num, HN2, HD⟩
          case measure => simp [intOf]; omega
    · obtain rfl : k = m := by omega
      have HY : Hid (decide p.Nodup = true) := Lib.hid (decide_eq_true (by have := HN.out; rwa [List.take_of_length_le (by have := HM.out; omega)] at this))
      go_wp2
      go_ret
      exact ⟨by rw [HY.out]; rfl, HD.out⟩
set_option maxRecDepth 100000 in
set_option maxHeartbeats 2000000 in
theorem refNew_calls (A : Option Addr) (p : List F8) (m c : Nat) (k : Int) (w : World) (hl : p.length = m) (hb : Bytes w A (bs p)) (hm : m ≤ 1000000) :
    Calls Try.prog 27 #[.slice A m c, .int .i64 k] w fun e w' => e = .returned (.int .i64 (newR p k)) ∧ ∃ n, w' = w.drewN n := by
  have hu := refUnlike_calls A p m c w hl hb hm
  by_cases h1 : p.Nodup
  · rw [decide_eq_true h1] at hu
    by_cases h2 : k < 1
    · have HR : Hid (newR p k = 2) := Lib.hid (if_neg (by rintro ⟨_, h, _⟩; omega))
      clear hl hb h1
      go_enter Try.func27, Try.ntmps27
      go_wp2_with (go_at_call 71; refine hu.mono ?_; rintro e w1 ⟨rfl, n, rfl⟩)
      go_ret
      exact ⟨by rw [HR.out]; rfl, n, rfl⟩
    by_cases h3 : (m : Int) < k
    · have HR : Hid (newR p k = 2) := Lib.hid (if_neg (by rintro ⟨_, _, h⟩; omega))
      clear hl hb h1
      go_enter Try.func27, Try.ntmps27
      go_wp2_with (go_at_call 71; refine hu.mono ?_; rintro e w1 ⟨rfl, n, rfl⟩)
      go_ret
      exact ⟨by rw [HR.out]; rfl, n, rfl⟩
    have HR : Hid (newR p k = 0) := Lib.hid (if_pos ⟨h1, by omega, by omega⟩)
    clear hl hb h1
    go_enter Try.func27, Try.ntmps27
    go_wp2_with (go_at_call 71; refine hu.mono ?_; rintro e w1 ⟨rfl, n, rfl⟩)
    go_ret
    exact ⟨by rw [HR.out]; rfl, n, rfl⟩
  · rw [decide_eq_false h1] at hu
    have HR : Hid (newR p k = 2) := Lib.hid (if_neg (by rintro ⟨h, _⟩; exact h1 h))
    clear hl hb h1
    go_enter Try.func27, Try.ntmps27
    go_wp2_with (go_at_call 71; refine hu.mono ?_; rintro e w1 ⟨rfl, n, rfl⟩)
    go_ret
    exact ⟨by rw [HR.out]; rfl, n, rfl⟩
/-- A list and an error's number. -/
def REnc (w : World) (r : List F8 × Int) (e : Ending) (w' : World) : Prop :=
  ∃ A c, e = .returned (.tuple #[.slice A r.1.length c, .int .i64 r.2]) ∧ r.1.length ≤ c ∧ Own w' w.heap.size 5 (.slice A r.1.length c) (bv (bs r.1)) ∧ Below w.heap.size w w'
set_option maxRecDepth 100000 in
set_option maxHeartbeats 2000000 in
theorem refEncode_calls (A : Option Addr) (p : List F8) (m c k : Nat) (B : Option Addr) (q : List F8) (n d : Nat) (w : World) (hl : p.length = m) (hb : Bytes w A (bs p)) (hm : m ≤ 1000000) (hn : q.length = n) (hb2 : Bytes w B (bs q)) (hn2 : n ≤ 1000000) :
    Calls Try.prog 34 #[.slice A m c, .int .i64 k, .slice B n d] w (REnc w (encR p k q)) := by
  by_cases hk : n = k
  · have e1 : encR p k q = (word q p, 0) := if_pos (by omega)
    have h1 : ((n : Int) == (k : Int)) = true := by simp; omega
    have h2 : ((n : Int) != (k : Int)) = false := by simp; omega
    rw [e1]
    have HB := Lib.hid hb
    have HB2 := Lib.hid hb2
    have HM := Lib.hid hl
    have HN := Lib.hid hn
    clear e1 hk hb hb2 hl hn
    go_enter Try.func34, Try.ntmps34
    go_wp2
    go_loopw [8, 9] (fun out i wr => ∃ k : Nat, k ≤ m ∧ i = .int .i64 k ∧ Hid (Own wr w.heap.size 5 out (bv (bs (word q (p.take k))))) ∧ Below w.heap.size w wr) (fun _ i _ => m - (intOf i).toNat)
    case atStart => exact ⟨0, by omega, rfl, Lib.hid (Own.nil _ _ _), Below.refl _ _⟩
    case round =>
      obtain ⟨j, hj, rfl, HO, HW⟩ := hrel
      have hsz := HW.size
      by_cases hlt : j < m
      · have hlp : j < p.length := by rw [HM.out]; exact hlt
        obtain ⟨b2, o2, rfl⟩ := where_ HB.out (by omega)
        have hcell := cellAt (HB.out.below HW) j hlp
        obtain ⟨y, hy⟩ : ∃ y, eval q (coef p j) = y := ⟨_, rfl⟩
        have HT : Hid (bv (bs (word q (p.take j))) ++ bv [y.n] = bv (bs (word q (p.take (j + 1))))) := Lib.hid (by
          rw [word, word, take_succ' p hlp, ← coef_of_lt hlp, List.map_append, List.map_cons, List.map_nil, hy, bvs_snoc])
        have HL : Hid ((bv (bs (word q (p.take j)))).length = j) := Lib.hid (by rw [bvs_length, word_length, List.length_take]; omega)
        have HY := Lib.hid hy
        clear hy
        obtain ⟨x, hx⟩ : ∃ x, coef p j = x := ⟨_, rfl⟩
        rw [hx] at hcell HY
        clear hx
        go_wp2_with (first
          | (go_at_call 75; refine (refAt_calls B q n d x _ HN.out (HB2.out.below HW) (by omega)).mono ?_; rintro e w2 ⟨rfl, rfl⟩; rw [HY.out])
          | (at_builtin; refine wpList_app _ rfl _ _ _ rfl w.heap.size 5 _ 1 Try.underlying22 info_u8 rfl (by omega) _ _ rfl (HO.out.alloc _) (some ⟨wr.heap.size, 0, none⟩) 1 1 (bv [y.n]) rfl rfl (Row.new _ _ _ _) (bv_one _) (by rw [HL.out]; omega) (by simp; omega) ?_; rintro v2 w2 hown hg3 -))
        rw [HT.out] at hown
        have HO2 := Lib.hid hown
        have hB2 := (HW.alloc hsz _).trans ((HO.out.alloc _).grew (by simp; omega) hg3)
        clear hown hg3
        go_roundw
        case rel => exact ⟨j + 1, by omega, by go_num, HO2, hB2⟩
        case measure => simp [intOf]; omega
      · obtain rfl : j = m := by omega
        have ht : p.take j = p := List.take_of_length_le (by rw [HM.out]; exact Nat.le_refl _)
        rw [ht] at HO
        obtain ⟨A1, c1, rfl, hc1⟩ := Own.shape HO.out
        go_wp2
        go_ret2
        exact ⟨A1, c1, rfl, hc1, HO.out, HW⟩
  · have e1 : encR p k q = ([], 2) := if_neg (by omega)
    have h1 : ((n : Int) == (k : Int)) = false := by simp; omega
    have h2 : ((n : Int) != (k : Int)) = true := by simp; omega
    rw [e1]
    clear e1 hk hb hb2
    go_enter Try.func34, Try.ntmps34
    go_wp2
    go_ret2
    exact ⟨none, 0, rfl, Nat.le_refl _, Own.nil _ _ _, Below.refl _ _⟩
/-- What Full gives. -/
def RFull (w : World) (p : List F8) (k : Nat) (e : Ending) (w' : World) : Prop :=
  ∃ A c l, l = (if p.length ≤ k then full p k else p) ∧ e = .returned (.tuple #[.slice A l.length c, .bool (decide (p.length ≤ k))]) ∧ l.length ≤ c ∧ Own w' w.heap.size 5 (.slice A l.length c) (bv (bs l)) ∧ Below w.heap.size w w'
theorem pad_snoc (p : List F8) (j : Nat) : (p ++ List.replicate j 0) ++ [0] = p ++ List.replicate (j + 1) (0 : F8) := by
  rw [List.append_assoc, ← List.replicate_succ']
set_option maxRecDepth 100000 in
set_option maxHeartbeats 2000000 in
theorem refFull_calls (A : Option Addr) (p : List F8) (m c k : Nat) (w : World) (hl : p.length = m) (hb : Bytes w A (bs p)) (hm : m ≤ 1000000) (hk : k ≤ 1000000) :
    Calls Try.prog 83 #[.slice A m c, .int .i64 k] w (RFull w p k) := by
  have HB := Lib.hid hb
  have HM := Lib.hid hl
  have HV : Hid ((bv (bs p)).length = m) := Lib.hid (by rw [bvs_length, hl])
  clear hb hl
  go_enter Try.func83, Try.ntmps83
  go_wp2_with (at_builtin; refine wpList_app _ rfl (.tmp 7) (.tmp 8) _ rfl w.heap.size 5 _ 1 Try.underlying22 info_u8 rfl (by omega) (.slice none 0 0) [] rfl (Own.nil _ _ _) A m c (bv (bs p)) rfl HV.out HB.out.row (bv_one _) (by simp; omega) (Nat.le_refl _) ?_; intro v1 w1 hown1 hg1 _)
  have hB1 := (Own.nil w w.heap.size 5).grew (Nat.le_refl _) hg1
  rw [List.nil_append] at hown1
  have HO1 := Lib.hid hown1
  obtain ⟨A1, c1, rfl, hc1⟩ := Own.shape hown1
  rw [HM.out] at HO1 hc1 ⊢
  clear hown1 hg1
  go_loopw [6] (fun out wr => ∃ (j : Nat) (A : Option Addr) (c : Nat), (j = 0 ∨ m + j ≤ k) ∧ out = .slice A (m + j) c ∧ m + j ≤ c ∧ Hid (Own wr w.heap.size 5 (.slice A (m + j) c) (bv (bs (p ++ List.replicate j 0)))) ∧ Below w.heap.size w wr) (fun out _ => k - (match out with | .slice _ n _ => n | _ => 0))
  case atStart => exact ⟨0, A1, c1, .inl rfl, rfl, hc1, by simpa using HO1, hB1⟩
  case round =>
    obtain ⟨j, A2, c2, hj, rfl, hc2, HO, HW⟩ := hrel
    have hsz := HW.size
    have HL : Hid ((bv (bs (p ++ List.replicate j 0))).length = m + j) := Lib.hid (by rw [bvs_length, List.length_append, HM.out, List.length_replicate])
    have HT : Hid (bv (bs (p ++ List.replicate j 0)) ++ [.int .u8 0] = bv (bs (p ++ List.replicate (j + 1) 0))) := Lib.hid (by rw [← pad_snoc, bvs_snoc]; rfl)
    by_cases hlt : m + j < k
    · have h1 : ((m + j : Nat) : Int) < (k : Int) := by omega
      go_wp2_with (at_builtin; refine wpList_app _ rfl _ _ _ rfl w.heap.size 5 _ 1 Try.underlying22 info_u8 rfl (by omega) _ _ rfl (HO.out.alloc _) (some ⟨wr.heap.size, 0, none⟩) 1 1 [.int .u8 0] rfl rfl (Row.new _ _ _ _) (by intro u hu; obtain rfl := List.mem_singleton.1 hu; rfl) (by rw [HL.out]; omega) (by simp; omega) ?_; rintro v2 w2 hown hg3 -)
      rw [HT.out] at hown
      have hB2 := (HW.alloc hsz _).trans ((HO.out.alloc _).grew (by simp; omega) hg3)
      have HO2 := Lib.hid hown
      obtain ⟨A3, c3, rfl, hc3⟩ := Own.shape hown
      have HLL : Hid ((p ++ List.replicate (j + 1) (0 : F8)).length = m + (j + 1)) := Lib.hid (by rw [List.length_append, HM.out, List.length_replicate])
      rw [HLL.out] at HO2 hc3 ⊢
      clear hown hg3
      go_roundw
      case rel => exact ⟨j + 1, A3, c3, .inr (by omega), rfl, hc3, HO2, hB2⟩
      case measure => simp only []; omega
    · have h1 : ¬ ((m + j : Nat) : Int) < (k : Int) := by omega
      have hle : k ≤ m + j := by omega
      have HR : Hid (p ++ List.replicate j 0 = if p.length ≤ k then full p k else p) := Lib.hid (by
        rw [HM.out]
        rcases hj with rfl | hj
        · by_cases h : m ≤ k
          · rw [if_pos h, full_same (by rw [HM.out]; omega)]; simp
          · rw [if_neg h]; simp
        · rw [if_pos (by omega)]
          unfold full
          rw [List.take_of_length_le (by rw [HM.out]; omega), HM.out, show k - m = j by omega])
      have HLn : Hid ((p ++ List.replicate j (0 : F8)).length = m + j) := Lib.hid (by rw [List.length_append, HM.out, List.length_replicate])
      by_cases he : m + j = k
      · have h2 : ((m : Int) + (j : Int) == (k : Int)) = true := by simp; omega
        have HD : Hid (decide (p.length ≤ k) = true) := Lib.hid (decide_eq_true (by rw [HM.out]; omega))
        clear he hj
        go_wp2
        go_ret2
        exact ⟨A2, c2, p ++ List.replicate j 0, HR.out, by rw [HLn.out, HD.out]; rfl, by rw [HLn.out]; exact hc2, by rw [HLn.out]; exact HO.out, HW⟩
      · have h2 : ((m : Int) + (j : Int) == (k : Int)) = false := by simp; omega
        have HD : Hid (decide (p.length ≤ k) = false) := Lib.hid (decide_eq_false (by rw [HM.out]; omega))
        clear he hj
        go_wp2
        go_ret2
        exact ⟨A2, c2, p ++ List.replicate j 0, HR.out, by rw [HLn.out, HD.out]; rfl, by rw [HLn.out]; exact hc2, by rw [HLn.out]; exact HO.out, HW⟩
end Go.Proofs.Ytjpbdbgihakpmaa.Rd
