/- What the program's small calls on codes do: isNone, repeat, have, at, values, through. -/
import Derived.Test.YtjpbdbgihakpmaaPolyCode1
import Derived.Test.YtjpbdbgihakpmaaRdMath
namespace Go.Proofs.Ytjpbdbgihakpmaa.Rd
open Go.RowKit Go.Shelf F8 Poly GF
attribute [local go_sem] Oper.semAt_some

set_option maxHeartbeats 1000000 in
theorem equal_calls (A B : Option Addr) (p q : List F8) (m n c d : Nat) (w : World) (hm : p.length = m) (hn : q.length = n) (hb : Bytes w A (bs p)) (hb2 : Bytes w B (bs q)) :
    Calls Try.prog 79 #[.slice A m c, .slice B n d] w fun e w' => e = .returned (.bool (decide (p = q))) ∧ w = w' := by
  have c1 := conv_f hb m c hm
  have c2 := conv_f hb2 n d hn
  have HE : Hid (((str (bs p)).toList == (str (bs q)).toList) = decide (p = q)) := Lib.hid (by
    rw [Bool.eq_iff_iff, beq_iff_eq, decide_eq_true_iff, ByteArray.toList_eq, ByteArray.toList_eq, str_data, str_data]
    constructor
    · intro h
      refine bs_inj.1 (str_inj (bs_lt p) (bs_lt q) ?_)
      unfold str; rw [h]
    · intro h; rw [h])
  clear hb hb2
  go_enter Try.func79, Try.ntmps79
  go_wp2
  go_ret
  exact ⟨GF.ret_bool HE.out, rfl⟩

/-- The cells of a code over the field g, with these points and this K. -/
def codeC (g : Nat) (A : Option Addr) (n c k : Nat) : Array Value := #[.pointer (some ⟨g, 0, none⟩), .slice A n c, .int .i64 k]
theorem isNone_nil (w : World) : Calls Try.prog 72 #[.pointer none] w fun e w' => e = .returned (.bool true) ∧ w = w' := by
  go_enter Try.func72, Try.ntmps72
  go_wp2
  go_ret
  exact ⟨rfl, rfl⟩
theorem isNone_calls {w : World} {b g : Nat} {A : Option Addr} {n c k : Nat} (h : Block w b 97 (codeC g A n c k)) (hk : 1 ≤ k) :
    Calls Try.prog 72 #[.pointer (some ⟨b, 0, none⟩)] w fun e w' => e = .returned (.bool false) ∧ w = w' := by
  have h2 := h.cell 2
  simp only [codeC] at h2
  have hk2 : ((k : Int) == 0) = false := by simp; omega
  go_enter Try.func72, Try.ntmps72
  go_wp2
  go_ret
  exact ⟨rfl, rfl⟩

set_option maxRecDepth 100000 in
set_option maxHeartbeats 1000000 in
/-- Some point is there twice. -/
theorem repeat_calls (A : Option Addr) (p : List F8) (m c : Nat) (w : World) (hl : p.length = m) (hb : Bytes w A (bs p)) (hm : m ≤ 1000000) :
    Calls Try.prog 69 #[.slice A m c] w fun e w' => e = .returned (.bool (!decide p.Nodup)) ∧ Below w.heap.size w w' := by
  have hz := zero_seen
  have HB := Lib.hid hb
  clear hb
  go_enter Try.func69, Try.ntmps69
  go_wp2
  go_loopw [8] (fun i wr => ∃ k : Nat, k ≤ m ∧ i = .int .i64 k ∧ Hid (Block wr w.heap.size 145 (seenC (p.take k))) ∧ Hid ((p.take k).Nodup) ∧ Below w.heap.size w wr) (fun i _ => m - (intOf i).toNat)
  case atStart => exact ⟨0, by omega, rfl, Lib.hid (Block.new w _ _), Lib.hid (by simp), (Below.refl _ w).alloc (Nat.le_refl _) _⟩
  case round =>
    obtain ⟨k, hk, rfl, HS, HN, HW⟩ := hrel
    by_cases hkk : k < m
    · obtain ⟨b, off, rfl⟩ := where_ HB.out (by omega)
      have hcell := cellAt (HB.out.below HW) k (by omega)
      obtain ⟨x, hx⟩ : ∃ x, coef p k = x := ⟨_, rfl⟩
      rw [hx] at hcell
      have hxb := f8_bounds x
      have ht : p.take (k + 1) = p.take k ++ [x] := by rw [take_succ' p (by omega), ← coef_of_lt (by omega), hx]
      have HT := Lib.hid ht
      have hs := (HS.out.cell x.n).trans (seenC_get _ _)
      rw [any_n] at hs
      have hfz := HS.out.frozen x.n
      clear hx ht
      by_cases hin : x ∈ p.take k
      · rw [decide_eq_true hin] at hs
        have HNO : Hid (decide p.Nodup = false) := Lib.hid (decide_eq_false (not_nodup_of_take (k := k + 1) (by rw [HT.out, nodup_snoc]; exact fun h => h.2 hin)))
        clear hin
        go_wp2
        go_ret
        exact ⟨by rw [HNO.out]; rfl, HW⟩
      · rw [decide_eq_false hin] at hs
        have HN2 : Hid ((p.take (k + 1)).Nodup) := Lib.hid (by rw [HT.out, nodup_snoc]; exact ⟨HN.out, hin⟩)
        have HS2 : Hid (Block (wr.setCell ⟨w.heap.size, x.n, none⟩ (.bool true)) w.heap.size 145 (seenC (p.take (k + 1)))) := Lib.hid (by rw [HT.out, ← seenC_set]; exact HS.out.set_ _ _)
        clear hin
        go_wp2
        go_roundw
        case rel => exact ⟨k + 1, by omega, by go_num, HS2, HN2, HW.setCell (p := ⟨w.heap.size, x.n, none⟩) (Nat.le_refl _) _⟩
        case measure => simp [intOf]; omega
    · obtain rfl : k = m := by omega
      have HY : Hid (decide p.Nodup = true) := Lib.hid (decide_eq_true (by have := HN.out; rwa [List.take_of_length_le (by omega)] at this))
      clear HN hl hkk
      go_wp2
      go_ret
      exact ⟨by rw [HY.out]; rfl, HW⟩

/-- Numbers as values. -/
def zs (l : List Int) : List Value := l.map fun z => Value.int .i64 z
theorem zs_length (l : List Int) : (zs l).length = l.length := by simp [zs]
theorem zs_at {w : World} {A : Option Addr} {l : List Int} (h : Row w A (zs l)) {k : Nat} (hk : k < l.length) : ∃ b off, A = some ⟨b, off, none⟩ ∧ w.cell? ⟨b, off + k, none⟩ = some (.int .i64 l[k]) :=
  h k _ (by simp [zs, hk])
/-- Which places have been seen. -/
def seenI (l : List Int) : Array Value := Array.ofFn (n := 256) fun i => .bool (l.any fun x => x == (i.val : Int))
theorem zero_seenI (w : World) : (zeroValue 145).run Try.prog w = .ok (.agg (seenI [])) w := by kernel_rfl
theorem seenI_get (l : List Int) (x : Nat) (hx : x < 256) : (seenI l)[x]? = some (.bool (decide ((x : Int) ∈ l))) := by
  have e : (l.any fun y => y == (x : Int)) = decide ((x : Int) ∈ l) := by
    rw [Bool.eq_iff_iff]
    simp only [List.any_eq_true, beq_iff_eq, decide_eq_true_eq]
    exact ⟨fun ⟨y, hy, e⟩ => by rw [← e]; exact hy, fun h => ⟨_, h, rfl⟩⟩
  simp [seenI, hx]
  simpa using e
theorem seenI_set (l : List Int) (x : Nat) : (seenI l).setIfInBounds x (.bool true) = seenI (l ++ [(x : Int)]) := by
  apply Array.ext
  · simp [seenI]
  · intro i h1 h2
    have h3 : i < (seenI l).size := by simpa using h1
    rw [Array.getElem_setIfInBounds h3]
    simp only [seenI, Array.getElem_ofFn, List.any_append, List.any_cons, List.any_nil, Bool.or_false]
    by_cases e : x = i
    · simp [e]
    · have : ((x : Int) == (i : Int)) = false := by simp; omega
      rw [if_neg e, this, Bool.or_false]
theorem okP_take {n : Nat} {pl : List Int} {k : Nat} (hk : k < pl.length) (h : OkP n (pl.take k)) : OkP n (pl.take (k + 1)) ↔ (0 ≤ pl[k] ∧ pl[k] < (n : Int)) ∧ pl[k] ∉ pl.take k := by
  rw [take_succ' pl hk]
  unfold OkP
  rw [List.nodup_append]
  constructor
  · rintro ⟨h1, _, _, h3⟩
    exact ⟨h1 _ (List.mem_append.2 (.inr (List.mem_singleton.2 rfl))), fun hx => h3 _ hx _ (List.mem_singleton.2 rfl) rfl⟩
  · rintro ⟨h1, h2⟩
    refine ⟨fun i hi => ?_, h.2, by simp, fun a ha b hb e => by simp at hb; subst hb; subst e; exact h2 ha⟩
    rcases List.mem_append.1 hi with hi | hi
    · exact h.1 i hi
    · simp at hi; subst hi; exact h1
theorem okP_of_take {n : Nat} {pl : List Int} (k : Nat) (h : OkP n pl) : OkP n (pl.take k) := ⟨fun i hi => h.1 i (List.mem_of_mem_take hi), h.2.sublist (List.take_sublist _ _)⟩
instance (n : Nat) (pl : List Int) : Decidable (OkP n pl) := inferInstanceAs (Decidable (_ ∧ _))
set_option maxRecDepth 100000 in
set_option maxHeartbeats 2000000 in
/-- Are these indices of points, no two of them equal? -/
theorem have_calls (A : Option Addr) (n c : Nat) (hn : n ≤ 256) (B : Option Addr) (pl : List Int) (m d : Nat) (w : World) (hl : pl.length = m) (hb : Row w B (zs pl)) (hm : m ≤ 1000000000) :
    Calls Try.prog 76 #[.slice A n c, .slice B m d] w fun e w' => e = .returned (.bool (decide (OkP n pl))) ∧ Below w.heap.size w w' := by
  have hz := zero_seenI
  have HB := Lib.hid hb
  clear hb
  go_enter Try.func76, Try.ntmps76
  go_wp2
  go_loopw [10] (fun i wr => ∃ k : Nat, k ≤ m ∧ i = .int .i64 k ∧ Hid (Block wr w.heap.size 145 (seenI (pl.take k))) ∧ Hid (OkP n (pl.take k)) ∧ Below w.heap.size w wr) (fun i _ => m - (intOf i).toNat)
  case atStart => exact ⟨0, by omega, rfl, Lib.hid (Block.new w _ _), Lib.hid ⟨by simp, by simp⟩, (Below.refl _ w).alloc (Nat.le_refl _) _⟩
  case round =>
    obtain ⟨k, hk, rfl, HS, HN, HW⟩ := hrel
    by_cases hkk : k < m
    · obtain ⟨b, off, rfl, hcell⟩ := zs_at (HB.out.below HW) (k := k) (by omega)
      have hiff := okP_take (n := n) (by omega : k < pl.length) HN.out
      have hout : ¬ OkP n (pl.take (k + 1)) → decide (OkP n pl) = false := fun h => decide_eq_false fun h2 => h (okP_of_take (k + 1) h2)
      have HT : Hid (pl.take (k + 1) = pl.take k ++ [pl[k]]) := Lib.hid (take_succ' pl (by omega))
      obtain ⟨z, hz2⟩ : ∃ z, pl[k] = z := ⟨_, rfl⟩
      rw [hz2] at hcell hiff HT
      have HI := Lib.hid hiff
      have HOUT := Lib.hid hout
      clear hz2 hiff hout
      by_cases h0 : z < 0
      · have HNO : Hid (decide (OkP n pl) = false) := Lib.hid (HOUT.out (by rw [HI.out]; rintro ⟨⟨h, _⟩, _⟩; omega))
        go_wp2
        go_ret
        exact ⟨by rw [HNO.out]; rfl, HW⟩
      by_cases h1 : (n : Int) ≤ z
      · have HNO : Hid (decide (OkP n pl) = false) := Lib.hid (HOUT.out (by rw [HI.out]; rintro ⟨⟨_, h⟩, _⟩; omega))
        go_wp2
        go_ret
        exact ⟨by rw [HNO.out]; rfl, HW⟩
      obtain ⟨x, rfl⟩ : ∃ x : Nat, z = (x : Int) := ⟨z.toNat, by omega⟩
      have hx : x < 256 := by omega
      have hxn : (x : Int) < (n : Int) := by omega
      have hs := (HS.out.cell x).trans (seenI_get _ x hx)
      have hfz := HS.out.frozen x
      clear h0 h1
      by_cases hin : (x : Int) ∈ pl.take k
      · rw [decide_eq_true hin] at hs
        have HNO : Hid (decide (OkP n pl) = false) := Lib.hid (HOUT.out (by rw [HI.out]; rintro ⟨_, h⟩; exact h hin))
        clear hin
        go_wp2
        go_ret
        exact ⟨by rw [HNO.out]; rfl, HW⟩
      · rw [decide_eq_false hin] at hs
        have HN2 : Hid (OkP n (pl.take (k + 1))) := Lib.hid (by rw [HI.out]; exact ⟨⟨by omega, hxn⟩, hin⟩)
        have HS2 : Hid (Block (wr.setCell ⟨w.heap.size, x, none⟩ (.bool true)) w.heap.size 145 (seenI (pl.take (k + 1)))) := Lib.hid (by rw [HT.out, ← seenI_set]; exact HS.out.set_ _ _)
        clear hin
        go_wp2
        go_roundw
        case rel => exact ⟨k + 1, by omega, by go_num, HS2, HN2, HW.setCell (p := ⟨w.heap.size, x, none⟩) (Nat.le_refl _) _⟩
        case measure => simp [intOf]; omega
    · obtain rfl : k = m := by omega
      have HY : Hid (decide (OkP n pl) = true) := Lib.hid (decide_eq_true (by have := HN.out; rwa [List.take_of_length_le (by omega)] at this))
      clear HN hl hkk
      go_wp2
      go_ret
      exact ⟨by rw [HY.out]; rfl, HW⟩
end Go.Proofs.Ytjpbdbgihakpmaa.Rd
