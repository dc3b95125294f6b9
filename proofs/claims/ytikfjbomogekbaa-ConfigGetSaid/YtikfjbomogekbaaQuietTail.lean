/- A region that draws its order: a head whose operations read, or call what only lays memory, and a tail that waits for all of the head and runs in order (stores): one walk of the head in the order of the text serves every order. -/
import Derived.Test.YtikfjbomogekbaaKit
import Derived.StillTail
import Derived.Lib.QuietBelow
import Derived.BigQuiet
namespace Go.Proofs.Ytikfjbomogekbaa.QT
open Go

section
variable {P : Program} {ops : Array Oper} {C : World → Prop} {n : Nat} {L : Array Bool → Act → Prop}
/-- Of the head so many are still to come; behind them L. -/
def Hd (P : Program) (ops : Array Oper) (C : World → Prop) (n : Nat) (L : Array Bool → Act → Prop) : Nat → Array Bool → Act → Prop
  | 0 => L
  | m + 1 => fun s a => Region.ready .any ops s ≠ [] ∧ ∀ j, j ∈ Region.ready .any ops s → j < n ∧ qOp P ops C j (Hd P ops C n L m (s.setIfInBounds j true)) a
theorem Hd.any {g : Nat} {Q : Exit → Act → World → Prop} (hL : ∀ s a w, C w → L s a → wpAny P .any ops Q g s a w) : ∀ (m : Nat) {s : Array Bool} {a : Act} {w : World}, C w → Hd P ops C n L m s a → wpAny P .any ops Q (m + g) s a w
  | 0, s, a, w, hw, h => (Nat.zero_add g).symm ▸ hL s a w hw h
  | m + 1, s, a, w, hw, h => by
    rw [Nat.add_right_comm]
    refine ⟨fun e => absurd e h.1, fun j hj => ?_⟩
    exact wpOp_of_qOp hw (fun _ _ hw' h' => Hd.any hL m hw' h') (h.2 j hj).2
/-- Operation t waits for all of the head, or for one of the tail. -/
def sinkAt (ops : Array Oper) (n t : Nat) : Bool := (List.range n).all fun i => Region.waitsFor .any ops t i || (List.range n).any fun j => decide (i < j) && Region.waitsFor .any ops j i
def tailOk (ops : Array Oper) (n : Nat) : Bool := (List.range ops.size).all fun t => decide (t < n) || sinkAt ops n t || (List.range t).any fun u => decide (n ≤ u) && Region.waitsFor .any ops t u
theorem waits_not {s : Array Bool} {t u : Nat} (h : Region.waitsFor .any ops t u = true) (hu : s.getD u true = false) : t ∉ Region.ready .any ops s := fun hr => by
  obtain ⟨_, ot, hot, hall⟩ := mem_ready.1 hr
  obtain ⟨o', ho', e, he, hb, hon⟩ := Region.waitsFor_spec h
  obtain rfl : o' = ot := Option.some.inj (ho'.symm.trans hot)
  have h2 := hall e he hb
  rw [hon, getD_both hu] at h2
  cases h2
theorem sink_not {s : Array Bool} {t : Nat} (hs : sinkAt ops n t = true) (hn : n ≤ ops.size) (inv : HeadInv .any ops n s) : ∀ (d i : Nat), n - i = d → i < n → s.getD i true = false → t ∉ Region.ready .any ops s := by
  intro d
  induction d using Nat.strongRecOn with
  | _ d ih =>
    intro i hd hi hun
    have h1 := List.all_eq_true.1 hs i (List.mem_range.2 hi)
    simp only [Bool.or_eq_true] at h1
    rcases h1 with h1 | h1
    · exact waits_not h1 hun
    · obtain ⟨j, hj, hj2⟩ := List.any_eq_true.1 h1
      simp only [Bool.and_eq_true, decide_eq_true_eq] at hj2
      have hjn := List.mem_range.1 hj
      refine ih (n - j) (by omega) j rfl hjn (getD_in (by rw [inv.size]; omega) ?_)
      cases hl : s.getD j false with
      | false => rfl
      | true =>
        obtain ⟨oj, hoj, e, he, hb, hon⟩ := Region.waitsFor_spec hj2.2
        have h3 := inv.closed j oj hoj hl e he hb
        rw [hon, getD_both hun] at h3
        cases h3
theorem tail_not {s : Array Bool} {i t : Nat} (hT : tailOk ops n = true) (hn : n ≤ ops.size) (inv : HeadInv .any ops n s) (hi : i < n) (hun : s.getD i true = false) (ht : n ≤ t) : t ∉ Region.ready .any ops s := fun hr => by
  obtain ⟨_, ot, hot, _⟩ := mem_ready.1 hr
  have htl : t < ops.size := (Array.getElem?_eq_some_iff.1 hot).1
  have h1 := List.all_eq_true.1 hT t (List.mem_range.2 htl)
  simp only [Bool.or_eq_true, decide_eq_true_eq] at h1
  rcases h1 with (h1 | h1) | h1
  · omega
  · exact sink_not h1 hn inv _ i rfl hi hun hr
  · obtain ⟨u, hu, hu2⟩ := List.any_eq_true.1 h1
    simp only [Bool.and_eq_true, decide_eq_true_eq] at hu2
    exact waits_not hu2.2 (inv.tail u hu2.1 (Nat.lt_trans (List.mem_range.1 hu) htl)) hr
/-- What is ready may be taken first. -/
theorem Hd.first {i : Nat} {o : Oper} {v : Value} (ho : ops[i]? = some o) (hsel : Region.noSelect ops = true) (hT : tailOk ops n = true) (hn : n ≤ ops.size) (hin : i < n)
    (hend : ∀ s a, L s a → ∀ j, j ∈ Region.ready .any ops s → n ≤ j) :
    ∀ (m : Nat) {s : Array Bool} {a : Act}, HeadInv .any ops n s → i ∈ Region.ready .any ops s →
      (∀ j oj, ops[j]? = some oj → j ≠ i → s.getD j true = false → (∀ e ∈ oj.after, Region.binds .any e = true → e.on ≠ i) → o.apart ops oj = true) →
      YieldsIn P ops C o v a → Hd P ops C n L m (s.setIfInBounds i true) (a.put o.dst v) → Hd P ops C n L (m + 1) s a := by
  intro m
  induction m with
  | zero =>
    intro s a inv hr _ hy H
    refine ⟨fun e => (by rw [e] at hr; cases hr), fun j hj => ?_⟩
    have hjn : j < n := Nat.lt_of_not_le fun hle => tail_not hT hn inv hin (mem_ready.1 hr).1 hle hj
    by_cases e : j = i
    · rw [e]; exact ⟨hin, hy.qOp ho H⟩
    · exact absurd (hend _ _ H j (ready_mono hj e)) (by omega)
  | succ m ih =>
    intro s a inv hr hap hy H
    have hun := (mem_ready.1 hr).1
    refine ⟨fun e => (by rw [e] at hr; cases hr), fun j hj => ?_⟩
    have hjn : j < n := Nat.lt_of_not_le fun hle => tail_not hT hn inv hin hun hle hj
    refine ⟨hjn, ?_⟩
    by_cases e : j = i
    · rw [e]; exact hy.qOp ho H
    obtain ⟨hju, oj, hoj, haf⟩ := mem_ready.1 hj
    have hno : ∀ e ∈ oj.after, Region.binds .any e = true → e.on ≠ i := fun e he hb h => by
      have h1 := haf e he hb
      rw [h, getD_both hun] at h1
      cases h1
    have hq := qOp_put hoj (hap j oj hoj e hju hno) (fun cs b => Region.noSelect_spec hsel i o cs b ho) (fun cs b => Region.noSelect_spec hsel j oj cs b hoj) hy (H.2 j (ready_mono hj e)).2
    refine qOp_mono (fun a' h => ?_) hq
    refine ih (inv.set hj hjn) (ready_mono hr (Ne.symm e)) (fun k ok hk hki hku hkn => hap k ok hk hki ?_ hkn) h.1 ?_
    · by_cases e2 : j = k
      · rw [← e2]; exact hju
      · rwa [getD_set_ne true e2] at hku
    · rw [Array.setIfInBounds_comm _ _ e]; exact h.2
/-- So many of the head have come. -/
def upTo (m k : Nat) : Array Bool := (List.range k).foldl (fun s i => s.setIfInBounds i true) (Array.replicate m false)
theorem upTo_succ (m k : Nat) : upTo m (k + 1) = (upTo m k).setIfInBounds k true := by
  unfold upTo; rw [List.range_succ, List.foldl_append]; rfl
/-- In the order of the text each is ready, and free. -/
def lexOk (ops : Array Oper) (n : Nat) : Bool := (List.range n).all fun k => (Region.ready .any ops (upTo ops.size k)).contains k && Region.free .any ops (upTo ops.size k) k
/-- The head in the order of the text. -/
theorem Hd.lex {K : Act → Prop} (hsel : Region.noSelect ops = true) (hT : tailOk ops n = true) (hn : n ≤ ops.size) (hB : lexOk ops n = true) (hE : ((List.range n).all fun j => (upTo ops.size n).getD j true) = true) :
    ∀ (l : List Oper) (k : Nat) {a : Act}, (∀ j, j < l.length → l[j]? = ops[k + j]?) → k + l.length = n → HeadInv .any ops n (upTo ops.size k) →
      wpQuiet P ops C K l a → Hd P ops C n (fun s' a' => s' = upTo ops.size n ∧ K a') l.length (upTo ops.size k) a
  | [], k, a, _, hk, _, h => by
    obtain rfl : k = n := by simpa using hk
    exact ⟨rfl, h⟩
  | o :: l, k, a, hl, hk, inv, h => by
    have ho : ops[k]? = some o := by simpa using (hl 0 (by simp)).symm
    simp only [List.length_cons] at hk
    have hkn : k < n := by omega
    have hb := List.all_eq_true.1 hB k (List.mem_range.2 hkn)
    simp only [Bool.and_eq_true] at hb
    have hr : k ∈ Region.ready .any ops (upTo ops.size k) := by simpa using hb.1
    have hq : qOp P ops C k (wpQuiet P ops C K l) a := by unfold qOp; simp only [ho]; exact h
    obtain ⟨v, hy, hK⟩ := yieldsIn_of_qOp ho hq
    refine Hd.first ho hsel hT hn hkn (fun s a hL j hj => ?_) l.length inv hr (Region.free_spec ho hb.2) hy ?_
    · rcases Nat.lt_or_ge j n with h1 | h1
      · have h2 := List.all_eq_true.1 hE j (List.mem_range.2 h1)
        have h3 := (mem_ready.1 hj).1
        rw [hL.1, h2] at h3
        cases h3
      · exact h1
    · rw [← upTo_succ]
      exact Hd.lex hsel hT hn hB hE l (k + 1) (fun j hj => by have := hl (j + 1) (by simp; omega); simpa [Nat.add_assoc, Nat.add_comm 1 j] using this) (by omega) (by rw [upTo_succ]; exact inv.set hr hkn) hK
/-- What stands ahead of the tail. -/
def headB (ops : Array Oper) (n : Nat) : Bool := Region.noSelect ops && decide (n ≤ ops.size) && tailOk ops n && lexOk ops n && (List.range n).all fun j => (upTo ops.size n).getD j true
theorem wp_head {id : Nat} {Q : Exit → Act → World → Prop} {a : Act} {w : World} {l : List Oper} (n : Nat) (hm : P.follows .mixedOrders = true) (hB : headB l.toArray n = true) (hC : C { w with drawn := w.drawn + 1 })
    (h : wpQuiet P l.toArray C (fun a' => ∀ w', C w' → wpAny P .any l.toArray Q (l.toArray.size - n) (upTo l.toArray.size n) a' w') (l.take n) a) : (Code.region id l.toArray true).wp P Q a w := by
  simp only [headB, Bool.and_eq_true, decide_eq_true_eq] at hB
  obtain ⟨⟨⟨⟨hsel, hn⟩, hT⟩, hlex⟩, hE⟩ := hB
  have hnl : n ≤ l.length := by simpa using hn
  have ht : (l.take n).length = n := by rw [List.length_take]; omega
  have hi : HeadInv .any l.toArray n (upTo l.toArray.size 0) :=
    ⟨by simp [upTo], fun j oj _ hl => (by rw [show upTo l.toArray.size 0 = Array.replicate l.toArray.size false from rfl, getD_replicate_false] at hl; cases hl), fun t _ hts => getD_in (by simpa [upTo] using hts) (getD_replicate_false _ _)⟩
  have H := Hd.lex hsel hT hn hlex hE (l.take n) 0 (fun j hj => by
    rw [ht] at hj
    simp [hj]) (by rw [ht]; omega) hi h
  refine wp_region_any hm ?_
  have := Hd.any (g := l.toArray.size - n) (Q := Q) (fun s a' w' hw' hL => by rw [hL.1]; exact hL.2 w' hw') (l.take n).length hC H
  rw [ht, show n + (l.toArray.size - n) = l.toArray.size by omega] at this
  exact this
/-- One operation is carried out. -/
theorem any_one {g i : Nat} {s : Array Bool} {Q : Exit → Act → World → Prop} {a : Act} {w : World} {o : Oper} {r : List Oper} (ho : ops[i]? = some o) (hr : Region.ready .any ops s = [i])
    (hK : ∀ a' w', wpList P ops Q r a' w' → wpAny P .any ops Q g (s.setIfInBounds i true) a' w') (h : wpList P ops Q (o :: r) a w) : wpAny P .any ops Q (g + 1) s a w := by
  refine ⟨fun e => (by rw [hr] at e; cases e), fun j hj => ?_⟩
  rw [hr] at hj
  obtain rfl := List.mem_singleton.1 hj
  exact wpOp_mono (fun a' w' h' => hK a' w' h') (show wpOp P ops Q j (wpList P ops Q r) a w by unfold wpOp; simp only [ho]; exact h)
theorem any_nil {s : Array Bool} {Q : Exit → Act → World → Prop} {a : Act} {w : World} (hr : Region.ready .any ops s = []) (h : wpList P ops Q [] a w) : wpAny P .any ops Q 0 s a w := ⟨hr, h⟩
/-- The tail is three: the first two in either order. -/
def three (ops : Array Oper) (n : Nat) : Bool :=
  decide (Region.ready .any ops (upTo ops.size n) = [n, n + 1]) && decide (Region.ready .any ops ((upTo ops.size n).setIfInBounds n true) = [n + 1]) && decide (Region.ready .any ops ((upTo ops.size n).setIfInBounds (n + 1) true) = [n]) &&
  decide (Region.ready .any ops (((upTo ops.size n).setIfInBounds n true).setIfInBounds (n + 1) true) = [n + 2]) && decide (Region.ready .any ops ((((upTo ops.size n).setIfInBounds n true).setIfInBounds (n + 1) true).setIfInBounds (n + 2) true) = [])
theorem any_three {Q : Exit → Act → World → Prop} {a : Act} {w : World} {o0 o1 o2 : Oper} {n : Nat} (h0 : ops[n]? = some o0) (h1 : ops[n + 1]? = some o1) (h2 : ops[n + 2]? = some o2) (hB : three ops n = true)
    (hA : wpList P ops Q [o0, o1, o2] a w) (hA2 : wpList P ops Q [o1, o0, o2] a w) : wpAny P .any ops Q 3 (upTo ops.size n) a w := by
  simp only [three, Bool.and_eq_true, decide_eq_true_eq] at hB
  obtain ⟨⟨⟨⟨r0, r1⟩, r2⟩, r3⟩, r4⟩ := hB
  have r3' : Region.ready .any ops (((upTo ops.size n).setIfInBounds (n + 1) true).setIfInBounds n true) = [n + 2] := by rw [Array.setIfInBounds_comm _ _ (show n + 1 ≠ n by omega)]; exact r3
  have r4' : Region.ready .any ops ((((upTo ops.size n).setIfInBounds (n + 1) true).setIfInBounds n true).setIfInBounds (n + 2) true) = [] := by rw [Array.setIfInBounds_comm _ _ (show n + 1 ≠ n by omega)]; exact r4
  refine ⟨fun e => (by rw [r0] at e; cases e), fun j hj => ?_⟩
  rw [r0] at hj
  simp only [List.mem_cons, List.not_mem_nil, or_false] at hj
  rcases hj with rfl | rfl
  · exact wpOp_mono (fun a' w' h' => any_one h1 r1 (fun _ _ h'' => any_one h2 r3 (fun _ _ h3 => any_nil r4 h3) h'') h') (show wpOp P ops Q j (wpList P ops Q [o1, o2]) a w by unfold wpOp; simp only [h0]; exact hA)
  · exact wpOp_mono (fun a' w' h' => any_one h0 r2 (fun _ _ h'' => any_one h2 r3' (fun _ _ h3 => any_nil r4' h3) h'') h') (show wpOp P ops Q (n + 1) (wpList P ops Q [o0, o2]) a w by unfold wpOp; simp only [h1]; exact hA2)
theorem quiet_mono {K K' : Act → Prop} (hk : ∀ a, K a → K' a) : ∀ (l : List Oper) (a : Act), wpQuiet P ops C K l a → wpQuiet P ops C K' l a
  | [], a, h => hk a h
  | o :: l, a, h => by
    unfold wpQuiet at h ⊢
    split
    · rename_i hw
      rw [if_pos hw] at h
      exact Oper.quiet_mono (fun a' h' => quiet_mono hk l a' h') h
    · rename_i hw
      rw [if_neg hw] at h
      exact quiet_mono hk l _ h
/-- A head that reads, or calls what only lays memory; then three: a pick and a store in either order, and what waits for both. -/
theorem wp_region_three {id : Nat} {Q : Exit → Act → World → Prop} {a : Act} {w : World} {l : List Oper} {o0 o1 o2 : Oper} (n : Nat) (hm : P.follows .mixedOrders = true) (hB : (headB l.toArray n && three l.toArray n) = true) (hd : l.drop n = [o0, o1, o2])
    (h : wpQuiet P l.toArray (fun w' => ∃ p : Regrown, w' = Sort.grow (redrawn w p.d) p.os) (fun a' => ∀ w', (∃ p : Regrown, w' = Sort.grow (redrawn w p.d) p.os) → wpList P l.toArray Q [o0, o1, o2] a' w' ∧ wpList P l.toArray Q [o1, o0, o2] a' w') (l.take n) a) : (Code.region id l.toArray true).wp P Q a w := by
  simp only [Bool.and_eq_true] at hB
  have hlen : l.length = n + 3 := by
    have h1 := congrArg List.length hd
    simp only [List.length_drop, List.length_cons, List.length_nil] at h1
    omega
  have at_ : ∀ j o, [o0, o1, o2][j]? = some o → l.toArray[n + j]? = some o := fun j o ho => by
    rw [← hd, List.getElem?_drop] at ho
    simpa using ho
  refine wp_head (C := fun w' => ∃ p : Regrown, w' = Sort.grow (redrawn w p.d) p.os) n hm hB.1 ⟨⟨w.drawn + 1, #[]⟩, by rw [Sort.grow_empty]; rfl⟩ ?_
  have e : (fun a' => ∀ w', (∃ p : Regrown, w' = Sort.grow (redrawn w p.d) p.os) → wpList P l.toArray Q [o0, o1, o2] a' w' ∧ wpList P l.toArray Q [o1, o0, o2] a' w') = fun a' => ∀ w', (∃ p : Regrown, w' = Sort.grow (redrawn w p.d) p.os) → wpList P l.toArray Q [o0, o1, o2] a' w' ∧ wpList P l.toArray Q [o1, o0, o2] a' w' := rfl
  refine quiet_mono (fun a' ha w' hw' => ?_) _ _ h
  obtain ⟨hA, hA2⟩ := ha w' hw'
  rw [show l.toArray.size - n = 3 by simp [hlen]]
  exact any_three (at_ 0 o0 rfl) (at_ 1 o1 rfl) (at_ 2 o2 rfl) hB.2 hA hA2
/-- The tail is two, one behind the other. -/
def two (ops : Array Oper) (n : Nat) : Bool :=
  decide (Region.ready .any ops (upTo ops.size n) = [n]) && decide (Region.ready .any ops ((upTo ops.size n).setIfInBounds n true) = [n + 1]) && decide (Region.ready .any ops (((upTo ops.size n).setIfInBounds n true).setIfInBounds (n + 1) true) = [])
theorem wp_region_two {id : Nat} {Q : Exit → Act → World → Prop} {a : Act} {w : World} {l : List Oper} {o0 o1 : Oper} (n : Nat) (hm : P.follows .mixedOrders = true) (hB : (headB l.toArray n && two l.toArray n) = true) (hd : l.drop n = [o0, o1])
    (h : wpQuiet P l.toArray (fun w' => ∃ p : Regrown, w' = Sort.grow (redrawn w p.d) p.os) (fun a' => ∀ w', (∃ p : Regrown, w' = Sort.grow (redrawn w p.d) p.os) → wpList P l.toArray Q [o0, o1] a' w') (l.take n) a) : (Code.region id l.toArray true).wp P Q a w := by
  simp only [Bool.and_eq_true, two, decide_eq_true_eq] at hB
  obtain ⟨hB, ⟨r0, r1⟩, r2⟩ := hB
  have hlen : l.length = n + 2 := by
    have h1 := congrArg List.length hd
    simp only [List.length_drop, List.length_cons, List.length_nil] at h1
    omega
  have at_ : ∀ j o, [o0, o1][j]? = some o → l.toArray[n + j]? = some o := fun j o ho => by
    rw [← hd, List.getElem?_drop] at ho
    simpa using ho
  refine wp_head (C := fun w' => ∃ p : Regrown, w' = Sort.grow (redrawn w p.d) p.os) n hm hB ⟨⟨w.drawn + 1, #[]⟩, by rw [Sort.grow_empty]; rfl⟩ ?_
  refine quiet_mono (fun a' ha w' hw' => ?_) _ _ h
  rw [show l.toArray.size - n = 2 by simp [hlen]]
  exact any_one (at_ 0 o0 rfl) r0 (fun _ _ h' => any_one (at_ 1 o1 rfl) r1 (fun _ _ h'' => any_nil r2 h'') h') (ha w' hw')
/-- Some of the tail yield what they yield in whatever world. -/
def Free (P : Program) (ops : Array Oper) (K : Act → Prop) : List Oper → Act → Prop
  | [], a => K a
  | o :: r, a => ∃ v, Yields P ops o v a ∧ Free P ops K r (a.put o.dst v)
def freeB (ops : Array Oper) (n m : Nat) : Bool := (List.range m).all fun k => decide (k < n) || ((Region.ready .any ops (upTo ops.size k)).contains k && Region.free .any ops (upTo ops.size k) k)
theorem Free.any {Q : Exit → Act → World → Prop} {K : Act → Prop} {n m g : Nat} {w : World} (hsel : Region.noSelect ops = true) (hQ : ∀ c a d v w, Q (.panic c) (Act.put a d v) w → Q (.panic c) a w) (hB : freeB ops n m = true)
    (hK : ∀ a, K a → wpAny P .any ops Q g (upTo ops.size m) a w) :
    ∀ (l : List Oper) (k : Nat) {a : Act}, (∀ j, j < l.length → l[j]? = ops[k + j]?) → n ≤ k → k + l.length = m → Free P ops K l a → wpAny P .any ops Q (l.length + g) (upTo ops.size k) a w
  | [], k, a, _, _, hk, h => by
    obtain rfl : k = m := by simpa using hk
    rw [List.length_nil, Nat.zero_add]
    exact hK a h
  | o :: l, k, a, hl, hnk, hk, h => by
    have ho : ops[k]? = some o := by simpa using (hl 0 (by simp)).symm
    simp only [List.length_cons] at hk
    obtain ⟨v, hy, h2⟩ := h
    have hb := List.all_eq_true.1 hB k (List.mem_range.2 (by omega))
    simp only [Bool.or_eq_true, decide_eq_true_eq, Bool.and_eq_true] at hb
    rcases hb with hb | hb
    · omega
    rw [List.length_cons, Nat.add_right_comm]
    refine wpAny_take ho hsel hb.2 hb.1 (fun c a w => hQ c a _ _ w) hy ?_
    rw [← upTo_succ]
    exact Free.any hsel hQ hB hK l (k + 1) (fun j hj => by have := hl (j + 1) (by simp; omega); simpa [Nat.add_assoc, Nat.add_comm 1 j] using this) (by omega) (by omega) h2
section
variable {K : Act → Prop} {m : Nat}
/-- What an operation of the head, or one of the free ones, yields. -/
def Pr (P : Program) (ops : Array Oper) (C : World → Prop) (n i : Nat) (o : Oper) (v : Value) (a : Act) : Prop := if n ≤ i then Yields P ops o v a else YieldsIn P ops C o v a
theorem Pr.same {i : Nat} {o : Oper} {v : Value} {a a' : Act} (h : Pr P ops C n i o v a) (he : execOp a'.eval o = execOp a.eval o) (hw : Region.wanted o (yielded ops a'.tmps) = Region.wanted o (yielded ops a.tmps)) : Pr P ops C n i o v a' := by
  unfold Pr at h ⊢
  split
  · rename_i hi; rw [if_pos hi] at h; exact h.of_same he hw
  · rename_i hi; rw [if_neg hi] at h; exact h.of_same he hw
/-- So many are still to come ahead of the last two, in whatever order. -/
def Fl (P : Program) (ops : Array Oper) (C : World → Prop) (K : Act → Prop) (n m : Nat) : Nat → Array Bool → Act → Prop
  | 0 => fun s a => s = upTo ops.size m ∧ K a
  | g + 1 => fun s a => Region.ready .any ops s ≠ [] ∧ (∀ j, j ∈ Region.ready .any ops s → j < m → ∃ o v, ops[j]? = some o ∧ Pr P ops C n j o v a ∧ Fl P ops C K n m g (s.setIfInBounds j true) (a.put o.dst v)) ∧
    ((∀ j, j ∈ Region.ready .any ops s → j < m) ∨ ∃ f, f ∈ Region.ready .any ops s ∧ n ≤ f ∧ f < m)
/-- A free operation is apart from whatever does not wait for it and for what it does not wait. -/
def apartB (ops : Array Oper) (n m : Nat) : Bool := (List.range m).all fun f => decide (f < n) || (List.range ops.size).all fun j => decide (j = f) || Region.waitsFor .any ops j f || Region.waitsFor .any ops f j || (match ops[f]?, ops[j]? with | some x, some y => x.apart ops y | _, _ => false)
theorem apart_of {s : Array Bool} {f : Nat} {o : Oper} (hB : apartB ops n m = true) (hf : f ∈ Region.ready .any ops s) (hn : n ≤ f) (hm : f < m) (ho : ops[f]? = some o) :
    ∀ j oj, ops[j]? = some oj → j ≠ f → s.getD j true = false → (∀ e ∈ oj.after, Region.binds .any e = true → e.on ≠ f) → o.apart ops oj = true := by
  intro j oj hoj hjf hun hno
  have h1 := List.all_eq_true.1 hB f (List.mem_range.2 hm)
  simp only [Bool.or_eq_true, decide_eq_true_eq] at h1
  rcases h1 with h1 | h1
  · omega
  have h2 := List.all_eq_true.1 h1 j (List.mem_range.2 (Array.getElem?_eq_some_iff.1 hoj).1)
  simp only [Bool.or_eq_true, decide_eq_true_eq] at h2
  rcases h2 with ((h2 | h2) | h2) | h2
  · exact absurd h2 hjf
  · obtain ⟨o', ho', e, he, hb, hon⟩ := Region.waitsFor_spec h2
    obtain rfl : o' = oj := Option.some.inj (ho'.symm.trans hoj)
    exact absurd hon (hno e he hb)
  · exact absurd hf (waits_not h2 hun)
  · rw [ho, hoj] at h2; exact h2
theorem Fl.any {Q : Exit → Act → World → Prop} (hQ : ∀ c a d v w, Q (.panic c) (Act.put a d v) w → Q (.panic c) a w) (hsel : Region.noSelect ops = true) (hA : apartB ops n m = true) (hK : ∀ a w, C w → K a → wpAny P .any ops Q 2 (upTo ops.size m) a w) :
    ∀ (g : Nat) {s : Array Bool} {a : Act} {w : World}, C w → Fl P ops C K n m g s a → wpAny P .any ops Q (g + 2) s a w
  | 0, s, a, w, hw, h => by rw [h.1]; exact hK a w hw h.2
  | g + 1, s, a, w, hw, h => by
    rw [Nat.add_right_comm]
    obtain ⟨h1, h2, h3⟩ := h
    rcases h3 with h3 | ⟨f, hf, hnf, hfm⟩
    · refine ⟨fun e => absurd e h1, fun j hj => ?_⟩
      obtain ⟨o, v, ho, hp, hF⟩ := h2 j hj (h3 j hj)
      unfold Pr at hp
      by_cases hi : n ≤ j
      · rw [if_pos hi] at hp
        exact hp.wpOp ho (Fl.any hQ hsel hA hK g hw hF)
      · rw [if_neg hi] at hp
        exact wpOp_of_qOp hw (fun _ _ hw' h' => Fl.any hQ hsel hA hK g hw' h') (hp.qOp ho hF)
    · obtain ⟨o, v, ho, hp, hF⟩ := h2 f hf hfm
      unfold Pr at hp
      rw [if_pos hnf] at hp
      exact wpAny_first ho (Region.noSelect_spec hsel) (fun c a w => hQ c a _ _ w) _ s a w (apart_of hA hf hnf hfm ho) hf hp (Fl.any hQ hsel hA hK g hw hF)
/-- What stands behind m waits for all of the head, or for one behind m. -/
def lateOk (ops : Array Oper) (n m : Nat) : Bool := (List.range ops.size).all fun t => decide (t < m) || sinkAt ops n t || (List.range t).any fun u => decide (m ≤ u) && Region.waitsFor .any ops t u
theorem sink_not' {s : Array Bool} {t : Nat} (hs : sinkAt ops n t = true) (hnm : n ≤ m) (hn : m ≤ ops.size) (inv : HeadInv .any ops m s) : ∀ (d i : Nat), n - i = d → i < n → s.getD i true = false → t ∉ Region.ready .any ops s := by
  intro d
  induction d using Nat.strongRecOn with
  | _ d ih =>
    intro i hd hi hun
    have h1 := List.all_eq_true.1 hs i (List.mem_range.2 hi)
    simp only [Bool.or_eq_true] at h1
    rcases h1 with h1 | h1
    · exact waits_not h1 hun
    · obtain ⟨j, hj, hj2⟩ := List.any_eq_true.1 h1
      simp only [Bool.and_eq_true, decide_eq_true_eq] at hj2
      have hjn := List.mem_range.1 hj
      refine ih (n - j) (by omega) j rfl hjn (getD_in (by rw [inv.size]; omega) ?_)
      cases hl : s.getD j false with
      | false => rfl
      | true =>
        obtain ⟨oj, hoj, e, he, hb, hon⟩ := Region.waitsFor_spec hj2.2
        have h3 := inv.closed j oj hoj hl e he hb
        rw [hon, getD_both hun] at h3
        cases h3
theorem late_not {s : Array Bool} {i t : Nat} (hT : lateOk ops n m = true) (hnm : n ≤ m) (hn : m ≤ ops.size) (inv : HeadInv .any ops m s) (hi : i < n) (hun : s.getD i true = false) (ht : m ≤ t) : t ∉ Region.ready .any ops s := fun hr => by
  obtain ⟨_, ot, hot, _⟩ := mem_ready.1 hr
  have htl : t < ops.size := (Array.getElem?_eq_some_iff.1 hot).1
  have h1 := List.all_eq_true.1 hT t (List.mem_range.2 htl)
  simp only [Bool.or_eq_true, decide_eq_true_eq] at h1
  rcases h1 with (h1 | h1) | h1
  · omega
  · exact sink_not' h1 hnm hn inv _ i rfl hi hun hr
  · obtain ⟨u, hu, hu2⟩ := List.any_eq_true.1 h1
    simp only [Bool.and_eq_true, decide_eq_true_eq] at hu2
    exact waits_not hu2.2 (inv.tail u hu2.1 (Nat.lt_trans (List.mem_range.1 hu) htl)) hr
theorem Fl.first {i : Nat} {o : Oper} {v : Value} (ho : ops[i]? = some o) (hsel : Region.noSelect ops = true) (hT : lateOk ops n m = true) (hnm : n ≤ m) (hn : m ≤ ops.size) (hE : ((List.range m).all fun j => (upTo ops.size m).getD j true) = true) (him : i < m) :
    ∀ (g : Nat) {s : Array Bool} {a : Act}, HeadInv .any ops m s → i ∈ Region.ready .any ops s →
      (∀ j oj, ops[j]? = some oj → j ≠ i → s.getD j true = false → (∀ e ∈ oj.after, Region.binds .any e = true → e.on ≠ i) → o.apart ops oj = true) →
      Pr P ops C n i o v a → Fl P ops C K n m g (s.setIfInBounds i true) (a.put o.dst v) → Fl P ops C K n m (g + 1) s a := by
  intro g
  induction g with
  | zero =>
    intro s a inv hr hap hy H
    have hun := (mem_ready.1 hr).1
    refine ⟨fun e => (by rw [e] at hr; cases hr), fun j hj hjm => ?_, ?_⟩
    · by_cases e : j = i
      · subst e; exact ⟨o, v, ho, hy, H⟩
      · exfalso
        have h2 := (mem_ready.1 (ready_mono hj e)).1
        rw [H.1, List.all_eq_true.1 hE j (List.mem_range.2 hjm)] at h2
        cases h2
    · rcases Nat.lt_or_ge i n with h | h
      · exact .inl fun j hj => Nat.lt_of_not_le fun hle => late_not hT hnm hn inv h hun hle hj
      · exact .inr ⟨i, hr, h, him⟩
  | succ g ih =>
    intro s a inv hr hap hy H
    have hun := (mem_ready.1 hr).1
    refine ⟨fun e => (by rw [e] at hr; cases hr), fun j hj hjm => ?_, ?_⟩
    · by_cases e : j = i
      · subst e; exact ⟨o, v, ho, hy, H⟩
      obtain ⟨hju, oj, hoj, haf⟩ := mem_ready.1 hj
      have hno : ∀ e ∈ oj.after, Region.binds .any e = true → e.on ≠ i := fun e he hb h => by
        have h1 := haf e he hb
        rw [h, getD_both hun] at h1
        cases h1
      obtain ⟨h1, h2, h3⟩ := Oper.apart_spec (hap j oj hoj e hju hno)
      obtain ⟨oj', u, hoj', hpj, hF⟩ := H.2.1 j (ready_mono hj e) hjm
      obtain rfl : oj' = oj := Option.some.inj (hoj'.symm.trans hoj)
      have hsi : ∀ cs b, o.op ≠ .select cs b := fun cs b => Region.noSelect_spec hsel i o cs b ho
      have hsj : ∀ cs b, oj'.op ≠ .select cs b := fun cs b => Region.noSelect_spec hsel j oj' cs b hoj
      refine ⟨oj', u, hoj, hpj.same (execOp_put oj' hsj a o.dst v h1).symm (wanted_put oj' a o.dst v h1).symm, ?_⟩
      refine ih (inv.set hj hjm) (ready_mono hr (Ne.symm e)) (fun k ok hk hki hku hkn => hap k ok hk hki ?_ hkn) (hy.same (execOp_put o hsi a oj'.dst u h3) (wanted_put o a oj'.dst u h3)) ?_
      · by_cases e2 : j = k
        · rw [← e2]; exact hju
        · rwa [getD_set_ne true e2] at hku
      · rw [Array.setIfInBounds_comm _ _ e, ← Act.put_comm a v u h2]; exact hF
    · rcases Nat.lt_or_ge i n with h | h
      · exact .inl fun j hj => Nat.lt_of_not_le fun hle => late_not hT hnm hn inv h hun hle hj
      · exact .inr ⟨i, hr, h, him⟩
def okB (ops : Array Oper) (n m : Nat) : Bool := Region.noSelect ops && decide (n ≤ m) && decide (m ≤ ops.size) && lateOk ops n m && lexOk ops m && apartB ops n m && (List.range m).all fun j => (upTo ops.size m).getD j true
theorem Fl.free (hB : okB ops n m = true) : ∀ (l : List Oper) (k : Nat) {a : Act}, (∀ j, j < l.length → l[j]? = ops[k + j]?) → n ≤ k → k + l.length = m → HeadInv .any ops m (upTo ops.size k) → Free P ops K l a → Fl P ops C K n m l.length (upTo ops.size k) a
  | [], k, a, _, _, hk, _, h => by
    obtain rfl : k = m := by simpa using hk
    exact ⟨rfl, h⟩
  | o :: l, k, a, hl, hnk, hk, inv, h => by
    have hB' := hB
    simp only [okB, Bool.and_eq_true, decide_eq_true_eq] at hB'
    obtain ⟨⟨⟨⟨⟨⟨hsel, hnm⟩, hn⟩, hT⟩, hlex⟩, hA⟩, hE⟩ := hB'
    have ho : ops[k]? = some o := by simpa using (hl 0 (by simp)).symm
    simp only [List.length_cons] at hk
    obtain ⟨v, hy, h2⟩ := h
    have hkm : k < m := by omega
    have hb := List.all_eq_true.1 hlex k (List.mem_range.2 hkm)
    simp only [Bool.and_eq_true] at hb
    have hr : k ∈ Region.ready .any ops (upTo ops.size k) := by simpa using hb.1
    refine Fl.first ho hsel hT hnm hn hE hkm l.length inv hr (Region.free_spec ho hb.2) (by unfold Pr; rw [if_pos hnk]; exact hy) ?_
    rw [← upTo_succ]
    exact Fl.free hB l (k + 1) (fun j hj => by have := hl (j + 1) (by simp; omega); simpa [Nat.add_assoc, Nat.add_comm 1 j] using this) (by omega) (by omega) (by rw [upTo_succ]; exact inv.set hr hkm) h2
theorem Fl.lex (hB : okB ops n m = true) {lf : List Oper} (hlf : ∀ j, j < lf.length → lf[j]? = ops[n + j]?) (hlm : n + lf.length = m) : ∀ (l : List Oper) (k : Nat) {a : Act}, (∀ j, j < l.length → l[j]? = ops[k + j]?) → k + l.length = n → HeadInv .any ops m (upTo ops.size k) → wpQuiet P ops C (Free P ops K lf) l a → Fl P ops C K n m (l.length + lf.length) (upTo ops.size k) a
  | [], k, a, _, hk, inv, h => by
    obtain rfl : k = n := by simpa using hk
    rw [List.length_nil, Nat.zero_add]
    exact Fl.free hB lf k hlf (Nat.le_refl _) hlm inv h
  | o :: l, k, a, hl, hk, inv, h => by
    have hB' := hB
    simp only [okB, Bool.and_eq_true, decide_eq_true_eq] at hB'
    obtain ⟨⟨⟨⟨⟨⟨hsel, hnm⟩, hn⟩, hT⟩, hlex⟩, hA⟩, hE⟩ := hB'
    have ho : ops[k]? = some o := by simpa using (hl 0 (by simp)).symm
    simp only [List.length_cons] at hk
    have hkn : k < n := by omega
    have hb := List.all_eq_true.1 hlex k (List.mem_range.2 (by omega))
    simp only [Bool.and_eq_true] at hb
    have hr : k ∈ Region.ready .any ops (upTo ops.size k) := by simpa using hb.1
    have hq : qOp P ops C k (wpQuiet P ops C (Free P ops K lf) l) a := by unfold qOp; simp only [ho]; exact h
    obtain ⟨v, hy, hK⟩ := yieldsIn_of_qOp ho hq
    rw [List.length_cons, Nat.add_right_comm]
    refine Fl.first ho hsel hT hnm hn hE (by omega) (l.length + lf.length) inv hr (Region.free_spec ho hb.2) (by unfold Pr; rw [if_neg (by omega)]; exact hy) ?_
    rw [← upTo_succ]
    exact Fl.lex hB hlf hlm l (k + 1) (fun j hj => by have := hl (j + 1) (by simp; omega); simpa [Nat.add_assoc, Nat.add_comm 1 j] using this) (by omega) (by rw [upTo_succ]; exact inv.set hr (by omega)) hK
end
/-- A head that reads, or calls what only lays memory; then what yields in whatever world; then two, one behind the other, the first of which waits for the head alone. -/
theorem wp_region_float {id : Nat} {Q : Exit → Act → World → Prop} {a : Act} {w : World} {l : List Oper} {o0 o1 : Oper} (n m : Nat) (hm : P.follows .mixedOrders = true) (hQ : ∀ c a d v w, Q (.panic c) (Act.put a d v) w → Q (.panic c) a w) (hB : (okB l.toArray n m && two l.toArray m) = true) (hd : l.drop m = [o0, o1])
    (h : wpQuiet P l.toArray (fun w' => ∃ p : Regrown, w' = Sort.grow (redrawn w p.d) p.os) (fun a' => Free P l.toArray (fun a'' => ∀ w', (∃ p : Regrown, w' = Sort.grow (redrawn w p.d) p.os) → wpList P l.toArray Q [o0, o1] a'' w') ((l.take m).drop n) a') (l.take n) a) : (Code.region id l.toArray true).wp P Q a w := by
  simp only [Bool.and_eq_true, two, decide_eq_true_eq] at hB
  obtain ⟨hB, ⟨r0, r1⟩, r2⟩ := hB
  have hB' := hB
  simp only [okB, Bool.and_eq_true, decide_eq_true_eq] at hB'
  obtain ⟨⟨⟨⟨⟨⟨hsel, hnm⟩, hn⟩, hT⟩, hlex⟩, hA⟩, hE⟩ := hB'
  have hlen : l.length = m + 2 := by
    have h1 := congrArg List.length hd
    simp only [List.length_drop, List.length_cons, List.length_nil] at h1
    omega
  have at_ : ∀ j o, [o0, o1][j]? = some o → l.toArray[m + j]? = some o := fun j o ho => by
    rw [← hd, List.getElem?_drop] at ho
    simpa using ho
  have hlm : ((l.take m).drop n).length = m - n := by rw [List.length_drop, List.length_take]; omega
  have ht : (l.take n).length = n := by rw [List.length_take]; omega
  have hi : HeadInv .any l.toArray m (upTo l.toArray.size 0) :=
    ⟨by simp [upTo], fun j oj _ hl => (by rw [show upTo l.toArray.size 0 = Array.replicate l.toArray.size false from rfl, getD_replicate_false] at hl; cases hl), fun t _ hts => getD_in (by simpa [upTo] using hts) (getD_replicate_false _ _)⟩
  have H := Fl.lex hB (lf := (l.take m).drop n) (fun j hj => by
      rw [hlm] at hj
      rw [List.getElem?_drop, List.getElem?_take_of_lt (by omega)]
      simp) (by rw [hlm]; omega) (l.take n) 0 (fun j hj => by
      rw [ht] at hj
      simp [hj]) (by rw [ht]; omega) hi h
  refine wp_region_any hm ?_
  have := Fl.any (Q := Q) hQ hsel hA (fun a'' w' hw' hK => any_one (at_ 0 o0 rfl) r0 (fun _ _ h' => any_one (at_ 1 o1 rfl) r1 (fun _ _ h'' => any_nil r2 h'') h') (hK w' hw')) _ (show ∃ p : Regrown, ({ w with drawn := w.drawn + 1 } : World) = Sort.grow (redrawn w p.d) p.os from ⟨⟨w.drawn + 1, #[]⟩, by rw [Sort.grow_empty]; rfl⟩) H
  rw [ht, hlm, show n + (m - n) + 2 = l.toArray.size by simp [hlen]; omega] at this
  exact this
end
end Go.Proofs.Ytikfjbomogekbaa.QT
