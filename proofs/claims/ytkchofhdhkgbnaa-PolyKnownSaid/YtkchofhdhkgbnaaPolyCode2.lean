/- What the program's Trim, Add and At do. -/
import Derived.Test.YtkchofhdhkgbnaaPolyCode1
import Derived.Test.YtkchofhdhkgbnaaRound
import Derived.Laws.CopyOwn
namespace Go.Proofs.Ytkchofhdhkgbnaa.Poly
open Go.RowKit Go.Shelf F8 GF
attribute [local go_sem] Oper.semAt_some

set_option maxHeartbeats 1000000 in
theorem trim_calls (A : Option Addr) (p : List F8) (m c : Nat) (w : World) (hl : p.length = m) (hb : Bytes w A (bs p)) (hc : m ≤ c) (hm : m ≤ 5000) :
    Calls Try.prog 16 #[.slice A m c] w fun e w' => Res w w' e (trim p) := by
  have HB := Lib.hid hb
  have hle : len p ≤ m := by have := len_le p; omega
  obtain ⟨t, ht⟩ : ∃ t, trim p = t := ⟨_, rfl⟩
  obtain ⟨n, hn⟩ : ∃ n, len p = n := ⟨_, rfl⟩
  have htn : t.length = n := by rw [← ht, ← hn]; rfl
  rw [hn] at hle
  have HT := Lib.hid ht
  have HN := Lib.hid hn
  have HTN := Lib.hid htn
  clear hb ht hn htn
  go_enter Try.func16, Try.ntmps16
  go_wp2_with (first
    | (go_at_call 33; refine (trimmed_calls A p m c _ hl HB.out hc (by omega)).mono ?_; rintro e w1 ⟨A2, rfl, hcut, hB1⟩; have HB2 := Lib.hid (hcut.bytes (HB.out.below hB1)); rw [HN.out]; rw [HT.out] at HB2)
    | (go_at_call 38; refine (clone_calls A2 t n c _ HTN.out HB2.out (by omega) (by omega)).mono ?_; rintro e w2 ⟨A3, c3, rfl, hc3, hO3, hB3⟩))
  go_ret
  rw [HT.out]
  have hsz := hB1.size
  exact ⟨A3, c3, rfl, hc3, hO3.more hsz, hB1.trans (hB3.mono hsz)⟩

/-- 'copy(s, a)', s one's own and long enough: the law. -/
theorem wpList_copy_bytes {w : World} {ops : Array Oper} {rest : List Oper} {o : Oper} {a : Act} {Q : Exit → Act → World → Prop} (hgd : o.guard = none) (d s : Operand)
    (ho : o.op = .call { callee := .builtin .copy, args := #[d, s], argTypes := #[22, 22] }) (g n dc : Nat) (A : Option Addr) (m c : Nat)
    (hd : a.eval d = .slice (some ⟨g, 0, none⟩) n dc) (hs : a.eval s = .slice A m c) (old p : List F8) (hg : Block w g 5 (bv (bs old)).toArray) (hl : p.length = m) (hb : Bytes w A (bs p)) (hm : m ≤ n) (hn : old.length = n)
    (h : ∀ w', Block w' g 5 (bv (bs (p ++ old.drop m))).toArray → Past w.heap.size g w w' → w'.heap.size = w.heap.size → wpList Try.prog ops Q rest (a.put o.dst (goInt m)) w') :
    wpList Try.prog ops Q (o :: rest) a w := by
  have hsz1 : (Try.prog.info? 5).map (·.size) = some 1 := by kernel_rfl
  by_cases h0 : m = 0
  · subst h0
    have : p = [] := List.eq_nil_of_length_eq_zero hl
    subst this
    refine wpList_copy_nothing hgd d s _ _ ho 5 Try.underlying22 hsz1 _ _ n dc 0 c hd hs (by simp) ?_
    exact h w (by simpa using hg) (Past.refl _ _ _) rfl
  · obtain ⟨b, off, rfl⟩ := where_ hb (by omega)
    have hpl : (bv (bs p)).length = m := by rw [bvs_length, hl]
    refine wpList_copy_own hgd d s _ _ ho 5 Try.underlying22 hsz1 g 0 n dc ⟨b, off, none⟩ m c hd hs _ _ hg (bv (bs p)) (by rw [hpl]; exact (Nat.min_eq_left hm).symm) ?_ (by simp [bvs_length]; omega) (bv_one _) ?_
    · intro j v hv
      have hj : j < p.length := by have := (List.getElem?_eq_some_iff.1 hv).1; rwa [bvs_length] at this
      obtain ⟨b', off', e, hc⟩ := hb.row j v hv
      simp only [Option.some.injEq, Addr.mk.injEq] at e
      obtain ⟨rfl, rfl, _⟩ := e
      rw [addr_add]; exact hc
    · rw [hpl]
      refine h _ ?_ ⟨rfl, rfl, rfl, by simp [World.setRow], fun k _ hk => setRow_other w g k _ hk⟩ (by simp [World.setRow])
      have := setRow_heap w g (bv (bs old)).toArray (((bv (bs old)).toArray.toList.take 0) ++ (bv (bs p) ++ (bv (bs old)).toArray.toList.drop (0 + m))).toArray _ _ hg
      have e2 : (((bv (bs old)).toArray.toList.take 0) ++ (bv (bs p) ++ (bv (bs old)).toArray.toList.drop (0 + m))) = bv (bs (p ++ old.drop m)) := by
        simp [bv, bs, List.map_drop]
      rw [e2] at this
      rw [e2]
      exact this

theorem Own.block {w : World} {B : Nat} {e : TypeId} {g n : Nat} {xs : List Value} (h : Own w B e (.slice (some ⟨g, 0, none⟩) n n) xs) : Block w g e xs.toArray := by
  rcases h.2 with ⟨h1, _⟩ | ⟨g', cap, cur, h1, h2, h3, h4, h5, h6, h7⟩
  · cases h1
  · injection h1 with h1 h8 h9
    injection h1 with h1
    injection h1 with h1
    subst h1 h9
    have : cur.toList = xs := by rw [← h7, List.take_of_length_le (by simp [h6, ← h8])]
    rw [← this]
    exact h3
theorem Own.of_block {w : World} {B : Nat} {e : TypeId} {g n : Nat} {xs : List Value} (h : Block w g e xs.toArray) (hB : B ≤ g) (hn : xs.length = n) (hm : n ≤ maxLen) : Own w B e (.slice (some ⟨g, 0, none⟩) n n) xs := by
  subst hn
  exact ⟨by simp, .inr ⟨g, xs.length, xs.toArray, rfl, hB, h, Nat.le_refl _, hm, by simp, by simp⟩⟩
theorem coef_pad (p : List F8) (n i : Nat) : coef (p ++ (List.replicate n (0 : F8))) i = coef p i := by
  unfold coef
  rw [List.getD_eq_getElem?_getD, List.getD_eq_getElem?_getD, List.getElem?_append]
  split
  · rfl
  · rename_i h
    rw [List.getElem?_eq_none (l := p) (by omega), List.getElem?_replicate]
    split <;> rfl
/-- The sum, its upper places done. -/
def SumAt (W : World) (g M : Nat) (p q : List F8) (k : Nat) : Prop :=
  ∃ s : List F8, s.length = M ∧ (∀ i, coef s i = coef p i + if k ≤ i then coef q i else 0) ∧ Block W g 5 (bv (bs s)).toArray
theorem SumAt.turn {W W' : World} {B g M k : Nat} {p q : List F8} (h : SumAt W g M p q k) (t : Turn B W W') : SumAt W' g M p q k := by
  obtain ⟨s, h1, h2, h3⟩ := h
  exact ⟨s, h1, h2, t.block h3⟩
theorem coef_set (s : List F8) (k : Nat) (x : F8) (hk : k < s.length) (i : Nat) : coef (s.set k x) i = if i = k then x else coef s i := by
  unfold coef
  rw [List.getD_eq_getElem?_getD, List.getD_eq_getElem?_getD, List.getElem?_set]
  by_cases e : i = k
  · subst e; simp [hk]
  · rw [if_neg (Ne.symm e), if_neg e]
theorem bvs_set (s : List F8) (k : Nat) (x : F8) : (bv (bs s)).toArray.setIfInBounds k (.int .u8 (x.n : Int)) = (bv (bs (s.set k x))).toArray := by
  simp [bv, bs, List.map_set]
theorem bvs_get (s : List F8) (k : Nat) (hk : k < s.length) : (bv (bs s)).toArray[k]? = some (.int .u8 ((coef s k).n : Int)) := by
  rw [coef_of_lt hk]
  simp [bv, bs, hk]

theorem add_still (x y : F8) (w : World) : Calls Try.prog 30 #[.int .u8 x.n, .int .u8 y.n] w fun e w' => e = .returned (.int .u8 (x + y).n) ∧ w' = w :=
  (add_calls x.n y.n x.h y.h w).mono fun _ _ ⟨h1, h2⟩ => ⟨h1, h2.symm⟩
set_option maxRecDepth 100000 in
set_option maxHeartbeats 2000000 in
theorem add_pcalls (A B : Option Addr) (p q : List F8) (m n c d : Nat) (w : World) (hl : p.length = m) (hl2 : q.length = n) (hb : Bytes w A (bs p)) (hb2 : Bytes w B (bs q)) (_ : m ≤ c) (_ : n ≤ d) (hm : m ≤ 5000) (hn : n ≤ 5000) :
    Calls Try.prog 20 #[.slice A m c, .slice B n d] w fun e w' => Res w w' e (trim (padd p q)) := by
  obtain ⟨M, hM⟩ : ∃ M, max m n = M := ⟨_, rfl⟩
  have hmM : m ≤ M := by omega
  have hnM : n ≤ M := by omega
  have hM2 : M ≤ 5000 := by omega
  have hMI : max (m : Int) (n : Int) = (M : Int) := by omega
  obtain ⟨wm, hmk, hOm, hBm⟩ := make_run w M (by omega)
  have HB := Lib.hid hb
  have HB2 := Lib.hid hb2
  have HOm := Lib.hid hOm
  clear hb hb2 hOm
  refine (callsIn_wide (n := 9)).1 (callsIn_of_wp_marks Try.func20 rfl trivial ?_ rfl)
  simp only [Try.ntmps20, List.size_toArray, List.length_cons, List.length_nil, Nat.reduceAdd, Nat.reduceSub, Array.replicate_succ, Array.replicate_zero, List.push_toArray, List.append_toArray, List.nil_append, List.cons_append]
  refine wpIn_wide.2 ?_
  have hk : (m < n → (Instr.makeSlice 22 (.int .i64 (n : Int)) (.int .i64 (n : Int))).run Try.prog w = .ok (.slice (some ⟨w.heap.size, 0, none⟩) M M) wm) ∧ (¬ m < n → (Instr.makeSlice 22 (.int .i64 (m : Int)) (.int .i64 (m : Int))).run Try.prog w = .ok (.slice (some ⟨w.heap.size, 0, none⟩) M M) wm) :=
    ⟨fun h => by rw [show n = M by omega]; exact hmk, fun h => by rw [show m = M by omega]; exact hmk⟩
  clear hmk hM hMI
  have hBlk := Own.block HOm.out
  have hglt := hBlk.lt
  have hBlk1 : Block (wm.alloc (.cells #[.slice (some ⟨w.heap.size, 0, none⟩) M M] 22)) w.heap.size 5 (bv (bs (List.replicate M 0))).toArray := hBlk.alloc _
  have hbx1 : Block (wm.alloc (.cells #[.slice (some ⟨w.heap.size, 0, none⟩) M M] 22)) wm.heap.size 22 #[.slice (some ⟨w.heap.size, 0, none⟩) M M] := Block.new _ _ _
  have hB1 : Below w.heap.size w (wm.alloc (.cells #[.slice (some ⟨w.heap.size, 0, none⟩) M M] 22)) := hBm.alloc (by omega) _
  have HB1 := Lib.hid (HB.out.below hB1)
  have hmx : Try.prog.follows .mixedOrders = true := by kernel_rfl
  rcases (Decidable.em (m < n)) with hmn | hmn
  · replace hk := hk.1 hmn
    go_wp2_with (first
      | (with_reducible refine wpList_copy_bytes rfl (.tmp 14) (.tmp 15) rfl w.heap.size M M A m c rfl rfl _ p hBlk1 hl HB1.out hmM (by simp) ?_; intro w2 hBlk2 hP2 hs2; have HS2 := Lib.hid hs2; clear hs2)
      | (go_at_call 34; refine (downward_calls _ _ _ _).mono ?_; rintro e w' ⟨rfl, rfl⟩))
    have hs2 : w2.heap.size ≤ wm.heap.size + 1 ∧ wm.heap.size + 1 ≤ w2.heap.size := by have := HS2.out; simp at this; omega
    have hbx2 : Block w2 wm.heap.size 22 #[.slice (some ⟨w.heap.size, 0, none⟩) M M] := hbx1.past hP2 (by simp) (by omega)
    have hB2 : Below w.heap.size w w2 := hB1.trans ((hP2.mono (by simp; omega)).below (Nat.le_refl _))
    obtain ⟨w3, hw3⟩ : ∃ w3, w2.alloc (.cells #[.slice B n d] 22) = w3 := ⟨_, rfl⟩
    have hs3 : w3.heap.size ≤ wm.heap.size + 2 ∧ wm.heap.size + 2 ≤ w3.heap.size := by rw [← hw3]; simp; omega
    have hbq : Block w3 w2.heap.size 22 #[.slice B n d] := by rw [← hw3]; exact Block.new _ _ _
    have h0 : SumAt w3 w.heap.size M p q n := by
      refine ⟨p ++ (List.replicate M 0).drop m, by simp; omega, fun i => ?_, by rw [← hw3]; exact hBlk2.alloc _⟩
      rw [show (if n ≤ i then coef q i else 0) = 0 by split; exact coef_of_le (by omega); rfl, add_zero]
      rw [List.drop_replicate]; exact coef_pad p _ i
    have hB3 : Below w.heap.size w w3 := by rw [← hw3]; exact hB2.alloc (by omega) _
    have hbx3 : Block w3 wm.heap.size 22 #[.slice (some ⟨w.heap.size, 0, none⟩) M M] := by rw [← hw3]; exact hbx2.alloc _
    rw [hw3]
    clear hw3
    refine wpIn_wide.1 (wpIn_down (n := 9) (by omega) (Bn := w2.heap.size) (m := n) (c := d) (A := B) (by omega) rfl
      (fun k r W => r = q ∧ Bytes W B (bs q) ∧ Block W w2.heap.size 22 #[.slice B n d] ∧ Block W wm.heap.size 22 #[.slice (some ⟨w.heap.size, 0, none⟩) M M] ∧ SumAt W w.heap.size M p q k ∧ Below w.heap.size w W)
      (fun _ _ => False)
      (fun k r W W' ⟨h1, h2, h3, h4, h5, h6⟩ ht => ⟨h1, ht.bytes h2, ht.block h3, ht.block h4, h5.turn ht, h6.trans (ht.below.mono (by omega))⟩)
      (fun _ _ _ h _ => h)
      (fun k r W ⟨h1, h2, h3, h4, h5, h6⟩ => ⟨by rw [h1, hl2], by rw [h1]; exact h2, h3.cell 0⟩)
      q ⟨rfl, HB2.out.below hB3, hbq, hbx3, h0, hB3⟩
      ?a1 ?assign ?body ?done (fun _ _ h => h.elim))
    case assign =>
      intro l k x W K hK
      gi_wp2
      exact hK
    case body =>
      rintro l k r W hk ⟨rfl, h2, h3, h4, ⟨s, hsl, hsc, h5⟩, h6⟩ hsW
      have hc4 := h4.cell 0
      have hc5 := (h5.cell k).trans (bvs_get s k (by omega))
      have hf5 := h5.frozen k
      have hcs : coef s k = coef p k := by rw [hsc k, if_neg (by omega), add_zero]
      rw [hcs] at hc5
      have HSC := Lib.hid hsc
      have hkM : k < M := by omega
      clear hsc hcs
      gi_wp2
      refine region_round_tail 9 hmx (by kernel_rfl) (by kernel_rfl) (fun h => by obtain ⟨a, w, h⟩ := h; exact h) ?_
      simp only [List.take_succ_cons, List.take_zero, List.drop_succ_cons, List.drop_zero]
      iterate 7 still_step
      still_call (add_still (coef p k) (coef r k) _)
      still_step
      refine wpStill_nil ?_
      go_wp2
      have h7 : Below w.heap.size w (W.setCell ⟨w.heap.size, k, none⟩ (.int .u8 ((coef p k + coef r k).n : Int))).drew := (h6.setCell (p := ⟨w.heap.size, k, none⟩) (Nat.le_refl _) _).drew
      refine ⟨((KeepsOthers.setCell _ _ _).trans (KeepsOthers.drew _)).from _, r, rfl, HB2.out.below h7, (h3.far (by simp; omega) _).drew, (h4.far (by simp; omega) _).drew, ⟨s.set k (coef p k + coef r k), by simp [hsl], fun i => ?_, ?_⟩, h7⟩
      · rw [coef_set s k _ (by omega), HSC.out i]
        by_cases e : i = k
        · subst e; rw [if_pos rfl, if_pos (Nat.le_refl _)]
        · rw [if_neg e]
          congr 1
          by_cases e2 : k + 1 ≤ i
          · rw [if_pos e2, if_pos (by omega)]
          · rw [if_neg e2, if_neg (by omega)]
      · rw [← bvs_set]; exact (h5.set_ k _).drew
    case done =>
      rintro r W ⟨rfl, h2, h3, h4, ⟨s, hsl, hsc, h5⟩, h6⟩ hD
      have hc4 := h4.cell 0
      have hO := Own.of_block (B := w.heap.size) h5 (Nat.le_refl _) (by rw [bvs_length, hsl]) (by simp only [maxLen]; omega)
      have HO := Lib.hid hO
      have HT : Hid (trim s = trim (padd p r)) := Lib.hid (trim_congr fun i => by rw [hsc i, if_pos (Nat.zero_le _), coef_padd])
      have HBy := Lib.hid (Own.bytes hO)
      have HW := Lib.hid (Nat.le_trans (by omega : w.heap.size ≤ wm.heap.size) (Nat.le_of_lt h4.lt))
      obtain ⟨j, hj⟩ : ∃ j, len s = j := ⟨_, rfl⟩
      have HJ := Lib.hid hj
      clear hsc hO hj
      go_wp2_with (go_at_call 33; refine (trimmed_calls (some ⟨w.heap.size, 0, none⟩) s M M _ hsl HBy.out (Nat.le_refl _) (by omega)).mono ?_; rintro e w4 ⟨A2, rfl, hcut, hB4⟩; rw [HJ.out])
      have hK := (hB4.block _ (Array.getElem?_eq_some_iff.1 hD).1).trans hD
      refine ⟨by simp, .inl ⟨_, _, rfl, run_takeDeferred hK, ?_⟩⟩
      have ht : Turn w.heap.size w4 _ := Turn.put hK rfl (by omega) (.deferred none)
      refine ⟨_, results_tmp rfl _ _ _, ?_⟩
      have hfin := ht.own ((hcut.own hsl HO.out).below hB4)
      rw [HT.out, HJ.out] at hfin
      exact Res.mk hfin ((h6.trans (hB4.mono HW.out)).trans ht.below)
  · replace hk := hk.2 hmn
    go_wp2_with (first
      | (with_reducible refine wpList_copy_bytes rfl (.tmp 14) (.tmp 15) rfl w.heap.size M M A m c rfl rfl _ p hBlk1 hl HB1.out hmM (by simp) ?_; intro w2 hBlk2 hP2 hs2; have HS2 := Lib.hid hs2; clear hs2)
      | (go_at_call 34; refine (downward_calls _ _ _ _).mono ?_; rintro e w' ⟨rfl, rfl⟩))
    have hs2 : w2.heap.size ≤ wm.heap.size + 1 ∧ wm.heap.size + 1 ≤ w2.heap.size := by have := HS2.out; simp at this; omega
    have hbx2 : Block w2 wm.heap.size 22 #[.slice (some ⟨w.heap.size, 0, none⟩) M M] := hbx1.past hP2 (by simp) (by omega)
    have hB2 : Below w.heap.size w w2 := hB1.trans ((hP2.mono (by simp; omega)).below (Nat.le_refl _))
    obtain ⟨w3, hw3⟩ : ∃ w3, w2.alloc (.cells #[.slice B n d] 22) = w3 := ⟨_, rfl⟩
    have hs3 : w3.heap.size ≤ wm.heap.size + 2 ∧ wm.heap.size + 2 ≤ w3.heap.size := by rw [← hw3]; simp; omega
    have hbq : Block w3 w2.heap.size 22 #[.slice B n d] := by rw [← hw3]; exact Block.new _ _ _
    have h0 : SumAt w3 w.heap.size M p q n := by
      refine ⟨p ++ (List.replicate M 0).drop m, by simp; omega, fun i => ?_, by rw [← hw3]; exact hBlk2.alloc _⟩
      rw [show (if n ≤ i then coef q i else 0) = 0 by split; exact coef_of_le (by omega); rfl, add_zero]
      rw [List.drop_replicate]; exact coef_pad p _ i
    have hB3 : Below w.heap.size w w3 := by rw [← hw3]; exact hB2.alloc (by omega) _
    have hbx3 : Block w3 wm.heap.size 22 #[.slice (some ⟨w.heap.size, 0, none⟩) M M] := by rw [← hw3]; exact hbx2.alloc _
    rw [hw3]
    clear hw3
    refine wpIn_wide.1 (wpIn_down (n := 9) (by omega) (Bn := w2.heap.size) (m := n) (c := d) (A := B) (by omega) rfl
      (fun k r W => r = q ∧ Bytes W B (bs q) ∧ Block W w2.heap.size 22 #[.slice B n d] ∧ Block W wm.heap.size 22 #[.slice (some ⟨w.heap.size, 0, none⟩) M M] ∧ SumAt W w.heap.size M p q k ∧ Below w.heap.size w W)
      (fun _ _ => False)
      (fun k r W W' ⟨h1, h2, h3, h4, h5, h6⟩ ht => ⟨h1, ht.bytes h2, ht.block h3, ht.block h4, h5.turn ht, h6.trans (ht.below.mono (by omega))⟩)
      (fun _ _ _ h _ => h)
      (fun k r W ⟨h1, h2, h3, h4, h5, h6⟩ => ⟨by rw [h1, hl2], by rw [h1]; exact h2, h3.cell 0⟩)
      q ⟨rfl, HB2.out.below hB3, hbq, hbx3, h0, hB3⟩
      ?a2 ?assign2 ?body2 ?done2 (fun _ _ h => h.elim))
    case assign2 =>
      intro l k x W K hK
      gi_wp2
      exact hK
    case body2 =>
      rintro l k r W hk ⟨rfl, h2, h3, h4, ⟨s, hsl, hsc, h5⟩, h6⟩ hsW
      have hc4 := h4.cell 0
      have hc5 := (h5.cell k).trans (bvs_get s k (by omega))
      have hf5 := h5.frozen k
      have hcs : coef s k = coef p k := by rw [hsc k, if_neg (by omega), add_zero]
      rw [hcs] at hc5
      have HSC := Lib.hid hsc
      have hkM : k < M := by omega
      clear hsc hcs
      gi_wp2
      refine region_round_tail 9 hmx (by kernel_rfl) (by kernel_rfl) (fun h => by obtain ⟨a, w, h⟩ := h; exact h) ?_
      simp only [List.take_succ_cons, List.take_zero, List.drop_succ_cons, List.drop_zero]
      iterate 7 still_step
      still_call (add_still (coef p k) (coef r k) _)
      still_step
      refine wpStill_nil ?_
      go_wp2
      have h7 : Below w.heap.size w (W.setCell ⟨w.heap.size, k, none⟩ (.int .u8 ((coef p k + coef r k).n : Int))).drew := (h6.setCell (p := ⟨w.heap.size, k, none⟩) (Nat.le_refl _) _).drew
      refine ⟨((KeepsOthers.setCell _ _ _).trans (KeepsOthers.drew _)).from _, r, rfl, HB2.out.below h7, (h3.far (by simp; omega) _).drew, (h4.far (by simp; omega) _).drew, ⟨s.set k (coef p k + coef r k), by simp [hsl], fun i => ?_, ?_⟩, h7⟩
      · rw [coef_set s k _ (by omega), HSC.out i]
        by_cases e : i = k
        · subst e; rw [if_pos rfl, if_pos (Nat.le_refl _)]
        · rw [if_neg e]
          congr 1
          by_cases e2 : k + 1 ≤ i
          · rw [if_pos e2, if_pos (by omega)]
          · rw [if_neg e2, if_neg (by omega)]
      · rw [← bvs_set]; exact (h5.set_ k _).drew
    case done2 =>
      rintro r W ⟨rfl, h2, h3, h4, ⟨s, hsl, hsc, h5⟩, h6⟩ hD
      have hc4 := h4.cell 0
      have hO := Own.of_block (B := w.heap.size) h5 (Nat.le_refl _) (by rw [bvs_length, hsl]) (by simp only [maxLen]; omega)
      have HO := Lib.hid hO
      have HT : Hid (trim s = trim (padd p r)) := Lib.hid (trim_congr fun i => by rw [hsc i, if_pos (Nat.zero_le _), coef_padd])
      have HBy := Lib.hid (Own.bytes hO)
      have HW := Lib.hid (Nat.le_trans (by omega : w.heap.size ≤ wm.heap.size) (Nat.le_of_lt h4.lt))
      obtain ⟨j, hj⟩ : ∃ j, len s = j := ⟨_, rfl⟩
      have HJ := Lib.hid hj
      clear hsc hO hj
      go_wp2_with (go_at_call 33; refine (trimmed_calls (some ⟨w.heap.size, 0, none⟩) s M M _ hsl HBy.out (Nat.le_refl _) (by omega)).mono ?_; rintro e w4 ⟨A2, rfl, hcut, hB4⟩; rw [HJ.out])
      have hK := (hB4.block _ (Array.getElem?_eq_some_iff.1 hD).1).trans hD
      refine ⟨by simp, .inl ⟨_, _, rfl, run_takeDeferred hK, ?_⟩⟩
      have ht : Turn w.heap.size w4 _ := Turn.put hK rfl (by omega) (.deferred none)
      refine ⟨_, results_tmp rfl _ _ _, ?_⟩
      have hfin := ht.own ((hcut.own hsl HO.out).below hB4)
      rw [HT.out, HJ.out] at hfin
      exact Res.mk hfin ((h6.trans (hB4.mono HW.out)).trans ht.below)
end Go.Proofs.Ytkchofhdhkgbnaa.Poly
