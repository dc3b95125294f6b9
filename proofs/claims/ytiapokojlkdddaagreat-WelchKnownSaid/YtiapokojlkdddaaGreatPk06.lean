/- Of the program and its document, joined: PolyDown, PolyRef. -/
import Derived.RangeFuncNested
import Derived.RangeFuncBound
import Derived.Shelf.Abstract
import Derived.Shelf.RegionOpen
import Derived.WalkKit
import Derived.OwnWalkIn
import Derived.TacticsInMore
import Derived.LoopNIn
import Derived.LoopIn
import Derived.Test.YtiapokojlkdddaaGreatPk05
import Derived.Deep.RegionLaw
import Derived.Deep.RegionHeld3
/- A list visited from its last element on, by a function that is ranged over: what the visitor does, and a law for the statement: an invariant by how many elements are still to come. -/
namespace Go.Proofs.YtiapokojlkdddaaGreat.Poly
open Go.RowKit Go.Shelf F8
attribute [local go_sem] Oper.semAt_some

/-- How the body of a round may be left, the list and the invariant then. -/
def DownPost (B : Nat) (I : List F8 → World → Prop) (Ix : Code → World → Prop) (W : World) : Exit → Act → World → Prop
  | .normal, _, W' => KeepsFrom B W W' ∧ ∃ p, I p W'
  | .ret, _, W' => KeepsFrom B W W' ∧ Ix .ret W'
  | .exit id, _, W' => KeepsFrom B W W' ∧ Ix (.exit id) W'
  | _, _, _ => False

set_option maxRecDepth 100000 in
set_option maxHeartbeats 2000000 in
/-- The visitor: 'for power := len(a) - 1; power >= 0; power-- { if !yield(power, a[power]) { return } }'. -/
theorem down1_in (n : Nat) (hn : 1 ≤ n) (l Bn m c : Nat) (A : Option Addr) (hm : m ≤ 1000000) (J : Nat → List F8 → World → Prop) (Jx : World → Prop)
    (hJ : ∀ k p W, J k p W → p.length = m ∧ Bytes W A (bs p) ∧ W.cell? ⟨Bn, 0, none⟩ = some (.slice A m c))
    (hY : ∀ k p W, k < m → J (k + 1) p W → YieldAt Fence.wide (n - 1) Tryz.prog l #[.int .i64 k, .int .u8 (coef p k).n] W fun e W' =>
      (e = .returned (.bool true) ∧ ∃ p', J k p' W') ∨ (e = .returned (.bool false) ∧ Jx W'))
    (W : World) (p : List F8) (h0 : J m p W) :
    CallsIn Fence.wide n Tryz.prog 173 #[.func (.yield l) #[] #[], .pointer (some ⟨Bn, 0, none⟩)] W fun e W' => (∃ v, e = .returned v) ∧ ((∃ p', J 0 p' W') ∨ Jx W') := by
  refine callsIn_of_wp Tryz.func173 rfl trivial ?_ rfl
  simp only [Tryz.ntmps173, List.size_toArray, List.length_cons, List.length_nil, Nat.reduceAdd, Nat.reduceSub, Array.replicate_succ, Array.replicate_zero, List.push_toArray, List.append_toArray, List.nil_append, List.cons_append]
  have hb0 := (hJ _ _ _ h0).2.2
  gi_wp2
  gi_loopw [3] (fun i wr => ∃ (k : Nat) (p : List F8), k ≤ m ∧ i = .int .i64 ((k : Int) - 1) ∧ J k p wr) (fun i _ => (intOf i + 1).toNat)
  case atStart => exact ⟨m, p, Nat.le_refl _, rfl, h0⟩
  case round =>
    obtain ⟨k, q, hk, rfl, hj⟩ := hrel
    obtain ⟨hl, hB, hbx⟩ := hJ _ _ _ hj
    rcases Nat.eq_zero_or_pos k with rfl | hpos
    · gi_wp2
      go_end0
      exact ⟨⟨_, rfl⟩, .inl ⟨q, hj⟩⟩
    · obtain ⟨j, rfl⟩ : ∃ j, k = j + 1 := ⟨k - 1, by omega⟩
      obtain ⟨b, off, rfl, hc⟩ := cellF hB j (by omega)
      obtain ⟨fn, tmps, assign, body, hy, hR⟩ := hY j q wr (by omega) hj
      have e1 : (((j + 1 : Nat) : Int) - 1) = (j : Int) := by omega
      rw [e1]
      clear e1
      gi_wp2
      refine hR.mono ?_
      rintro e W3 (⟨rfl, q', hJ3⟩ | ⟨rfl, hJx3⟩)
      · gi_wp2
        go_roundw
        case rel => exact ⟨j, q', by omega, rfl, hJ3⟩
        case measure => simp [intOf]
      · gi_wp2
        refine bodyPost_ret (results_none rfl _ _ _) rfl ?_
        exact ⟨⟨_, rfl⟩, .inr hJx3⟩

set_option maxRecDepth 100000 in
set_option maxHeartbeats 2000000 in
/-- THE STATEMENT 'for power, coefficient := range downward(a) { .. }': an invariant by how many are still to come and by what the list holds then; the body may write the list. -/
theorem wpIn_down {n : Nat} (h1 : 3 ≤ n) {g : Operand} {s1 s2 : Tmp} {assign body : Code} {Q : Exit → Act → World → Prop} {a : Act} {w : World} {Bn m c : Nat} {A : Option Addr} (hm : m ≤ 1000000)
    (hg : a.eval g = .func (.func 173) #[] #[.pointer (some ⟨Bn, 0, none⟩)])
    (I : Nat → List F8 → World → Prop) (Ix : Code → World → Prop)
    (hI : ∀ k p W W', I k p W → Turn w.heap.size W W' → I k p W') (hIx : ∀ c W W', Ix c W → Turn w.heap.size W W' → Ix c W')
    (hrd : ∀ k p W, I k p W → p.length = m ∧ Bytes W A (bs p) ∧ W.cell? ⟨Bn, 0, none⟩ = some (.slice A m c))
    (p0 : List F8) (h0 : I m p0 w) (a₁ : Nat → F8 → Act)
    (hassign : ∀ (l k : Nat) (x : F8) (W : World) (K : Act → World → Prop), K (a₁ k x) W →
      assign.wpIn (Fence.wide.inRound l) (n - 1 - 1) Tryz.prog (Exit.then K (fun _ _ _ => False)) { tmps := (a.tmps.setIfInBounds s1 (.int .i64 k)).setIfInBounds s2 (.int .u8 x.n), defers := [] } W)
    (hbody : ∀ (l k : Nat) (p : List F8) (W : World), k < m → I (k + 1) p W → w.heap.size ≤ W.heap.size → body.wpIn (Fence.wide.inRound l) (n - 1 - 1) Tryz.prog (DownPost w.heap.size (I k) Ix W) (a₁ k (coef p k)) W)
    (hdone : ∀ (p : List F8) (W : World), I 0 p W → W.heap[w.heap.size]? = some (.deferred (some [])) → Q .normal { a with defers := { target := .collected w.heap.size, args := #[] } :: a.defers } W)
    (hstop : ∀ (c : Code) (W : World), Ix c W → W.heap[w.heap.size]? = some (.deferred (some [])) → c.wpIn Fence.wide n Tryz.prog Q { a with defers := { target := .collected w.heap.size, args := #[] } :: a.defers } W) :
    (Code.rangeFunc g #[s1, s2] assign body).wpIn Fence.wide n Tryz.prog Q a w := by
  refine wpIn_rangeFunc fun fn hfn => ?_
  obtain ⟨D, hD⟩ : ∃ D, D = w.heap.size := ⟨_, rfl⟩
  -- the two blocks that the statement lays: the record of the loop, in whatever state, and the rounds' deferred calls
  obtain ⟨R, hR⟩ : ∃ R : LoopState → Option Code → Obj, R = fun st j => .loop { state := st, pending := j, fn, tmps := a.tmps, params := #[s1, s2], assign, body, defers := D } := ⟨_, rfl⟩
  have hRc : ∀ st j, (R st j).isCells = false := by intro st j; rw [hR]; rfl
  let Bk : LoopState → Option Code → World → Prop := fun st j W => W.heap[D + 1]? = some (R st j) ∧ W.heap[D]? = some (.deferred (some []))
  have bk_put : ∀ {st j st' j'} {W : World}, Bk st j W → Bk st' j' (W.putObj (D + 1) (R st' j')) := fun {st j st' j' W} h =>
    ⟨World.putObj_heap_same (Array.getElem?_eq_some_iff.1 h.1).1, (World.putObj_heap_other (by omega)).trans h.2⟩
  have tn_put : ∀ {st j st' j'} {W : World}, Bk st j W → Turn D W (W.putObj (D + 1) (R st' j')) := fun {st j st' j' W} h => Turn.put h.1 (hRc _ _) (by omega) _
  have bk_keep : ∀ {st j} {W W' : World}, Bk st j W → KeepsFrom D W W' → Bk st j W' := fun {st j W W'} h k => ⟨k.same _ _ (by omega) h.1 (hRc _ _), k.same _ _ (Nat.le_refl _) h.2 rfl⟩
  have ends : ∀ {W : World} (j : Option Code), Bk .busy none W → (Instr.endRound (D + 1) j).run Tryz.prog W = .ok (.bool j.isNone) (W.putObj (D + 1) (R (if j.isNone then .ready else .done) j)) := by
    intro W j h
    have h2 := h.1
    rw [hR] at h2 ⊢
    exact run_endRound j h2
  have out : ∀ {W : World} {st j}, st ≠ .busy → Bk st j W → (Instr.endLoop (D + 1)).run Tryz.prog W = .ok j (W.putObj (D + 1) (R .exhausted j)) := by
    intro W st j hst h
    have h2 := h.1
    rw [hR] at h2 ⊢
    exact run_endLoop h2 hst
  rw [← hD] at hI hIx hbody hdone hstop
  obtain ⟨W1, hW1⟩ : ∃ W1, (w.alloc (.deferred (some []))).alloc (R .ready none) = W1 := ⟨_, rfl⟩
  have t1 : Turn D w W1 := by
    rw [← hW1]
    exact (Turn.alloc (by omega) _).trans (Turn.alloc (by simp; omega) _)
  have b1 : Bk .ready none W1 := by
    have e1 := World.alloc_heap_new (w.alloc (.deferred (some []))) (R .ready none)
    have e2 := (Below.heap_alloc (w.alloc (.deferred (some []))) (R .ready none) w.heap.size (by simp)).trans (World.alloc_heap_new w _)
    rw [World.size_alloc, hW1, ← hD] at e1
    rw [hW1, ← hD] at e2
    exact ⟨e1, e2⟩
  refine ⟨D + 1, [{ target := .collected D, args := #[] }], W1, { target := .fn (.func 173) #[.pointer (some ⟨Bn, 0, none⟩)], args := #[.func (.yield (D + 1)) #[] #[]] }, W1, 173,
    #[.func (.yield (D + 1)) #[] #[]] ++ #[.pointer (some ⟨Bn, 0, none⟩)], W1, ?_, ?_, fun _ _ => trivial, ?_, (fun h => by cases h), ?_⟩
  · rw [← hW1, hR, hD]; exact run_enterLoop_outer _ _ _ _ _
  · simp only [resolve, hg]; simp [go_sem]
  · simp [invoke, go_sem]
  · refine (down1_in (n - 1) (by omega) (D + 1) Bn m c A hm (fun k p W => I k p W ∧ Bk .ready none W ∧ D ≤ W.heap.size) (fun W => ∃ j, Ix j W ∧ Bk .done (some j) W ∧ D ≤ W.heap.size)
      (fun k p W h => hrd k p W h.1) ?_ W1 p0 ⟨hI _ _ _ _ h0 t1, b1, by have := t1.size; omega⟩).mono ?_
    · -- a round
      rintro k p W hk ⟨hi, hb, hsz⟩
      have hy := run_yield (P := Tryz.prog) (args := #[.int .i64 k, .int .u8 (coef p k).n]) (l := D + 1) (by have h2 := hb.1; rw [hR] at h2; exact h2) rfl
      have hbr := run_beginRound (P := Tryz.prog) (l := D + 1) (by have h2 := hb.1; rw [hR] at h2; exact h2) rfl
      refine ⟨fn, _, assign, body, hy, roundIn_of_wpIn hfn ?_⟩
      clear hy
      dsimp only
      rw [zip2]
      refine hassign _ k (coef p k) W _ ?_
      refine ⟨_, hbr, ?_⟩
      clear hbr
      have hb2 : Bk .busy none (W.putObj (D + 1) (R .busy none)) := bk_put hb
      have hi2 := hI _ _ _ _ hi (tn_put (st' := .busy) (j' := none) hb)
      have hwp := hbody (D + 1) k p (W.putObj (D + 1) (R .busy none)) hk hi2 (by simp; omega)
      rw [hR] at hwp
      refine wpIn_mono hwp ?_
      rintro e a3 W3 hp
      have fin : ∀ (j : Option Code), KeepsFrom D (W.putObj (D + 1) (R .busy none)) W3 → (Instr.endRound (D + 1) j).run Tryz.prog W3 = .ok (.bool j.isNone) (W3.putObj (D + 1) (R (if j.isNone then .ready else .done) j)) ∧
          Bk (if j.isNone then .ready else .done) j (W3.putObj (D + 1) (R (if j.isNone then .ready else .done) j)) ∧ Turn D W3 (W3.putObj (D + 1) (R (if j.isNone then .ready else .done) j)) ∧ D ≤ (W3.putObj (D + 1) (R (if j.isNone then .ready else .done) j)).heap.size := fun j hkf => by
        have hb3 := bk_keep hb2 hkf
        refine ⟨ends j hb3, bk_put hb3, tn_put hb3, ?_⟩
        have := hkf.size
        simp at this ⊢
        omega
      have key : ∀ {W4 : World}, KeepsFrom D (W.putObj (D + 1) ((fun st j => Obj.loop { state := st, pending := j, fn, tmps := a.tmps, params := #[s1, s2], assign, body, defers := D }) .busy none)) W4 → KeepsFrom D (W.putObj (D + 1) (R .busy none)) W4 := by
        intro W4 h; rw [hR]; exact h
      cases e with
      | normal =>
        obtain ⟨hkf, q, hq⟩ := hp
        obtain ⟨f1, f2, f3, f4⟩ := fin none (key hkf)
        exact ⟨_, _, f1, .inl ⟨rfl, q, hI _ _ _ _ hq f3, f2, f4⟩⟩
      | ret =>
        obtain ⟨hkf, hq⟩ := hp
        obtain ⟨f1, f2, f3, f4⟩ := fin (some .ret) (key hkf)
        exact ⟨_, _, f1, .inr ⟨rfl, .ret, hIx _ _ _ hq f3, f2, f4⟩⟩
      | exit id =>
        obtain ⟨hkf, hq⟩ := hp
        obtain ⟨f1, f2, f3, f4⟩ := fin (some (.exit id)) (key hkf)
        exact ⟨_, _, f1, .inr ⟨rfl, .exit id, hIx _ _ _ hq f3, f2, f4⟩⟩
      | goto t => exact hp.elim
      | panic ch => exact hp.elim
      | outgrown => exact hp.elim
    · rintro e W2 ⟨⟨v, rfl⟩, ⟨q, hi, hb, _⟩ | ⟨j, hi, hb, _⟩⟩
      · exact ⟨none, _, out (by simp) hb, hdone q _ (hI _ _ _ _ hi (tn_put hb)) (bk_put (st' := .exhausted) (j' := none) hb).2⟩
      · exact ⟨some j, _, out (by simp) hb, hstop j _ (hIx _ _ _ hi (tn_put hb)) (bk_put (st' := .exhausted) (j' := some j) hb).2⟩
end Go.Proofs.YtiapokojlkdddaaGreat.Poly

/- What the definition's calls on polynomials do. -/
namespace Go.Proofs.YtiapokojlkdddaaGreat.Poly
open Go.RowKit F8
open GF (ret_bool ret_int ret_nat val_int refMul_calls refDiv_calls refDiv_zero)

set_option maxRecDepth 100000 in
set_option maxHeartbeats 1600000 in
theorem refTrim_calls (A : Option Addr) (p : List F8) (c : Nat) (w : World) (hb : Bytes w A (bs p)) (hc : p.length ≤ c) (hl : p.length ≤ 1000000000) :
    Calls Tryz.prog 180 #[.slice A p.length c] w fun e w' => Res w w' e (trim p) := by
  have HB := Lib.hid hb
  clear hb
  go_enter Tryz.func180, Tryz.ntmps180
  go_wp2
  go_loop [3] (fun i => ∃ k : Nat, k ≤ p.length ∧ i = .int .i64 k ∧ Hid (∀ i, k ≤ i → i < p.length → coef p i = 0)) (fun i => (intOf i).toNat)
  case atStart => exact ⟨p.length, by omega, rfl, Lib.hid (fun i h1 h2 => by omega)⟩
  case round =>
    obtain ⟨k, hk, rfl, HZ⟩ := hrel
    have fin : ∀ (h1 : k = 0 ∨ coef p (k - 1) ≠ 0), Hid (trim p = p.take k) := fun h1 => Lib.hid (trim_take p k hk HZ.out h1)
    have hlk : (p.take k).length = k := by rw [List.length_take]; omega
    have HL := Lib.hid hlk
    clear hlk
    by_cases k0 : k = 0
    · have HT := fin (.inl k0)
      clear fin
      subst k0
      go_wp2_with (at_builtin; refine wpList_app _ rfl (.tmp 19) (.tmp 22) _ rfl w.heap.size 5 _ 1 Tryz.underlying22 info_u8 rfl (by omega) (.slice none 0 0) [] rfl (Own.nil _ _ _) A 0 c (bv (bs (p.take 0))) rfl (by rw [bvs_length]; exact HL.out) (bytes_take HB.out 0).row (bv_one _) (by simp) (Nat.le_refl _) ?_; intro v1 w1 hown1 hg1 _)
      have hbel := (Own.nil w w.heap.size 5).grew (Nat.le_refl _) hg1
      go_ret
      exact Res.mk (by rw [HT.out]; simpa using hown1) hbel
    · obtain ⟨m, hm⟩ : ∃ m : Nat, (k : Int) - 1 = (m : Int) := ⟨k - 1, by omega⟩
      obtain ⟨b, off, rfl⟩ := where_ HB.out (by omega)
      have hcell := cellAt HB.out m (by omega)
      by_cases hx : coef p m = 0
      · rw [hx] at hcell
        clear fin HL
        go_wp2
        go_round
        case rel => exact ⟨m, by omega, by simp, Lib.hid (fun i h1 h2 => by
          by_cases e : i = m
          · rw [e]; exact hx
          · exact HZ.out i (by omega) h2)⟩
        case measure => simp [intOf]; omega
      · have HT := fin (.inr (by rw [show k - 1 = m by omega]; exact hx))
        have hne := n_beq0 hx
        clear fin hx
        go_wp2_with (at_builtin; refine wpList_app _ rfl (.tmp 19) (.tmp 22) _ rfl w.heap.size 5 _ 1 Tryz.underlying22 info_u8 rfl (by omega) (.slice none 0 0) [] rfl (Own.nil _ _ _) (some ⟨b, off, none⟩) k c (bv (bs (p.take k))) rfl (by rw [bvs_length]; exact HL.out) (bytes_take HB.out k).row (bv_one _) (by simp; omega) (Nat.le_refl _) ?_; intro v1 w1 hown1 hg1 _)
        have hbel := (Own.nil w w.heap.size 5).grew (Nat.le_refl _) hg1
        go_ret
        exact Res.mk (by rw [HT.out]; simpa using hown1) hbel

theorem padd_take (p q : List F8) (k : Nat) (hk : k < p.length ∨ k < q.length) : (padd p q).take (k + 1) = (padd p q).take k ++ [coef p k + coef q k] := by
  have h : k < (padd p q).length := by rw [padd_length]; omega
  rw [take_succ' _ h, ← coef_padd, coef_of_lt h]
theorem xor_u8 (a b : F8) : bits .xor .u8 (a.n : Int) (b.n : Int) = ((a + b).n : Int) := GF.u8_xor' a.n b.n a.h b.h
theorem bvs_snoc (p : List F8) (s : F8) : bv (bs (p ++ [s])) = bv (bs p) ++ bv [s.n] := by rw [bs_append, bv_append]; rfl

set_option maxRecDepth 100000 in
set_option maxHeartbeats 4000000 in
theorem refAdd_calls (A B : Option Addr) (p q : List F8) (c d : Nat) (w : World) (hb : Bytes w A (bs p)) (hb2 : Bytes w B (bs q)) (hl : p.length ≤ 1000000000) (hl2 : q.length ≤ 1000000000) :
    Calls Tryz.prog 137 #[.slice A p.length c, .slice B q.length d] w fun e w' => Res w w' e (trim (padd p q)) := by
  have HB := Lib.hid hb
  have HB2 := Lib.hid hb2
  have hpl := padd_length p q
  have h1l : p.length ≤ (padd p q).length := by omega
  have h2l : q.length ≤ (padd p q).length := by omega
  have h3l : (padd p q).length ≤ p.length ∨ (padd p q).length ≤ q.length := by omega
  have h4l : (padd p q).length ≤ 1000000000 := by omega
  clear hb hb2 hpl
  go_enter Tryz.func137, Tryz.ntmps137
  go_wp2
  go_loopw [5, 6] (fun out i wr => ∃ k : Nat, k ≤ (padd p q).length ∧ i = .int .i64 k ∧ Hid (Own wr w.heap.size 5 out (bv (bs ((padd p q).take k)))) ∧ Below w.heap.size w wr) (fun _ i _ => (padd p q).length - (intOf i).toNat)
  case atStart => exact ⟨0, by omega, rfl, by simp only [List.take_zero]; exact Lib.hid (Own.nil _ _ _), Below.refl _ _⟩
  case round =>
    obtain ⟨k, hk, rfl, HO, HW⟩ := hrel
    have hsz := HW.size
    have hlt : ((padd p q).take k).length = k := by rw [List.length_take]; omega
    have HL := Lib.hid hlt
    clear hlt
    by_cases hkk : k < p.length ∨ k < q.length
    · obtain ⟨s, hs⟩ : ∃ s, coef p k + coef q k = s := ⟨_, rfl⟩
      have HT := Lib.hid (padd_take p q k hkk)
      rw [hs] at HT
      by_cases h1 : k < p.length
      · obtain ⟨b, off, rfl⟩ := where_ HB.out (by omega)
        have hcell := cellAt (HB.out.below HW) k h1
        by_cases h2 : k < q.length
        · obtain ⟨b2, off2, rfl⟩ := where_ HB2.out (by omega)
          have hcell2 := cellAt (HB2.out.below HW) k h2
          have hx : bits .xor .u8 ((coef p k).n : Int) ((coef q k).n : Int) = (s.n : Int) := by rw [xor_u8, hs]
          clear hs hkk
          go_wp2_with (at_builtin; refine wpList_app _ rfl (.tmp 38) (.tmp 40) _ rfl w.heap.size 5 _ 1 Tryz.underlying22 info_u8 rfl (by omega) _ _ rfl (HO.out.alloc _) (some ⟨wr.heap.size, 0, none⟩) 1 1 (bv [s.n]) rfl rfl (Row.byte (by rw [cell_new]; simp)) (bv_one _) (by rw [bvs_length, HL.out]; omega) (by simp; omega) ?_; intro v2 w2 hown2 hg2 _)
          have HO2 := Lib.hid hown2
          have hb2 : Below w.heap.size w w2 := (HW.alloc hsz _).trans ((HO.out.alloc _).grew (by simp; omega) hg2)
          clear hown2 hg2
          go_wp2
          go_roundw
          case rel => exact ⟨k + 1, by omega, by go_num, by rw [HT.out, bvs_snoc]; exact HO2, hb2⟩
          case measure => simp [intOf]; omega
        · have hc2 : coef q k = 0 := coef_of_le (by omega)
          rw [hc2, add_zero] at hs
          rw [hs] at hcell
          clear hs hkk hc2
          go_wp2_with (at_builtin; refine wpList_app _ rfl (.tmp 38) (.tmp 40) _ rfl w.heap.size 5 _ 1 Tryz.underlying22 info_u8 rfl (by omega) _ _ rfl (HO.out.alloc _) (some ⟨wr.heap.size, 0, none⟩) 1 1 (bv [s.n]) rfl rfl (Row.byte (by rw [cell_new]; simp)) (bv_one _) (by rw [bvs_length, HL.out]; omega) (by simp; omega) ?_; intro v2 w2 hown2 hg2 _)
          have HO2 := Lib.hid hown2
          have hb2 : Below w.heap.size w w2 := (HW.alloc hsz _).trans ((HO.out.alloc _).grew (by simp; omega) hg2)
          clear hown2 hg2
          go_wp2
          go_roundw
          case rel => exact ⟨k + 1, by omega, by go_num, by rw [HT.out, bvs_snoc]; exact HO2, hb2⟩
          case measure => simp [intOf]; omega
      · have h2 : k < q.length := by omega
        have hc1 : coef p k = 0 := coef_of_le (by omega)
        rw [hc1, zero_add] at hs
        obtain ⟨b2, off2, rfl⟩ := where_ HB2.out (by omega)
        have hcell2 := cellAt (HB2.out.below HW) k h2
        rw [hs] at hcell2
        have hx : bits .xor .u8 0 (s.n : Int) = (s.n : Int) := by have := xor_u8 0 s; rw [zero_add] at this; exact this
        clear hs hkk hc1
        go_wp2_with (at_builtin; refine wpList_app _ rfl (.tmp 38) (.tmp 40) _ rfl w.heap.size 5 _ 1 Tryz.underlying22 info_u8 rfl (by omega) _ _ rfl (HO.out.alloc _) (some ⟨wr.heap.size, 0, none⟩) 1 1 (bv [s.n]) rfl rfl (Row.byte (by rw [cell_new]; simp)) (bv_one _) (by rw [bvs_length, HL.out]; omega) (by simp; omega) ?_; intro v2 w2 hown2 hg2 _)
        have HO2 := Lib.hid hown2
        have hb2 : Below w.heap.size w w2 := (HW.alloc hsz _).trans ((HO.out.alloc _).grew (by simp; omega) hg2)
        clear hown2 hg2
        go_wp2
        go_roundw
        case rel => exact ⟨k + 1, by omega, by go_num, by rw [HT.out, bvs_snoc]; exact HO2, hb2⟩
        case measure => simp [intOf]; omega
    · have hke : k = (padd p q).length := by omega
      have HT : Hid ((padd p q).take k = padd p q) := Lib.hid (List.take_of_length_le (by omega))
      rw [HT.out] at HO
      obtain ⟨A2, c2, rfl, hc2⟩ := Own.shape HO.out
      subst hke
      clear HT HL
      go_wp2_with (go_at_call 180; (with_reducible refine (refTrim_calls A2 (padd p q) c2 _ (Own.bytes HO.out) hc2 h4l).mono ?_); rintro e w2 ⟨A3, c3, rfl, hc3, hO3, hB3⟩)
      go_ret
      exact ⟨A3, c3, rfl, hc3, hO3.more hsz, HW.trans (hB3.mono hsz)⟩

theorem mul_n (a b : F8) : GF.gm a.n b.n = (a * b).n := rfl
theorem refMul_f (a b : F8) (w : World) : Calls Tryz.prog 75 #[.int .u8 a.n, .int .u8 b.n] w fun e w' => e = .returned (.int .u8 (a * b).n) ∧ w' = w := refMul_calls a.n b.n a.h b.h w

set_option maxRecDepth 100000 in
set_option maxHeartbeats 4000000 in
theorem refPMul_calls (A B : Option Addr) (p q : List F8) (c d : Nat) (w : World) (hb : Bytes w A (bs p)) (hb2 : Bytes w B (bs q)) (hl : p.length ≤ 100000000) (hl2 : q.length ≤ 100000000) :
    Calls Tryz.prog 138 #[.slice A p.length c, .slice B q.length d] w fun e w' => Res w w' e (trim (pmul p q)) := by
  have HB := Lib.hid hb
  have HB2 := Lib.hid hb2
  clear hb hb2
  go_enter Tryz.func138, Tryz.ntmps138
  go_wp2
  go_loopw [5, 6] (fun out i wr => ∃ k : Nat, k ≤ p.length ∧ i = .int .i64 k ∧ Hid (Own wr w.heap.size 5 out (bv (bs (trim (pmul (p.take k) q))))) ∧ Below w.heap.size w wr) (fun _ i _ => p.length - (intOf i).toNat)
  case atStart => exact ⟨0, by omega, rfl, Lib.hid (Own.nil _ _ _), Below.refl _ _⟩
  case round =>
    obtain ⟨k, hk, rfl, HO, HW⟩ := hrel
    have hsz := HW.size
    by_cases hkk : k < p.length
    · obtain ⟨wm, hmk, hOm, hBm⟩ := make_run wr k (by omega)
      have HOm := Lib.hid hOm
      obtain ⟨b, off, rfl⟩ := where_ HB.out (by omega)
      obtain ⟨a, ha⟩ : ∃ a, coef p k = a := ⟨_, rfl⟩
      obtain ⟨wo, rfl⟩ : ∃ wo : World, wo = wr := ⟨_, rfl⟩
      clear hOm
      go_wp2
      go_loopw [7, 8] (fun row i wr => ∃ j : Nat, j ≤ q.length ∧ i = .int .i64 j ∧ Hid (Own wr wo.heap.size 5 row (bv (bs (List.replicate k 0 ++ scale a (q.take j))))) ∧ Below wo.heap.size wo wr) (fun _ i _ => q.length - (intOf i).toNat)
      case atStart => exact ⟨0, by omega, rfl, by simpa [scale] using HOm, hBm⟩
      case round =>
        clear HOm hBm hmk
        obtain ⟨j, hj, rfl, HR, HI⟩ := hrel
        have hsz2 := HI.size
        by_cases hjj : j < q.length
        · obtain ⟨b2, off2, rfl⟩ := where_ HB2.out (by omega)
          obtain ⟨x, hx⟩ : ∃ x, a * coef q j = x := ⟨_, rfl⟩
          have hWI := HW.trans (HI.mono hsz)
          have hc1 := cellAt (HB.out.below hWI) k hkk
          have hc2 := cellAt (HB2.out.below hWI) j hjj
          rw [ha] at hc1
          have hmx : ∀ v, Calls Tryz.prog 75 #[.int .u8 a.n, .int .u8 (coef q j).n] v fun e w' => e = .returned (.int .u8 x.n) ∧ w' = v := fun v => by rw [← hx]; exact refMul_f a (coef q j) v
          have HT := Lib.hid (scale_snoc a q j hjj)
          rw [hx] at HT
          have HN := Lib.hid (Row.new wr #[.int .u8 (x.n : Int)] 5 (0, 0))
          have hb3 : Below wr.heap.size wr (wr.alloc (.cells #[.int .u8 (x.n : Int)] 5)).drew := ((Below.refl _ wr).alloc (Nat.le_refl _) _).drew
          have HR2 := Lib.hid (HR.out.below hb3)
          have hs2 : (wr.alloc (.cells #[.int .u8 (x.n : Int)] 5)).drew.heap.size = wr.heap.size + 1 := by simp
          have hlen : (bv (bs (List.replicate k 0 ++ scale a (q.take j)))).length = k + j := by rw [bvs_length]; simp [scale]; omega
          have HL := Lib.hid hlen
          have Hb3 := Lib.hid hb3
          clear hx hlen hb3
          go_wp2_with fail
          go_region_law (first
            | (refine step_app _ (by rfl) (.tmp 23) (.tmp 33) _ (by rfl) wo.heap.size 5 _ 1 Tryz.underlying22 info_u8 rfl (by omega) u7 _ (by rfl) HR2.out (some ⟨wr.heap.size, 0, none⟩) 1 1 _ (by rfl) rfl HN.out.drew (by simp [Value.oneCell']) (by rw [HL.out]; simp; omega) (by omega) ?_
               intro v1 w1 hown1 hgrow _
               have HW2 := Lib.hid (HI.trans ((Hb3.out.mono hsz2).trans (HR2.out.grew (by omega) hgrow)))
               have HR3 := Lib.hid hown1
               clear hown1 hgrow)
            | (go_simp; go_at_call 75; refine (hmx _).mono ?_; rintro e w' ⟨rfl, rfl⟩))
          all_goals
            go_wp2
            go_roundw
            case rel => exact ⟨j + 1, by omega, by go_num, by rw [HT.out, ← List.append_assoc, bvs_snoc]; exact HR3, HW2.out⟩
            case measure => simp [intOf]; omega
        · obtain rfl : j = q.length := by omega
          have HT : Hid (q.take q.length = q) := Lib.hid (List.take_length)
          rw [HT.out] at HR
          have l1 : (trim (pmul (p.take k) q)).length ≤ 1000000000 := by
            have := trim_le (pmul (p.take k) q)
            have := pmul_length_le (p.take k) q
            have : (p.take k).length ≤ k := List.length_take_le _ _
            omega
          have l2 : (List.replicate k (0 : F8) ++ scale a q).length ≤ 1000000000 := by simp [scale]; omega
          have HE : Hid (trim (padd (trim (pmul (p.take k) q)) (List.replicate k 0 ++ scale a q)) = trim (pmul (p.take (k + 1)) q)) := Lib.hid (by
            refine trim_congr ((padd_congr (trim_eqv _) (Eqv.refl _)).trans ?_)
            rw [take_succ' p hkk, ← coef_of_lt hkk, ha]
            have := pmul_snoc (p.take k) a q
            rw [List.length_take, Nat.min_eq_left hk] at this
            exact this.symm)
          have HO1 := Lib.hid (HO.out.below HI)
          obtain ⟨o, ho⟩ : ∃ o, trim (pmul (p.take k) q) = o := ⟨_, rfl⟩
          obtain ⟨r, hr⟩ : ∃ r, List.replicate k 0 ++ scale a q = r := ⟨_, rfl⟩
          rw [ho] at HO1 l1 HE
          rw [hr] at HR l2 HE
          obtain ⟨A2, c2, rfl, hc2⟩ := Own.shape HO1.out
          obtain ⟨A3, c3, rfl, hc3⟩ := Own.shape HR.out
          have HI2 := Lib.hid HI
          clear HT hj hjj ha HI ho hr HO
          go_wp2_with (go_at_call 137; (with_reducible refine (refAdd_calls A2 A3 o r c2 c3 _ (Own.bytes HO1.out) (Own.bytes HR.out) l1 l2).mono ?_); rintro e w3 ⟨A4, c4, rfl, hc4, hO4, hB4⟩; rw [HE.out] at hO4 hc4 ⊢; have HO4 := Lib.hid (hO4.more (Nat.le_trans hsz hsz2)); have HB4 := Lib.hid (HW.trans ((HI2.out.mono hsz).trans (hB4.mono (Nat.le_trans hsz hsz2)))); clear hO4 hB4)
          go_roundw
          case rel => exact ⟨k + 1, by omega, by go_num, HO4, HB4.out⟩
          case measure => simp [intOf]; omega
    · obtain rfl : k = p.length := by omega
      have HT : Hid (p.take p.length = p) := Lib.hid (List.take_length)
      rw [HT.out] at HO
      clear hkk hk HT
      go_wp2
      go_ret
      exact Res.mk HO.out HW
end Go.Proofs.YtiapokojlkdddaaGreat.Poly
