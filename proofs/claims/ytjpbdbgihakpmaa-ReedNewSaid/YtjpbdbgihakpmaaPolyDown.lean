/- A list visited from its last element on, by a function that is ranged over: what the visitor does, and a law for the statement: an invariant by how many elements are still to come. -/
import Derived.RangeFuncNested
import Derived.RangeFuncBound
import Derived.Shelf.Abstract
import Derived.Shelf.RegionOpen
import Derived.WalkKit
import Derived.OwnWalkIn
import Derived.TacticsInMore
import Derived.LoopNIn
import Derived.LoopIn
import Derived.Test.YtjpbdbgihakpmaaPolyKit
import Derived.Test.YtjpbdbgihakpmaaTurn
namespace Go.Proofs.Ytjpbdbgihakpmaa.Poly
open Go.RowKit Go.Shelf F8
attribute [local go_sem] Oper.semAt_some

/-- How the body of a round may be left, the list and the invariant then. -/
def DownPost (B : Nat) (I : List F8 → World → Prop) (Ix : Code → World → Prop) (W : World) : Exit → Act → World → Prop
  | .normal, _, W' => KeepsFrom B W W' ∧ ∃ p, I p W'
  | .ret, _, W' => KeepsFrom B W W' ∧ Ix .ret W'
  | .exit id, _, W' => KeepsFrom B W W' ∧ Ix (.exit id) W'
  | _, _, _ => False

set_option maxRecDepth 100000 in
set_option maxHeartbeats 2000000 in
/-- The visitor: 'for power := len(a) - 1; power >= 0; power-- { if !yield(power, a[power]) { return } }'. -/
theorem down1_in (n : Nat) (hn : 1 ≤ n) (l Bn m c : Nat) (A : Option Addr) (hm : m ≤ 1000000) (J : Nat → List F8 → World → Prop) (Jx : World → Prop)
    (hJ : ∀ k p W, J k p W → p.length = m ∧ Bytes W A (bs p) ∧ W.cell? ⟨Bn, 0, none⟩ = some (.slice A m c))
    (hY : ∀ k p W, k < m → J (k + 1) p W → YieldAt Fence.wide (n - 1) Try.prog l #[.int .i64 k, .int .u8 (coef p k).n] W fun e W' =>
      (e = .returned (.bool true) ∧ ∃ p', J k p' W') ∨ (e = .returned (.bool false) ∧ Jx W'))
    (W : World) (p : List F8) (h0 : J m p W) :
    CallsIn Fence.wide n Try.prog 126 #[.func (.yield l) #[] #[], .pointer (some ⟨Bn, 0, none⟩)] W fun e W' => (∃ v, e = .returned v) ∧ ((∃ p', J 0 p' W') ∨ Jx W') := by
  refine callsIn_of_wp Try.func126 rfl trivial ?_ rfl
  simp only [Try.ntmps126, List.size_toArray, List.length_cons, List.length_nil, Nat.reduceAdd, Nat.reduceSub, Array.replicate_succ, Array.replicate_zero, List.push_toArray, List.append_toArray, List.nil_append, List.cons_append]
  have hb0 := (hJ _ _ _ h0).2.2
  gi_wp2
  gi_loopw [3] (fun i wr => ∃ (k : Nat) (p : List F8), k ≤ m ∧ i = .int .i64 ((k : Int) - 1) ∧ J k p wr) (fun i _ => (intOf i + 1).toNat)
  case atStart => exact ⟨m, p, Nat.le_refl _, rfl, h0⟩
  case round =>
    obtain ⟨k, q, hk, rfl, hj⟩ := hrel
    obtain ⟨hl, hB, hbx⟩ := hJ _ _ _ hj
    rcases Nat.eq_zero_or_pos k with rfl | hpos
    · gi_wp2
      go_end0
      exact ⟨⟨_, rfl⟩, .inl ⟨q, hj⟩⟩
    · obtain ⟨j, rfl⟩ : ∃ j, k = j + 1 := ⟨k - 1, by omega⟩
      obtain ⟨b, off, rfl, hc⟩ := cellF hB j (by omega)
      obtain ⟨fn, tmps, assign, body, hy, hR⟩ := hY j q wr (by omega) hj
      have e1 : (((j + 1 : Nat) : Int) - 1) = (j : Int) := by omega
      rw [e1]
      clear e1
      gi_wp2
      refine hR.mono ?_
      rintro e W3 (⟨rfl, q', hJ3⟩ | ⟨rfl, hJx3⟩)
      · gi_wp2
        go_roundw
        case rel => exact ⟨j, q', by omega, rfl, hJ3⟩
        case measure => simp [intOf]
      · gi_wp2
        refine bodyPost_ret (results_none rfl _ _ _) rfl ?_
        exact ⟨⟨_, rfl⟩, .inr hJx3⟩

set_option maxRecDepth 100000 in
set_option maxHeartbeats 2000000 in
/-- THE STATEMENT 'for power, coefficient := range downward(a) { .. }': an invariant by how many are still to come and by what the list holds then; the body may write the list. -/
theorem wpIn_down {n : Nat} (h1 : 3 ≤ n) {g : Operand} {s1 s2 : Tmp} {assign body : Code} {Q : Exit → Act → World → Prop} {a : Act} {w : World} {Bn m c : Nat} {A : Option Addr} (hm : m ≤ 1000000)
    (hg : a.eval g = .func (.func 126) #[] #[.pointer (some ⟨Bn, 0, none⟩)])
    (I : Nat → List F8 → World → Prop) (Ix : Code → World → Prop)
    (hI : ∀ k p W W', I k p W → Turn w.heap.size W W' → I k p W') (hIx : ∀ c W W', Ix c W → Turn w.heap.size W W' → Ix c W')
    (hrd : ∀ k p W, I k p W → p.length = m ∧ Bytes W A (bs p) ∧ W.cell? ⟨Bn, 0, none⟩ = some (.slice A m c))
    (p0 : List F8) (h0 : I m p0 w) (a₁ : Nat → F8 → Act)
    (hassign : ∀ (l k : Nat) (x : F8) (W : World) (K : Act → World → Prop), K (a₁ k x) W →
      assign.wpIn (Fence.wide.inRound l) (n - 1 - 1) Try.prog (Exit.then K (fun _ _ _ => False)) { tmps := (a.tmps.setIfInBounds s1 (.int .i64 k)).setIfInBounds s2 (.int .u8 x.n), defers := [] } W)
    (hbody : ∀ (l k : Nat) (p : List F8) (W : World), k < m → I (k + 1) p W → w.heap.size ≤ W.heap.size → body.wpIn (Fence.wide.inRound l) (n - 1 - 1) Try.prog (DownPost w.heap.size (I k) Ix W) (a₁ k (coef p k)) W)
    (hdone : ∀ (p : List F8) (W : World), I 0 p W → W.heap[w.heap.size]? = some (.deferred (some [])) → Q .normal { a with defers := { target := .collected w.heap.size, args := #[] } :: a.defers } W)
    (hstop : ∀ (c : Code) (W : World), Ix c W → W.heap[w.heap.size]? = some (.deferred (some [])) → c.wpIn Fence.wide n Try.prog Q { a with defers := { target := .collected w.heap.size, args := #[] } :: a.defers } W) :
    (Code.rangeFunc g #[s1, s2] assign body).wpIn Fence.wide n Try.prog Q a w := by
  refine wpIn_rangeFunc fun fn hfn => ?_
  obtain ⟨D, hD⟩ : ∃ D, D = w.heap.size := ⟨_, rfl⟩
  -- the two blocks that the statement lays: the record of the loop, in whatever state, and the rounds' deferred calls
  obtain ⟨R, hR⟩ : ∃ R : LoopState → Option Code → Obj, R = fun st j => .loop { state := st, pending := j, fn, tmps := a.tmps, params := #[s1, s2], assign, body, defers := D } := ⟨_, rfl⟩
  have hRc : ∀ st j, (R st j).isCells = false := by intro st j; rw [hR]; rfl
  let Bk : LoopState → Option Code → World → Prop := fun st j W => W.heap[D + 1]? = some (R st j) ∧ W.heap[D]? = some (.deferred (some []))
  have bk_put : ∀ {st j st' j'} {W : World}, Bk st j W → Bk st' j' (W.putObj (D + 1) (R st' j')) := fun {st j st' j' W} h =>
    ⟨World.putObj_heap_same (Array.getElem?_eq_some_iff.1 h.1).1, (World.putObj_heap_other (by omega)).trans h.2⟩
  have tn_put : ∀ {st j st' j'} {W : World}, Bk st j W → Turn D W (W.putObj (D + 1) (R st' j')) := fun {st j st' j' W} h => Turn.put h.1 (hRc _ _) (by omega) _
  have bk_keep : ∀ {st j} {W W' : World}, Bk st j W → KeepsFrom D W W' → Bk st j W' := fun {st j W W'} h k => ⟨k.same _ _ (by omega) h.1 (hRc _ _), k.same _ _ (Nat.le_refl _) h.2 rfl⟩
  have ends : ∀ {W : World} (j : Option Code), Bk .busy none W → (Instr.endRound (D + 1) j).run Try.prog W = .ok (.bool j.isNone) (W.putObj (D + 1) (R (if j.isNone then .ready else .done) j)) := by
    intro W j h
    have h2 := h.1
    rw [hR] at h2 ⊢
    exact run_endRound j h2
  have out : ∀ {W : World} {st j}, st ≠ .busy → Bk st j W → (Instr.endLoop (D + 1)).run Try.prog W = .ok j (W.putObj (D + 1) (R .exhausted j)) := by
    intro W st j hst h
    have h2 := h.1
    rw [hR] at h2 ⊢
    exact run_endLoop h2 hst
  rw [← hD] at hI hIx hbody hdone hstop
  obtain ⟨W1, hW1⟩ : ∃ W1, (w.alloc (.deferred (some []))).alloc (R .ready none) = W1 := ⟨_, rfl⟩
  have t1 : Turn D w W1 := by
    rw [← hW1]
    exact (Turn.alloc (by omega) _).trans (Turn.alloc (by simp; omega) _)
  have b1 : Bk .ready none W1 := by
    have e1 := World.alloc_heap_new (w.alloc (.deferred (some []))) (R .ready none)
    have e2 := (Below.heap_alloc (w.alloc (.deferred (some []))) (R .ready none) w.heap.size (by simp)).trans (World.alloc_heap_new w _)
    rw [World.size_alloc, hW1, ← hD] at e1
    rw [hW1, ← hD] at e2
    exact ⟨e1, e2⟩
  refine ⟨D + 1, [{ target := .collected D, args := #[] }], W1, { target := .fn (.func 126) #[.pointer (some ⟨Bn, 0, none⟩)], args := #[.func (.yield (D + 1)) #[] #[]] }, W1, 126,
    #[.func (.yield (D + 1)) #[] #[]] ++ #[.pointer (some ⟨Bn, 0, none⟩)], W1, ?_, ?_, fun _ _ => trivial, ?_, (fun h => by cases h), ?_⟩
  · rw [← hW1, hR, hD]; exact run_enterLoop_outer _ _ _ _ _
  · simp only [resolve, hg]; simp [go_sem]
  · simp [invoke, go_sem]
  · refine (down1_in (n - 1) (by omega) (D + 1) Bn m c A hm (fun k p W => I k p W ∧ Bk .ready none W ∧ D ≤ W.heap.size) (fun W => ∃ j, Ix j W ∧ Bk .done (some j) W ∧ D ≤ W.heap.size)
      (fun k p W h => hrd k p W h.1) ?_ W1 p0 ⟨hI _ _ _ _ h0 t1, b1, by have := t1.size; omega⟩).mono ?_
    · -- a round
      rintro k p W hk ⟨hi, hb, hsz⟩
      have hy := run_yield (P := Try.prog) (args := #[.int .i64 k, .int .u8 (coef p k).n]) (l := D + 1) (by have h2 := hb.1; rw [hR] at h2; exact h2) rfl
      have hbr := run_beginRound (P := Try.prog) (l := D + 1) (by have h2 := hb.1; rw [hR] at h2; exact h2) rfl
      refine ⟨fn, _, assign, body, hy, roundIn_of_wpIn hfn ?_⟩
      clear hy
      dsimp only
      rw [zip2]
      refine hassign _ k (coef p k) W _ ?_
      refine ⟨_, hbr, ?_⟩
      clear hbr
      have hb2 : Bk .busy none (W.putObj (D + 1) (R .busy none)) := bk_put hb
      have hi2 := hI _ _ _ _ hi (tn_put (st' := .busy) (j' := none) hb)
      have hwp := hbody (D + 1) k p (W.putObj (D + 1) (R .busy none)) hk hi2 (by simp; omega)
      rw [hR] at hwp
      refine wpIn_mono hwp ?_
      rintro e a3 W3 hp
      have fin : ∀ (j : Option Code), KeepsFrom D (W.putObj (D + 1) (R .busy none)) W3 → (Instr.endRound (D + 1) j).run Try.prog W3 = .ok (.bool j.isNone) (W3.putObj (D + 1) (R (if j.isNone then .ready else .done) j)) ∧
          Bk (if j.isNone then .ready else .done) j (W3.putObj (D + 1) (R (if j.isNone then .ready else .done) j)) ∧ Turn D W3 (W3.putObj (D + 1) (R (if j.isNone then .ready else .done) j)) ∧ D ≤ (W3.putObj (D + 1) (R (if j.isNone then .ready else .done) j)).heap.size := fun j hkf => by
        have hb3 := bk_keep hb2 hkf
        refine ⟨ends j hb3, bk_put hb3, tn_put hb3, ?_⟩
        have := hkf.size
        simp at this ⊢
        omega
      have key : ∀ {W4 : World}, KeepsFrom D (W.putObj (D + 1) ((fun st j => Obj.loop { state := st, pending := j, fn, tmps := a.tmps, params := #[s1, s2], assign, body, defers := D }) .busy none)) W4 → KeepsFrom D (W.putObj (D + 1) (R .busy none)) W4 := by
        intro W4 h; rw [hR]; exact h
      cases e with
      | normal =>
        obtain ⟨hkf, q, hq⟩ := hp
        obtain ⟨f1, f2, f3, f4⟩ := fin none (key hkf)
        exact ⟨_, _, f1, .inl ⟨rfl, q, hI _ _ _ _ hq f3, f2, f4⟩⟩
      | ret =>
        obtain ⟨hkf, hq⟩ := hp
        obtain ⟨f1, f2, f3, f4⟩ := fin (some .ret) (key hkf)
        exact ⟨_, _, f1, .inr ⟨rfl, .ret, hIx _ _ _ hq f3, f2, f4⟩⟩
      | exit id =>
        obtain ⟨hkf, hq⟩ := hp
        obtain ⟨f1, f2, f3, f4⟩ := fin (some (.exit id)) (key hkf)
        exact ⟨_, _, f1, .inr ⟨rfl, .exit id, hIx _ _ _ hq f3, f2, f4⟩⟩
      | goto t => exact hp.elim
      | panic ch => exact hp.elim
      | outgrown => exact hp.elim
    · rintro e W2 ⟨⟨v, rfl⟩, ⟨q, hi, hb, _⟩ | ⟨j, hi, hb, _⟩⟩
      · exact ⟨none, _, out (by simp) hb, hdone q _ (hI _ _ _ _ hi (tn_put hb)) (bk_put (st' := .exhausted) (j' := none) hb).2⟩
      · exact ⟨some j, _, out (by simp) hb, hstop j _ (hIx _ _ _ hi (tn_put hb)) (bk_put (st' := .exhausted) (j' := some j) hb).2⟩
end Go.Proofs.Ytjpbdbgihakpmaa.Poly
