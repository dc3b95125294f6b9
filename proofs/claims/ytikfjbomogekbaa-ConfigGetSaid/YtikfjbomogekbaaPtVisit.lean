/- A range over a function that has one loop variable: what a visitor owes, and a law for the statement: an invariant by how many were visited. -/
import Derived.Test.YtikfjbomogekbaaTurn
namespace Go.Proofs.Ytikfjbomogekbaa.Pt
open Go.RowKit Go.Shelf Poly GF
attribute [local go_sem] Oper.semAt_some

/-- The visitor gf, what it has captured lb: it hands these values to the loop, one after the other; below the heap's size it turns but the block g; Kp is what it reads. -/
def Visits (gf : Nat) (lb : Array Value) (g : Nat) (Kp : World → Prop) (vals : List Value) : Prop :=
  ∀ (n : Nat) (_ : 1 ≤ n) (l : Nat) (J : Nat → World → Prop) (Jx : World → Prop)
    (_ : ∀ k W, J k W → Kp W) (_ : ∀ k W W', J k W → Past W.heap.size g W W' → Kp W' → J k W')
    (_ : ∀ k v W, vals[k]? = some v → J k W → YieldAt Fence.wide (n - 1) Try.prog l #[v] W fun e W' =>
      (e = .returned (.bool true) ∧ J (k + 1) W') ∨ (e = .returned (.bool false) ∧ Jx W'))
    (W : World) (_ : J 0 W),
    CallsIn Fence.wide n Try.prog gf (#[.func (.yield l) #[] #[]] ++ lb) W fun e W' => (∃ v, e = .returned v) ∧ (J vals.length W' ∨ Jx W')
theorem zip1 (s1 : Tmp) (u : Value) (t : Array Value) :
    Array.foldl (fun (tmps : Array Value) (x : Tmp × Value) => match x with | (t, a) => tmps.setIfInBounds t a) t ((#[s1] : Array Tmp).zip #[u]) = t.setIfInBounds s1 u := by simp

/-- How the body of a round may be left, and the invariant then. -/
def RowPost (B : Nat) (I : World → Prop) (Ix : Code → World → Prop) (W : World) : Exit → Act → World → Prop
  | .normal, _, W' => KeepsFrom B W W' ∧ I W'
  | .ret, _, W' => KeepsFrom B W W' ∧ Ix .ret W'
  | .exit id, _, W' => KeepsFrom B W W' ∧ Ix (.exit id) W'
  | _, _, _ => False

set_option maxRecDepth 100000 in
set_option maxHeartbeats 2000000 in
/-- THE STATEMENT 'for v := range visit { .. }': an invariant by how many were visited. -/
theorem wpIn_visits {n : Nat} (h1 : 3 ≤ n) {gop : Operand} {s1 : Tmp} {assign body : Code} {Q : Exit → Act → World → Prop} {a : Act} {w : World} {gf g : Nat} {lb : Array Value} {Kp : World → Prop} {vals : List Value}
    (hV : Visits gf lb g Kp vals) (hgw : g < w.heap.size)
    (hen : ∀ args W, (callFunc gf args).run Try.prog W = .ok (.enter gf args) W) (hg : a.eval gop = .func (.func gf) #[] lb)
    (I : Nat → World → Prop) (Ix : Code → World → Prop)
    (hI : ∀ k W W', I k W → Turn w.heap.size W W' → I k W') (hIx : ∀ c W W', Ix c W → Turn w.heap.size W W' → Ix c W')
    (hrd : ∀ k W, I k W → Kp W) (hP : ∀ k W W', I k W → Past W.heap.size g W W' → Kp W' → w.heap.size ≤ W.heap.size → I k W')
    (h0 : I 0 w) (a₁ : Value → Act)
    (hassign : ∀ (l k : Nat) (v : Value) (W : World) (K : Act → World → Prop), vals[k]? = some v → K (a₁ v) W →
      assign.wpIn (Fence.wide.inRound l) (n - 1 - 1) Try.prog (Exit.then K (fun _ _ _ => False)) { tmps := a.tmps.setIfInBounds s1 v, defers := [] } W)
    (hbody : ∀ (l k : Nat) (v : Value) (W : World), vals[k]? = some v → I k W → w.heap.size ≤ W.heap.size → body.wpIn (Fence.wide.inRound l) (n - 1 - 1) Try.prog (RowPost w.heap.size (I (k + 1)) Ix W) (a₁ v) W)
    (hdone : ∀ (W : World), I vals.length W → W.heap[w.heap.size]? = some (.deferred (some [])) → Q .normal { a with defers := { target := .collected w.heap.size, args := #[] } :: a.defers } W)
    (hstop : ∀ (c : Code) (W : World), Ix c W → W.heap[w.heap.size]? = some (.deferred (some [])) → c.wpIn Fence.wide n Try.prog Q { a with defers := { target := .collected w.heap.size, args := #[] } :: a.defers } W) :
    (Code.rangeFunc gop #[s1] assign body).wpIn Fence.wide n Try.prog Q a w := by
  refine wpIn_rangeFunc fun fn hfn => ?_
  obtain ⟨D, hD⟩ : ∃ D, D = w.heap.size := ⟨_, rfl⟩
  -- the two blocks that the statement lays: the record of the loop, in whatever state, and the rounds' deferred calls
  obtain ⟨R0, hR⟩ : ∃ R : LoopState → Option Code → Obj, R = fun st j => .loop { state := st, pending := j, fn, tmps := a.tmps, params := #[s1], assign, body, defers := D } := ⟨_, rfl⟩
  have hRc : ∀ st j, (R0 st j).isCells = false := by intro st j; rw [hR]; rfl
  let Bk : LoopState → Option Code → World → Prop := fun st j W => W.heap[D + 1]? = some (R0 st j) ∧ W.heap[D]? = some (.deferred (some []))
  have bk_put : ∀ {st j st' j'} {W : World}, Bk st j W → Bk st' j' (W.putObj (D + 1) (R0 st' j')) := fun {st j st' j' W} h =>
    ⟨World.putObj_heap_same (Array.getElem?_eq_some_iff.1 h.1).1, (World.putObj_heap_other (by omega)).trans h.2⟩
  have tn_put : ∀ {st j st' j'} {W : World}, Bk st j W → Turn D W (W.putObj (D + 1) (R0 st' j')) := fun {st j st' j' W} h => Turn.put h.1 (hRc _ _) (by omega) _
  have bk_keep : ∀ {st j} {W W' : World}, Bk st j W → KeepsFrom D W W' → Bk st j W' := fun {st j W W'} h k => ⟨k.same _ _ (by omega) h.1 (hRc _ _), k.same _ _ (Nat.le_refl _) h.2 rfl⟩
  have ends : ∀ {W : World} (j : Option Code), Bk .busy none W → (Instr.endRound (D + 1) j).run Try.prog W = .ok (.bool j.isNone) (W.putObj (D + 1) (R0 (if j.isNone then .ready else .done) j)) := by
    intro W j h
    have h2 := h.1
    rw [hR] at h2 ⊢
    exact run_endRound j h2
  have out : ∀ {W : World} {st j}, st ≠ .busy → Bk st j W → (Instr.endLoop (D + 1)).run Try.prog W = .ok j (W.putObj (D + 1) (R0 .exhausted j)) := by
    intro W st j hst h
    have h2 := h.1
    rw [hR] at h2 ⊢
    exact run_endLoop h2 hst
  have bk_turn : ∀ {st j} {W W' : World}, Bk st j W → KeepsFrom D W W' → Bk st j W' := bk_keep
  rw [← hD] at hI hIx hbody hdone hstop hgw hP
  obtain ⟨W1, hW1⟩ : ∃ W1, (w.alloc (.deferred (some []))).alloc (R0 .ready none) = W1 := ⟨_, rfl⟩
  have t1 : Turn D w W1 := by
    rw [← hW1]
    exact (Turn.alloc (by omega) _).trans (Turn.alloc (by simp; omega) _)
  have b1 : Bk .ready none W1 := by
    have e1 := World.alloc_heap_new (w.alloc (.deferred (some []))) (R0 .ready none)
    have e2 := (Below.heap_alloc (w.alloc (.deferred (some []))) (R0 .ready none) w.heap.size (by simp)).trans (World.alloc_heap_new w _)
    rw [World.size_alloc, hW1, ← hD] at e1
    rw [hW1, ← hD] at e2
    exact ⟨e1, e2⟩
  refine ⟨D + 1, [{ target := .collected D, args := #[] }], W1, { target := .fn (.func gf) lb, args := #[.func (.yield (D + 1)) #[] #[]] }, W1, gf,
    #[.func (.yield (D + 1)) #[] #[]] ++ lb, W1, ?_, ?_, fun _ _ => trivial, ?_, (fun h => by cases h), ?_⟩
  · rw [← hW1, hR, hD]; exact run_enterLoop_outer _ _ _ _ _
  · simp only [resolve, hg]; simp [go_sem]
  · simp only [invoke]; exact hen _ _
  · refine (hV (n - 1) (by omega) (D + 1) (fun k W => I k W ∧ Bk .ready none W ∧ D + 2 ≤ W.heap.size) (fun W => ∃ j, Ix j W ∧ Bk .done (some j) W ∧ D ≤ W.heap.size)
      (fun k W h => hrd k W h.1) (fun k W W' h t hk => ⟨hP k W W' h.1 t hk (by omega), ⟨(t.block _ (by omega) (by omega)).trans h.2.1.1, (t.block _ (by omega) (by omega)).trans h.2.1.2⟩, by have := t.size; omega⟩) ?_ W1 ⟨hI _ _ _ h0 t1, b1, by rw [← hW1]; simp; omega⟩).mono ?_
    · -- a round
      rintro k v W hk ⟨hi, hb, hsz⟩
      have hy := run_yield (P := Try.prog) (args := #[v]) (l := D + 1) (by have h2 := hb.1; rw [hR] at h2; exact h2) rfl
      have hbr := run_beginRound (P := Try.prog) (l := D + 1) (by have h2 := hb.1; rw [hR] at h2; exact h2) rfl
      refine ⟨fn, _, assign, body, hy, roundIn_of_wpIn hfn ?_⟩
      clear hy
      dsimp only
      rw [zip1]
      refine hassign _ k v W _ hk ?_
      refine ⟨_, hbr, ?_⟩
      clear hbr
      have hb2 : Bk .busy none (W.putObj (D + 1) (R0 .busy none)) := bk_put hb
      have hi2 := hI _ _ _ hi (tn_put (st' := .busy) (j' := none) hb)
      have hwp := hbody (D + 1) k v (W.putObj (D + 1) (R0 .busy none)) hk hi2 (by simp; omega)
      rw [hR] at hwp
      refine wpIn_mono hwp ?_
      rintro e a3 W3 hp
      have fin : ∀ (j : Option Code), KeepsFrom D (W.putObj (D + 1) (R0 .busy none)) W3 → (Instr.endRound (D + 1) j).run Try.prog W3 = .ok (.bool j.isNone) (W3.putObj (D + 1) (R0 (if j.isNone then .ready else .done) j)) ∧
          Bk (if j.isNone then .ready else .done) j (W3.putObj (D + 1) (R0 (if j.isNone then .ready else .done) j)) ∧ Turn D W3 (W3.putObj (D + 1) (R0 (if j.isNone then .ready else .done) j)) ∧ D + 2 ≤ (W3.putObj (D + 1) (R0 (if j.isNone then .ready else .done) j)).heap.size := fun j hkf => by
        have hb3 := bk_keep hb2 hkf
        refine ⟨ends j hb3, bk_put hb3, tn_put hb3, ?_⟩
        have := hkf.size
        simp at this ⊢
        omega
      have key : ∀ {W4 : World}, KeepsFrom D (W.putObj (D + 1) ((fun st j => Obj.loop { state := st, pending := j, fn, tmps := a.tmps, params := #[s1], assign, body, defers := D }) .busy none)) W4 → KeepsFrom D (W.putObj (D + 1) (R0 .busy none)) W4 := by
        intro W4 h; rw [hR]; exact h
      cases e with
      | normal =>
        obtain ⟨hkf, hq⟩ := hp
        obtain ⟨f1, f2, f3, f4⟩ := fin none (key hkf)
        exact ⟨_, _, f1, .inl ⟨rfl, hI _ _ _ hq f3, f2, f4⟩⟩
      | ret =>
        obtain ⟨hkf, hq⟩ := hp
        obtain ⟨f1, f2, f3, f4⟩ := fin (some .ret) (key hkf)
        exact ⟨_, _, f1, .inr ⟨rfl, .ret, hIx _ _ _ hq f3, f2, by omega⟩⟩
      | exit id =>
        obtain ⟨hkf, hq⟩ := hp
        obtain ⟨f1, f2, f3, f4⟩ := fin (some (.exit id)) (key hkf)
        exact ⟨_, _, f1, .inr ⟨rfl, .exit id, hIx _ _ _ hq f3, f2, by omega⟩⟩
      | goto t => exact hp.elim
      | panic ch => exact hp.elim
      | outgrown => exact hp.elim
    · rintro e W2 ⟨⟨v, rfl⟩, ⟨hi, hb, _⟩ | ⟨j, hi, hb, _⟩⟩
      · exact ⟨none, _, out (by simp) hb, hdone _ (hI _ _ _ hi (tn_put hb)) (bk_put (st' := .exhausted) (j' := none) hb).2⟩
      · exact ⟨some j, _, out (by simp) hb, hstop j _ (hIx _ _ _ hi (tn_put hb)) (bk_put (st' := .exhausted) (j' := some j) hb).2⟩
end Go.Proofs.Ytikfjbomogekbaa.Pt
