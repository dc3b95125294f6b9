/- Of the program and its document, joined: PtVisit, PtList. -/
import Derived.Test.YtiapokojlkdddaaGreatPk05
import Derived.Test.YtiapokojlkdddaaGreatPk12
/- A range over a function that has one loop variable: what a visitor owes, and a law for the statement: an invariant by how many were visited. -/
namespace Go.Proofs.YtiapokojlkdddaaGreat.Pt
open Go.RowKit Go.Shelf Poly GF
attribute [local go_sem] Oper.semAt_some

/-- The visitor gf, what it has captured lb: it hands these values to the loop, one after the other; below the heap's size it turns but the block g; Kp is what it reads. -/
def Visits (gf : Nat) (lb : Array Value) (g : Nat) (Kp : World → Prop) (vals : List Value) : Prop :=
  ∀ (n : Nat) (_ : 1 ≤ n) (l : Nat) (J : Nat → World → Prop) (Jx : World → Prop)
    (_ : ∀ k W, J k W → Kp W) (_ : ∀ k W W', J k W → Past W.heap.size g W W' → Kp W' → J k W')
    (_ : ∀ k v W, vals[k]? = some v → J k W → YieldAt Fence.wide (n - 1) Tryz.prog l #[v] W fun e W' =>
      (e = .returned (.bool true) ∧ J (k + 1) W') ∨ (e = .returned (.bool false) ∧ Jx W'))
    (W : World) (_ : J 0 W),
    CallsIn Fence.wide n Tryz.prog gf (#[.func (.yield l) #[] #[]] ++ lb) W fun e W' => (∃ v, e = .returned v) ∧ (J vals.length W' ∨ Jx W')
theorem zip1 (s1 : Tmp) (u : Value) (t : Array Value) :
    Array.foldl (fun (tmps : Array Value) (x : Tmp × Value) => match x with | (t, a) => tmps.setIfInBounds t a) t ((#[s1] : Array Tmp).zip #[u]) = t.setIfInBounds s1 u := by simp

/-- How the body of a round may be left, and the invariant then. -/
def RowPost (B : Nat) (I : World → Prop) (Ix : Code → World → Prop) (W : World) : Exit → Act → World → Prop
  | .normal, _, W' => KeepsFrom B W W' ∧ I W'
  | .ret, _, W' => KeepsFrom B W W' ∧ Ix .ret W'
  | .exit id, _, W' => KeepsFrom B W W' ∧ Ix (.exit id) W'
  | _, _, _ => False

set_option maxRecDepth 100000 in
set_option maxHeartbeats 2000000 in
/-- THE STATEMENT 'for v := range visit { .. }': an invariant by how many were visited. -/
theorem wpIn_visits {n : Nat} (h1 : 3 ≤ n) {gop : Operand} {s1 : Tmp} {assign body : Code} {Q : Exit → Act → World → Prop} {a : Act} {w : World} {gf g : Nat} {lb : Array Value} {Kp : World → Prop} {vals : List Value}
    (hV : Visits gf lb g Kp vals) (hgw : g < w.heap.size)
    (hen : ∀ args W, (callFunc gf args).run Tryz.prog W = .ok (.enter gf args) W) (hg : a.eval gop = .func (.func gf) #[] lb)
    (I : Nat → World → Prop) (Ix : Code → World → Prop)
    (hI : ∀ k W W', I k W → Turn w.heap.size W W' → I k W') (hIx : ∀ c W W', Ix c W → Turn w.heap.size W W' → Ix c W')
    (hrd : ∀ k W, I k W → Kp W) (hP : ∀ k W W', I k W → Past W.heap.size g W W' → Kp W' → w.heap.size ≤ W.heap.size → I k W')
    (h0 : I 0 w) (a₁ : Value → Act)
    (hassign : ∀ (l k : Nat) (v : Value) (W : World) (K : Act → World → Prop), vals[k]? = some v → K (a₁ v) W →
      assign.wpIn (Fence.wide.inRound l) (n - 1 - 1) Tryz.prog (Exit.then K (fun _ _ _ => False)) { tmps := a.tmps.setIfInBounds s1 v, defers := [] } W)
    (hbody : ∀ (l k : Nat) (v : Value) (W : World), vals[k]? = some v → I k W → w.heap.size ≤ W.heap.size → body.wpIn (Fence.wide.inRound l) (n - 1 - 1) Tryz.prog (RowPost w.heap.size (I (k + 1)) Ix W) (a₁ v) W)
    (hdone : ∀ (W : World), I vals.length W → W.heap[w.heap.size]? = some (.deferred (some [])) → Q .normal { a with defers := { target := .collected w.heap.size, args := #[] } :: a.defers } W)
    (hstop : ∀ (c : Code) (W : World), Ix c W → W.heap[w.heap.size]? = some (.deferred (some [])) → c.wpIn Fence.wide n Tryz.prog Q { a with defers := { target := .collected w.heap.size, args := #[] } :: a.defers } W) :
    (Code.rangeFunc gop #[s1] assign body).wpIn Fence.wide n Tryz.prog Q a w := by
  refine wpIn_rangeFunc fun fn hfn => ?_
  obtain ⟨D, hD⟩ : ∃ D, D = w.heap.size := ⟨_, rfl⟩
  -- the two blocks that the statement lays: the record of the loop, in whatever state, and the rounds' deferred calls
  obtain ⟨R0, hR⟩ : ∃ R : LoopState → Option Code → Obj, R = fun st j => .loop { state := st, pending := j, fn, tmps := a.tmps, params := #[s1], assign, body, defers := D } := ⟨_, rfl⟩
  have hRc : ∀ st j, (R0 st j).isCells = false := by intro st j; rw [hR]; rfl
  let Bk : LoopState → Option Code → World → Prop := fun st j W => W.heap[D + 1]? = some (R0 st j) ∧ W.heap[D]? = some (.deferred (some []))
  have bk_put : ∀ {st j st' j'} {W : World}, Bk st j W → Bk st' j' (W.putObj (D + 1) (R0 st' j')) := fun {st j st' j' W} h =>
    ⟨World.putObj_heap_same (Array.getElem?_eq_some_iff.1 h.1).1, (World.putObj_heap_other (by omega)).trans h.2⟩
  have tn_put : ∀ {st j st' j'} {W : World}, Bk st j W → Turn D W (W.putObj (D + 1) (R0 st' j')) := fun {st j st' j' W} h => Turn.put h.1 (hRc _ _) (by omega) _
  have bk_keep : ∀ {st j} {W W' : World}, Bk st j W → KeepsFrom D W W' → Bk st j W' := fun {st j W W'} h k => ⟨k.same _ _ (by omega) h.1 (hRc _ _), k.same _ _ (Nat.le_refl _) h.2 rfl⟩
  have ends : ∀ {W : World} (j : Option Code), Bk .busy none W → (Instr.endRound (D + 1) j).run Tryz.prog W = .ok (.bool j.isNone) (W.putObj (D + 1) (R0 (if j.isNone then .ready else .done) j)) := by
    intro W j h
    have h2 := h.1
    rw [hR] at h2 ⊢
    exact run_endRound j h2
  have out : ∀ {W : World} {st j}, st ≠ .busy → Bk st j W → (Instr.endLoop (D + 1)).run Tryz.prog W = .ok j (W.putObj (D + 1) (R0 .exhausted j)) := by
    intro W st j hst h
    have h2 := h.1
    rw [hR] at h2 ⊢
    exact run_endLoop h2 hst
  have bk_turn : ∀ {st j} {W W' : World}, Bk st j W → KeepsFrom D W W' → Bk st j W' := bk_keep
  rw [← hD] at hI hIx hbody hdone hstop hgw hP
  obtain ⟨W1, hW1⟩ : ∃ W1, (w.alloc (.deferred (some []))).alloc (R0 .ready none) = W1 := ⟨_, rfl⟩
  have t1 : Turn D w W1 := by
    rw [← hW1]
    exact (Turn.alloc (by omega) _).trans (Turn.alloc (by simp; omega) _)
  have b1 : Bk .ready none W1 := by
    have e1 := World.alloc_heap_new (w.alloc (.deferred (some []))) (R0 .ready none)
    have e2 := (Below.heap_alloc (w.alloc (.deferred (some []))) (R0 .ready none) w.heap.size (by simp)).trans (World.alloc_heap_new w _)
    rw [World.size_alloc, hW1, ← hD] at e1
    rw [hW1, ← hD] at e2
    exact ⟨e1, e2⟩
  refine ⟨D + 1, [{ target := .collected D, args := #[] }], W1, { target := .fn (.func gf) lb, args := #[.func (.yield (D + 1)) #[] #[]] }, W1, gf,
    #[.func (.yield (D + 1)) #[] #[]] ++ lb, W1, ?_, ?_, fun _ _ => trivial, ?_, (fun h => by cases h), ?_⟩
  · rw [← hW1, hR, hD]; exact run_enterLoop_outer _ _ _ _ _
  · simp only [resolve, hg]; simp [go_sem]
  · simp only [invoke]; exact hen _ _
  · refine (hV (n - 1) (by omega) (D + 1) (fun k W => I k W ∧ Bk .ready none W ∧ D + 2 ≤ W.heap.size) (fun W => ∃ j, Ix j W ∧ Bk .done (some j) W ∧ D ≤ W.heap.size)
      (fun k W h => hrd k W h.1) (fun k W W' h t hk => ⟨hP k W W' h.1 t hk (by omega), ⟨(t.block _ (by omega) (by omega)).trans h.2.1.1, (t.block _ (by omega) (by omega)).trans h.2.1.2⟩, by have := t.size; omega⟩) ?_ W1 ⟨hI _ _ _ h0 t1, b1, by rw [← hW1]; simp; omega⟩).mono ?_
    · -- a round
      rintro k v W hk ⟨hi, hb, hsz⟩
      have hy := run_yield (P := Tryz.prog) (args := #[v]) (l := D + 1) (by have h2 := hb.1; rw [hR] at h2; exact h2) rfl
      have hbr := run_beginRound (P := Tryz.prog) (l := D + 1) (by have h2 := hb.1; rw [hR] at h2; exact h2) rfl
      refine ⟨fn, _, assign, body, hy, roundIn_of_wpIn hfn ?_⟩
      clear hy
      dsimp only
      rw [zip1]
      refine hassign _ k v W _ hk ?_
      refine ⟨_, hbr, ?_⟩
      clear hbr
      have hb2 : Bk .busy none (W.putObj (D + 1) (R0 .busy none)) := bk_put hb
      have hi2 := hI _ _ _ hi (tn_put (st' := .busy) (j' := none) hb)
      have hwp := hbody (D + 1) k v (W.putObj (D + 1) (R0 .busy none)) hk hi2 (by simp; omega)
      rw [hR] at hwp
      refine wpIn_mono hwp ?_
      rintro e a3 W3 hp
      have fin : ∀ (j : Option Code), KeepsFrom D (W.putObj (D + 1) (R0 .busy none)) W3 → (Instr.endRound (D + 1) j).run Tryz.prog W3 = .ok (.bool j.isNone) (W3.putObj (D + 1) (R0 (if j.isNone then .ready else .done) j)) ∧
          Bk (if j.isNone then .ready else .done) j (W3.putObj (D + 1) (R0 (if j.isNone then .ready else .done) j)) ∧ Turn D W3 (W3.putObj (D + 1) (R0 (if j.isNone then .ready else .done) j)) ∧ D + 2 ≤ (W3.putObj (D + 1) (R0 (if j.isNone then .ready else .done) j)).heap.size := fun j hkf => by
        have hb3 := bk_keep hb2 hkf
        refine ⟨ends j hb3, bk_put hb3, tn_put hb3, ?_⟩
        have := hkf.size
        simp at this ⊢
        omega
      have key : ∀ {W4 : World}, KeepsFrom D (W.putObj (D + 1) ((fun st j => Obj.loop { state := st, pending := j, fn, tmps := a.tmps, params := #[s1], assign, body, defers := D }) .busy none)) W4 → KeepsFrom D (W.putObj (D + 1) (R0 .busy none)) W4 := by
        intro W4 h; rw [hR]; exact h
      cases e with
      | normal =>
        obtain ⟨hkf, hq⟩ := hp
        obtain ⟨f1, f2, f3, f4⟩ := fin none (key hkf)
        exact ⟨_, _, f1, .inl ⟨rfl, hI _ _ _ hq f3, f2, f4⟩⟩
      | ret =>
        obtain ⟨hkf, hq⟩ := hp
        obtain ⟨f1, f2, f3, f4⟩ := fin (some .ret) (key hkf)
        exact ⟨_, _, f1, .inr ⟨rfl, .ret, hIx _ _ _ hq f3, f2, by omega⟩⟩
      | exit id =>
        obtain ⟨hkf, hq⟩ := hp
        obtain ⟨f1, f2, f3, f4⟩ := fin (some (.exit id)) (key hkf)
        exact ⟨_, _, f1, .inr ⟨rfl, .exit id, hIx _ _ _ hq f3, f2, by omega⟩⟩
      | goto t => exact hp.elim
      | panic ch => exact hp.elim
      | outgrown => exact hp.elim
    · rintro e W2 ⟨⟨v, rfl⟩, ⟨hi, hb, _⟩ | ⟨j, hi, hb, _⟩⟩
      · exact ⟨none, _, out (by simp) hb, hdone _ (hI _ _ _ hi (tn_put hb)) (bk_put (st' := .exhausted) (j' := none) hb).2⟩
      · exact ⟨some j, _, out (by simp) hb, hstop j _ (hIx _ _ _ hi (tn_put hb)) (bk_put (st' := .exhausted) (j' := some j) hb).2⟩
end Go.Proofs.YtiapokojlkdddaaGreat.Pt

/- What the program's list does: what a visitor hands on, in a slice of its own. -/
namespace Go.Proofs.YtiapokojlkdddaaGreat.Pt
open Go.RowKit Go.Shelf Poly GF
attribute [local go_sem] Oper.semAt_some

theorem wpListIn_app {P : Program} (w : World) {l n : Nat} {ops : Array Oper} {rest : List Oper} {o : Oper} {a : Act} {Q : Exit → Act → World → Prop} (hgd : o.guard = none) (s x : Operand) (t : TypeId)
    (ho : o.op = .call { callee := .builtin .append, args := #[s, x], argTypes := #[t, t] })
    (B : Nat) (e : TypeId) (z : Value) (bytes : Nat) (ht : P.underlying t = some (.slice e)) (hinfo : (P.info? e).map (fun i => (i.zero, i.size, i.bytes)) = some (some z, 1, bytes)) (hz : z.cells.size = 1) (hb : 0 < bytes)
    (v : Value) (xs : List Value) (hs : a.eval s = v) (hown : Own w B e v xs) (A : Option Addr) (m c : Nat) (ys : List Value) (hx : a.eval x = .slice A m c) (hm : ys.length = m) (hr : Row w A ys) (h1 : ∀ u ∈ ys, u.oneCell' = true)
    (hlen : (xs.length + m) * bytes ≤ 140737488355328) (hB : B ≤ w.heap.size)
    (h : ∀ v' w', Own w' B e v' (xs ++ ys) → w.grownBy w' v.ownBlock → (v'.ownBlock = v.ownBlock ∨ v'.ownBlock = some w.heap.size) → wpListIn (Fence.wide.inRound l) n P ops Q rest (a.put o.dst v') w') : wpListIn (Fence.wide.inRound l) n P ops Q (o :: rest) a w :=
  wpListIn_plain hgd fun _ hK => oper_round (by rw [ho]; intro c hc; cases hc) (wp_app w s x t ho B e z bytes ht hinfo hz hb v xs hs hown A m c ys hx hm hr h1 hlen hB fun v' w' h2 h3 h4 => hK _ _ (h v' w' h2 h3 h4))

/-- Numbers as values. -/
def nv (l : List Nat) : List Value := l.map fun n : Nat => Value.int .i64 (n : Int)
theorem nv_length (l : List Nat) : (nv l).length = l.length := by simp [nv]
theorem info_b : (Tryz.prog.info? 5).map (fun i => (i.zero, i.size, i.bytes)) = some (some (.int .u8 0), 1, 1) := by kernel_rfl
theorem info_i : (Tryz.prog.info? 3).map (fun i => (i.zero, i.size, i.bytes)) = some (some (.int .i64 0), 1, 8) := by kernel_rfl
/-- What a slice variable holds. -/
def Held (W : World) (B bx : Nat) (st e : TypeId) (xs : List Value) : Prop := ∃ v, Block W bx st #[v] ∧ Own W B e v xs ∧ v.ownBlock ≠ some bx
theorem keeps_grown {W W' : World} {B l : Nat} {e : TypeId} {v : Value} {xs : List Value} (h : Own W B e v xs) (hg : W.grownBy W' v.ownBlock) : KeepsFrom l W W' := by
  obtain ⟨os, tape, output, size, hk⟩ := hg
  refine ⟨size, fun k o _ h1 ho => (hk k (Array.getElem?_eq_some_iff.1 h1).1 fun e => ?_).trans h1⟩
  rcases h.2 with ⟨rfl, _⟩ | ⟨g, cap, cur, rfl, _, h3, _⟩
  · cases e
  · have e2 : g = k := by simpa [Value.ownBlock] using e.symm
    subst e2
    rw [h3] at h1
    cases h1
    cases ho
theorem bv_cells (l : List Nat) : ∀ u ∈ bv l, u.oneCell' = true := bv_one l
theorem nv_cells (l : List Nat) : ∀ u ∈ nv l, u.oneCell' = true := by
  intro u hu; obtain ⟨n, _, rfl⟩ := List.mem_map.1 hu; rfl
theorem block_grown {w w' : World} {b : Nat} {t : TypeId} {cs : Array Value} {row : Option Nat} (h : Block w b t cs) (hg : w.grownBy w' row) (hn : row ≠ some b) : Block w' b t cs := by
  obtain ⟨_, _, _, _, hk⟩ := hg
  exact (hk b h.lt (fun e => hn e.symm)).trans h
theorem nv_get (l : List Nat) (k : Nat) (hk : k < (nv l).length) : (nv l)[k] = .int .i64 ((l[k]'(by rwa [nv_length] at hk) : Nat) : Int) := by simp [nv]
set_option maxRecDepth 100000 in
set_option maxHeartbeats 2000000 in
theorem listB_calls (gf g : Nat) (lb : Array Value) (Kp : World → Prop) (l : List Nat) (hlen : l.length ≤ 1000000) (w : World) (hV : Visits gf lb g Kp (bv l)) (hen : ∀ args W, (callFunc gf args).run Tryz.prog W = .ok (.enter gf args) W)
    (hgw : g < w.heap.size) (hKp : ∀ W W', Kp W → Below w.heap.size W W' → Kp W') (h0 : Kp w) :
    Calls Tryz.prog 156 #[.func (.func gf) #[] lb] w fun e w' => ∃ v, e = .returned v ∧ Own w' w.heap.size 5 v (bv l) ∧ Past w.heap.size g w w' ∧ Kp w' := by
  refine (callsIn_wide (n := 9)).1 (callsIn_of_wp_marks Tryz.func156 rfl trivial ?_ rfl)
  simp only [Tryz.ntmps156, List.size_toArray, List.length_cons, List.length_nil, Nat.reduceAdd, Nat.reduceSub, Array.replicate_succ, Array.replicate_zero, List.push_toArray, List.append_toArray, List.nil_append, List.cons_append]
  refine wpIn_wide.2 ?_
  go_wp2_with fail
  refine wpIn_wide.1 (wpIn_visits (n := 9) (by omega) hV (by simp; omega) hen rfl
    (fun k W => Kp W ∧ Past w.heap.size g w W ∧ Held W w.heap.size w.heap.size 22 5 ((bv l).take k))
    (fun _ _ => False)
    (fun k W W' ⟨h1, h2, v, h3, h4, h5⟩ t => ⟨hKp _ _ h1 (t.below.mono (by simp)), t.past h2 (by simp), v, t.block h3, t.own h4, h5⟩)
    (fun _ _ _ h _ => h)
    (fun k W h => h.1)
    (fun k W W' ⟨h1, h2, v, h3, h4, h5⟩ t hk hs => by
      simp only [World.size_alloc] at hs
      refine ⟨hk, h2.trans (t.mono (by omega)), v, h3.past t h3.lt (by omega), ?_, h5⟩
      refine h4.grown (row := some g) ⟨t.os, t.tape, t.output, t.size, fun k hk hne => t.block k hk (by simpa using hne)⟩ (.inr ?_)
      intro e
      have := h4.lt g e
      omega)
    ⟨hKp _ _ h0 ((Below.refl _ w).alloc (Nat.le_refl _) _), Past.of_below ((Below.refl _ w).alloc (Nat.le_refl _) _) g, .slice none 0 0, Block.new _ _ _, Own.nil _ _ _, by simp [Value.ownBlock]⟩
    ?a1 ?assign ?body ?done (fun _ _ h => h.elim))
  case assign =>
    intro l k v W K hk hK
    gi_wp2
    exact hK
  case body =>
    rintro l' k v W hk ⟨k1, k2, v0, k3, k4, k5⟩ hsz
    simp only [World.size_alloc] at hsz
    obtain ⟨hkl, hkv⟩ := List.getElem?_eq_some_iff.1 hk
    obtain ⟨x, rfl⟩ : ∃ x : Int, v = .int .u8 x := ⟨_, by rw [← hkv, bv_get]⟩
    have htk : (bv l).take (k + 1) = (bv l).take k ++ [.int .u8 x] := by rw [take_succ' _ hkl, hkv]
    obtain ⟨A, c, rfl, hrow, _⟩ := k4.form
    have hc := k3.cell 0
    have hf := k3.frozen 0
    have hm : ((bv l).take k).length ≤ l.length := by rw [List.length_take, bv_length]; omega
    obtain ⟨m, hmm⟩ : ∃ m, ((bv l).take k).length = m := ⟨_, rfl⟩
    rw [hmm] at hm hc k5 k4 k3
    have HM := Lib.hid hmm
    clear hmm
    gi_wp2_with (gi_at_builtin; refine wpListIn_app _ rfl _ _ 22 rfl w.heap.size 5 (.int .u8 0) 1 Tryz.underlying22 info_b rfl (by decide) _ _ rfl (k4.alloc _) _ 1 1 [.int .u8 x] rfl rfl (Row.new _ _ _ _) (by intro u hu; obtain rfl := List.mem_singleton.1 hu; rfl) (by rw [HM.out]; omega) (by simp; omega) ?_; rintro v2 w2 hO hgr hb; replace hgr : (W.alloc _).grownBy w2 (Value.slice A m c).ownBlock := hgr; replace hb : _ = (Value.slice A m c).ownBlock ∨ _ := hb; have hbx := block_grown (k3.alloc _) hgr k5; have hc2 := hbx.cell 0; have hf2 := hbx.frozen 0; obtain ⟨A2, c2, rfl, _, _⟩ := hO.form; generalize hn2 : (List.take k (bv l) ++ [Value.int .u8 x]).length = n2 at hO hb ⊢)
    have hne : (Value.slice A2 n2 c2).ownBlock ≠ some w.heap.size := by
      rcases hb with e | e
      · rw [e]; exact k5
      · rw [e]; simp; omega
    have hbel : Below w.heap.size W (w2.setCell ⟨w.heap.size, 0, none⟩ (.slice A2 n2 c2)) :=
      (((Below.refl _ W).alloc (by omega) _).trans ((k4.alloc _).grew (by simp; omega) hgr)).setCell (p := ⟨w.heap.size, 0, none⟩) (Nat.le_refl _) _
    refine ⟨((KeepsOthers.alloc _ _).from _).trans ((keeps_grown (k4.alloc _) hgr).trans ((KeepsOthers.setCell _ _ _).from _)), hKp _ _ k1 hbel, k2.trans (Past.of_below hbel g), _, hbx.set_ 0 _, ?_, hne⟩
    rw [htk]
    exact hO.far (by exact hne) _
  case done =>
    rintro W ⟨k1, k2, v, k3, k4, k5⟩ hD
    rw [List.take_length] at k4
    obtain ⟨A, c, rfl, hrow, _⟩ := k4.form
    have hc := k3.cell 0
    have hf := k3.frozen 0
    generalize hn2 : (bv l).length = m at *
    go_wp2
    refine ⟨by simp, .inl ⟨_, _, rfl, run_takeDeferred hD, ?_⟩⟩
    have ht : Turn w.heap.size W _ := Turn.put hD rfl (by simp) (.deferred none)
    exact ⟨.slice A m c, by simp [results, Tryz.results156, go_sem], _, rfl, ht.own k4, ht.past k2 (Nat.le_refl _), hKp _ _ k1 ht.below⟩
end Go.Proofs.YtiapokojlkdddaaGreat.Pt
