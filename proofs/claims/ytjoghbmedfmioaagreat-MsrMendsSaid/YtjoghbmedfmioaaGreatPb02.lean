/- Of the program, joined: PtVisit, Round, PtList, GfMath2, F8, PolyMath, GfRef. -/
import Derived.Test.YtjoghbmedfmioaaGreatPb01
import Derived.RangeFuncOwn
import Derived.StillTailTactics
import Derived.OrdersIn
import Derived.OrdersHeld
import Derived.Deep.RegionHeld3
import Derived.RegionTactic
import Derived.Test.YtjoghbmedfmioaaGreatRows
namespace Go.Proofs.YtjoghbmedfmioaaGreat.Pt
open Go.RowKit Go.Shelf Poly GF
attribute [local go_sem] Oper.semAt_some
def Visits (gf : Nat) (lb : Array Value) (g : Nat) (Kp : World → Prop) (vals : List Value) : Prop :=
 ∀ (n : Nat) (_ : 1 ≤ n) (l : Nat) (J : Nat → World → Prop) (Jx : World → Prop)
  (_ : ∀ k W, J k W → Kp W) (_ : ∀ k W W', J k W → Past W.heap.size g W W' → Kp W' → J k W')
  (_ : ∀ k v W, vals[k]? = some v → J k W → YieldAt Fence.wide (n - 1) Tryz.prog l #[v] W fun e W' =>
   (e = .returned (.bool true) ∧ J (k + 1) W') ∨ (e = .returned (.bool false) ∧ Jx W'))
  (W : World) (_ : J 0 W),
  CallsIn Fence.wide n Tryz.prog gf (#[.func (.yield l) #[] #[]] ++ lb) W fun e W' => (∃ v, e = .returned v) ∧ (J vals.length W' ∨ Jx W')
theorem zip1 (s1 : Tmp) (u : Value) (t : Array Value) :
  Array.foldl (fun (tmps : Array Value) (x : Tmp × Value) => match x with | (t, a) => tmps.setIfInBounds t a) t ((#[s1] : Array Tmp).zip #[u]) = t.setIfInBounds s1 u := by simp
def RowPost (B : Nat) (I : World → Prop) (Ix : Code → World → Prop) (W : World) : Exit → Act → World → Prop
 | .normal, _, W' => KeepsFrom B W W' ∧ I W'
 | .ret, _, W' => KeepsFrom B W W' ∧ Ix .ret W'
 | .exit id, _, W' => KeepsFrom B W W' ∧ Ix (.exit id) W'
 | _, _, _ => False
set_option maxRecDepth 100000 in
set_option maxHeartbeats 2000000 in
theorem wpIn_visits {n : Nat} (h1 : 3 ≤ n) {gop : Operand} {s1 : Tmp} {assign body : Code} {Q : Exit → Act → World → Prop} {a : Act} {w : World} {gf g : Nat} {lb : Array Value} {Kp : World → Prop} {vals : List Value}
  (hV : Visits gf lb g Kp vals) (hgw : g < w.heap.size)
  (hen : ∀ args W, (callFunc gf args).run Tryz.prog W = .ok (.enter gf args) W) (hg : a.eval gop = .func (.func gf) #[] lb)
  (I : Nat → World → Prop) (Ix : Code → World → Prop)
  (hI : ∀ k W W', I k W → Turn w.heap.size W W' → I k W') (hIx : ∀ c W W', Ix c W → Turn w.heap.size W W' → Ix c W')
  (hrd : ∀ k W, I k W → Kp W) (hP : ∀ k W W', I k W → Past W.heap.size g W W' → Kp W' → w.heap.size ≤ W.heap.size → I k W')
  (h0 : I 0 w) (a₁ : Value → Act)
  (hassign : ∀ (l k : Nat) (v : Value) (W : World) (K : Act → World → Prop), vals[k]? = some v → K (a₁ v) W →
   assign.wpIn (Fence.wide.inRound l) (n - 1 - 1) Tryz.prog (Exit.then K (fun _ _ _ => False)) { tmps := a.tmps.setIfInBounds s1 v, defers := [] } W)
  (hbody : ∀ (l k : Nat) (v : Value) (W : World), vals[k]? = some v → I k W → w.heap.size ≤ W.heap.size → body.wpIn (Fence.wide.inRound l) (n - 1 - 1) Tryz.prog (RowPost w.heap.size (I (k + 1)) Ix W) (a₁ v) W)
  (hdone : ∀ (W : World), I vals.length W → W.heap[w.heap.size]? = some (.deferred (some [])) → Q .normal { a with defers := { target := .collected w.heap.size, args := #[] } :: a.defers } W)
  (hstop : ∀ (c : Code) (W : World), Ix c W → W.heap[w.heap.size]? = some (.deferred (some [])) → c.wpIn Fence.wide n Tryz.prog Q { a with defers := { target := .collected w.heap.size, args := #[] } :: a.defers } W) :
  (Code.rangeFunc gop #[s1] assign body).wpIn Fence.wide n Tryz.prog Q a w := by
 refine wpIn_rangeFunc fun fn hfn => ?_
 obtain ⟨D, hD⟩ : ∃ D, D = w.heap.size := ⟨_, rfl⟩
 obtain ⟨R0, hR⟩ : ∃ R : LoopState → Option Code → Obj, R = fun st j => .loop { state := st, pending := j, fn, tmps := a.tmps, params := #[s1], assign, body, defers := D } := ⟨_, rfl⟩
 have hRc : ∀ st j, (R0 st j).isCells = false := by intro st j; rw [hR]; rfl
 let Bk : LoopState → Option Code → World → Prop := fun st j W => W.heap[D + 1]? = some (R0 st j) ∧ W.heap[D]? = some (.deferred (some []))
 have bk_put : ∀ {st j st' j'} {W : World}, Bk st j W → Bk st' j' (W.putObj (D + 1) (R0 st' j')) := fun {st j st' j' W} h =>
  ⟨World.putObj_heap_same (Array.getElem?_eq_some_iff.1 h.1).1, (World.putObj_heap_other (by omega)).trans h.2⟩
 have tn_put : ∀ {st j st' j'} {W : World}, Bk st j W → Turn D W (W.putObj (D + 1) (R0 st' j')) := fun {st j st' j' W} h => Turn.put h.1 (hRc _ _) (by omega) _
 have bk_keep : ∀ {st j} {W W' : World}, Bk st j W → KeepsFrom D W W' → Bk st j W' := fun {st j W W'} h k => ⟨k.same _ _ (by omega) h.1 (hRc _ _), k.same _ _ (Nat.le_refl _) h.2 rfl⟩
 have ends : ∀ {W : World} (j : Option Code), Bk .busy none W → (Instr.endRound (D + 1) j).run Tryz.prog W = .ok (.bool j.isNone) (W.putObj (D + 1) (R0 (if j.isNone then .ready else .done) j)) := by
  intro W j h
  have h2 := h.1
  rw [hR] at h2 ⊢
  exact run_endRound j h2
 have out : ∀ {W : World} {st j}, st ≠ .busy → Bk st j W → (Instr.endLoop (D + 1)).run Tryz.prog W = .ok j (W.putObj (D + 1) (R0 .exhausted j)) := by
  intro W st j hst h
  have h2 := h.1
  rw [hR] at h2 ⊢
  exact run_endLoop h2 hst
 have bk_turn : ∀ {st j} {W W' : World}, Bk st j W → KeepsFrom D W W' → Bk st j W' := bk_keep
 rw [← hD] at hI hIx hbody hdone hstop hgw hP
 obtain ⟨W1, hW1⟩ : ∃ W1, (w.alloc (.deferred (some []))).alloc (R0 .ready none) = W1 := ⟨_, rfl⟩
 have t1 : Turn D w W1 := by
  rw [← hW1]
  exact (Turn.alloc (by omega) _).trans (Turn.alloc (by simp; omega) _)
 have b1 : Bk .ready none W1 := by
  have e1 := World.alloc_heap_new (w.alloc (.deferred (some []))) (R0 .ready none)
  have e2 := (Below.heap_alloc (w.alloc (.deferred (some []))) (R0 .ready none) w.heap.size (by simp)).trans (World.alloc_heap_new w _)
  rw [World.size_alloc, hW1, ← hD] at e1
  rw [hW1, ← hD] at e2
  exact ⟨e1, e2⟩
 refine ⟨D + 1, [{ target := .collected D, args := #[] }], W1, { target := .fn (.func gf) lb, args := #[.func (.yield (D + 1)) #[] #[]] }, W1, gf,
  #[.func (.yield (D + 1)) #[] #[]] ++ lb, W1, ?_, ?_, fun _ _ => trivial, ?_, (fun h => by cases h), ?_⟩
 ·rw [← hW1, hR, hD]; exact run_enterLoop_outer _ _ _ _ _
 ·simp only [resolve, hg]; simp [go_sem]
 ·simp only [invoke]; exact hen _ _
 ·refine (hV (n - 1) (by omega) (D + 1) (fun k W => I k W ∧ Bk .ready none W ∧ D + 2 ≤ W.heap.size) (fun W => ∃ j, Ix j W ∧ Bk .done (some j) W ∧ D ≤ W.heap.size)
   (fun k W h => hrd k W h.1) (fun k W W' h t hk => ⟨hP k W W' h.1 t hk (by omega), ⟨(t.block _ (by omega) (by omega)).trans h.2.1.1, (t.block _ (by omega) (by omega)).trans h.2.1.2⟩, by have := t.size; omega⟩) ?_ W1 ⟨hI _ _ _ h0 t1, b1, by rw [← hW1]; simp; omega⟩).mono ?_
  ·
   rintro k v W hk ⟨hi, hb, hsz⟩
   have hy := run_yield (P := Tryz.prog) (args := #[v]) (l := D + 1) (by have h2 := hb.1; rw [hR] at h2; exact h2) rfl
   have hbr := run_beginRound (P := Tryz.prog) (l := D + 1) (by have h2 := hb.1; rw [hR] at h2; exact h2) rfl
   refine ⟨fn, _, assign, body, hy, roundIn_of_wpIn hfn ?_⟩
   clear hy
   dsimp only
   rw [zip1]
   refine hassign _ k v W _ hk ?_
   refine ⟨_, hbr, ?_⟩
   clear hbr
   have hb2 : Bk .busy none (W.putObj (D + 1) (R0 .busy none)) := bk_put hb
   have hi2 := hI _ _ _ hi (tn_put (st' := .busy) (j' := none) hb)
   have hwp := hbody (D + 1) k v (W.putObj (D + 1) (R0 .busy none)) hk hi2 (by simp; omega)
   rw [hR] at hwp
   refine wpIn_mono hwp ?_
   rintro e a3 W3 hp
   have fin : ∀ (j : Option Code), KeepsFrom D (W.putObj (D + 1) (R0 .busy none)) W3 → (Instr.endRound (D + 1) j).run Tryz.prog W3 = .ok (.bool j.isNone) (W3.putObj (D + 1) (R0 (if j.isNone then .ready else .done) j)) ∧
     Bk (if j.isNone then .ready else .done) j (W3.putObj (D + 1) (R0 (if j.isNone then .ready else .done) j)) ∧ Turn D W3 (W3.putObj (D + 1) (R0 (if j.isNone then .ready else .done) j)) ∧ D + 2 ≤ (W3.putObj (D + 1) (R0 (if j.isNone then .ready else .done) j)).heap.size := fun j hkf => by
    have hb3 := bk_keep hb2 hkf
    refine ⟨ends j hb3, bk_put hb3, tn_put hb3, ?_⟩
    have := hkf.size
    simp at this ⊢
    omega
   have key : ∀ {W4 : World}, KeepsFrom D (W.putObj (D + 1) ((fun st j => Obj.loop { state := st, pending := j, fn, tmps := a.tmps, params := #[s1], assign, body, defers := D }) .busy none)) W4 → KeepsFrom D (W.putObj (D + 1) (R0 .busy none)) W4 := by
    intro W4 h; rw [hR]; exact h
   cases e with
   | normal =>
    obtain ⟨hkf, hq⟩ := hp
    obtain ⟨f1, f2, f3, f4⟩ := fin none (key hkf)
    exact ⟨_, _, f1, .inl ⟨rfl, hI _ _ _ hq f3, f2, f4⟩⟩
   | ret =>
    obtain ⟨hkf, hq⟩ := hp
    obtain ⟨f1, f2, f3, f4⟩ := fin (some .ret) (key hkf)
    exact ⟨_, _, f1, .inr ⟨rfl, .ret, hIx _ _ _ hq f3, f2, by omega⟩⟩
   | exit id =>
    obtain ⟨hkf, hq⟩ := hp
    obtain ⟨f1, f2, f3, f4⟩ := fin (some (.exit id)) (key hkf)
    exact ⟨_, _, f1, .inr ⟨rfl, .exit id, hIx _ _ _ hq f3, f2, by omega⟩⟩
   | goto t => exact hp.elim
   | panic ch => exact hp.elim
   | outgrown => exact hp.elim
  ·rintro e W2 ⟨⟨v, rfl⟩, ⟨hi, hb, _⟩ | ⟨j, hi, hb, _⟩⟩
   ·exact ⟨none, _, out (by simp) hb, hdone _ (hI _ _ _ hi (tn_put hb)) (bk_put (st' := .exhausted) (j' := none) hb).2⟩
   ·exact ⟨some j, _, out (by simp) hb, hstop j _ (hIx _ _ _ hi (tn_put hb)) (bk_put (st' := .exhausted) (j' := some j) hb).2⟩
end Go.Proofs.YtjoghbmedfmioaaGreat.Pt

namespace Go.Proofs.YtjoghbmedfmioaaGreat.Poly
open Go.RowKit
def noDefer (ops : Array Oper) : Bool := ops.all fun o => match o.op with | .defer _ => false | _ => true
theorem noDefer_spec {ops : Array Oper} (h : noDefer ops = true) {i : Nat} {o : Oper} (ho : ops[i]? = some o) (c : Call) : o.op ≠ .defer c := by
 intro e
 have h1 := (Array.all_eq_true_iff_forall_mem.1 h) o (Array.mem_of_getElem? ho)
 rw [e] at h1
 cases h1
section
variable {P : Program} {ops : Array Oper} {Q : Exit → Act → World → Prop} {md : Region.Mode} {l n : Nat}
theorem rowsIn_round {row : String} {args : Array Value} {w : World} {R : Value → World → Prop} (h : Rows P row args w R) : RowsIn (Fence.wide.inRound l) n P row args w R :=
 fun c cs _ => let ⟨v, w', h1, h2⟩ := h c cs; ⟨v, w', h1, stepsIn_wide.2 h2⟩
theorem callsIn_round {f : FuncId} {args : Array Value} {w : World} {R : Ending → World → Prop} (h : Calls P f args w R) : CallsIn (Fence.wide.inRound l) n P f args w R :=
 (callsIn_wide.2 h : CallsIn Fence.wide n P f args w R)
theorem oper_round {o : Oper} (hnd : ∀ c, o.op ≠ .defer c) {a : Act} {w : World} {K : Act → World → Prop} (h : o.wp P a w K Q) : o.wpIn (Fence.wide.inRound l) n P a w K Q := by
 refine ⟨fun _ _ => trivial, ?_⟩
 rw [Oper.semAt_eq _ _ _ hnd]
 unfold Oper.wp at h
 generalize (execOp a.eval o).run P w = r at *
 cases r with
 | ok x w' =>
  cases x <;> simp only [Oper.upon, Oper.uponIn] at h ⊢ <;>
   first
    | exact h
    | exact ⟨(fun h => by cases h), callsIn_round h⟩
    | exact ⟨(fun h => by cases h), rowsIn_round h⟩
    | exact h.elim
 | halt x w' => cases x <;> simp only [Oper.upon, Oper.uponIn] at h ⊢ <;> exact h
theorem wpAny_round (hnd : noDefer ops = true) (hlo : ¬ LetsOut Q) : ∀ (fuel : Nat) (listed : Array Bool) (a : Act) (w : World), wpAny P md ops Q fuel listed a w → wpAnyIn (Fence.wide.inRound l) n P md ops Q fuel listed a w
 | 0, _, _, _, h => h
 | fuel + 1, listed, a, w, h => by
  refine ⟨h.1, fun i hi => ?_⟩
  have h1 := h.2 i hi
  unfold wpOp at h1
  unfold wpOpIn
  cases ho : ops[i]? with
  | none => simp only [ho] at h1 ⊢; exact wpAny_round hnd hlo fuel _ _ _ h1
  | some o =>
   simp only [ho] at h1 ⊢
   split
   ·rename_i hw
    rw [if_pos hw] at h1
    rcases h1 with h1 | ⟨_, h1⟩
    ·exact Oper.wpIn_mono (fun a w => wpAny_round hnd hlo fuel _ a w) (oper_round (noDefer_spec hnd ho) h1)
    ·exact (hlo h1).elim
   ·rename_i hw
    rw [if_neg hw] at h1
    exact ⟨fun _ _ => trivial, wpAny_round hnd hlo fuel _ _ _ h1⟩
theorem wpOp_call {i : Nat} {o : Oper} {K : Act → World → Prop} {a : Act} {w : World} (ho : ops[i]? = some o) (hw : Region.wanted o (yielded ops a.tmps) = true) (h : o.wp P a w K Q) : wpOp P ops Q i K a w := by
 unfold wpOp
 simp only [ho, hw, if_true]
 exact .inl h
theorem region_round {id : Nat} {a : Act} {w : World} (hm : P.follows .mixedOrders = true) (hnd : noDefer ops = true) (hlo : ¬ LetsOut Q)
  (h : wpAny P .any ops Q ops.size (Array.replicate ops.size false) a w.drew) : (Code.region id ops true).wpIn (Fence.wide.inRound l) n P Q a w :=
 wpIn_region_any hm (wpAny_round hnd hlo _ _ _ _ h)
theorem region_round_held {S : World → Prop} {id : Nat} {a : Act} {w : World} (hm : P.follows .mixedOrders = true) (hnd : noDefer ops = true) (hlo : ¬ LetsOut Q) (hS : S w.drew)
  (h : S w.drew → wpAnyH P .any ops Q S ops.size (Array.replicate ops.size false) a w.drew) : (Code.region id ops true).wpIn (Fence.wide.inRound l) n P Q a w :=
 region_round hm hnd hlo (wpAny_of_held _ _ _ _ (h hS))
theorem region_round_tail {id : Nat} {a : Act} {w : World} {os : List Oper} (k : Nat) (hm : P.follows .mixedOrders = true) (hB : Region.lexTailB .any os.toArray k = true) (hnd : noDefer os.toArray = true) (hlo : ¬ LetsOut Q)
  (h : wpStill P os.toArray w.drew (fun a' => wpList P os.toArray Q (os.drop k) a' w.drew) (os.take k) a) : (Code.region id os.toArray true).wpIn (Fence.wide.inRound l) n P Q a w := by
 simp only [Region.lexTailB, Bool.and_eq_true, decide_eq_true_eq] at hB
 obtain ⟨⟨⟨⟨hsel, hn⟩, hs⟩, hc⟩, hlex⟩ := hB
 have hn' : k < os.length := by simpa using hn
 have htl : (os.take k).length = k := by simp; omega
 have hdl : (os.drop k).length = os.toArray.size - k := by simp
 have inv0 : HeadInv .any os.toArray k (Array.replicate os.toArray.size false) :=
  ⟨by simp, (fun j oj _ hl => by rw [getD_replicate_false] at hl; cases hl), fun t _ ht => getD_in (by simpa using ht) (getD_replicate_false _ _)⟩
 have H := wpAnyL_lex (md := .any) (g := os.toArray.size - k) hsel hs hc hn (os.take k) 0 _ a (fun j hj => by
  have hj' : j < k := by rw [htl] at hj; exact hj
  simp [hj']) (by simpa using htl) inv0 (by rw [htl]; exact hlex) h
 refine region_round hm hnd hlo ?_
 have := wpAny_of_head (Q' := Q) (g := os.toArray.size - k) (fun listed a' hL => by
  have := wpAny_of_seq (md := .any) (Q' := Q) (os.drop k) k listed a' w.drew (fun j => by simp [List.getElem?_drop]) (by rw [hdl]; exact hL.1) hL.2
  rwa [hdl] at this) _ _ _ H
 rw [htl, show k + (os.toArray.size - k) = os.toArray.size by omega] at this
 exact this
end
end Go.Proofs.YtjoghbmedfmioaaGreat.Poly

namespace Go.Proofs.YtjoghbmedfmioaaGreat.Pt
open Go.RowKit Go.Shelf Poly GF
attribute [local go_sem] Oper.semAt_some
theorem wpListIn_app {P : Program} (w : World) {l n : Nat} {ops : Array Oper} {rest : List Oper} {o : Oper} {a : Act} {Q : Exit → Act → World → Prop} (hgd : o.guard = none) (s x : Operand) (t : TypeId)
  (ho : o.op = .call { callee := .builtin .append, args := #[s, x], argTypes := #[t, t] })
  (B : Nat) (e : TypeId) (z : Value) (bytes : Nat) (ht : P.underlying t = some (.slice e)) (hinfo : (P.info? e).map (fun i => (i.zero, i.size, i.bytes)) = some (some z, 1, bytes)) (hz : z.cells.size = 1) (hb : 0 < bytes)
  (v : Value) (xs : List Value) (hs : a.eval s = v) (hown : Own w B e v xs) (A : Option Addr) (m c : Nat) (ys : List Value) (hx : a.eval x = .slice A m c) (hm : ys.length = m) (hr : Row w A ys) (h1 : ∀ u ∈ ys, u.oneCell' = true)
  (hlen : (xs.length + m) * bytes ≤ 140737488355328) (hB : B ≤ w.heap.size)
  (h : ∀ v' w', Own w' B e v' (xs ++ ys) → w.grownBy w' v.ownBlock → (v'.ownBlock = v.ownBlock ∨ v'.ownBlock = some w.heap.size) → wpListIn (Fence.wide.inRound l) n P ops Q rest (a.put o.dst v') w') : wpListIn (Fence.wide.inRound l) n P ops Q (o :: rest) a w :=
 wpListIn_plain hgd fun _ hK => oper_round (by rw [ho]; intro c hc; cases hc) (wp_app w s x t ho B e z bytes ht hinfo hz hb v xs hs hown A m c ys hx hm hr h1 hlen hB fun v' w' h2 h3 h4 => hK _ _ (h v' w' h2 h3 h4))
theorem info_b : (Tryz.prog.info? 5).map (fun i => (i.zero, i.size, i.bytes)) = some (some (.int .u8 0), 1, 1) := by kernel_rfl
theorem info_i : (Tryz.prog.info? 3).map (fun i => (i.zero, i.size, i.bytes)) = some (some (.int .i64 0), 1, 8) := by kernel_rfl
def Held (W : World) (B bx : Nat) (st e : TypeId) (xs : List Value) : Prop := ∃ v, Block W bx st #[v] ∧ Own W B e v xs ∧ v.ownBlock ≠ some bx
theorem keeps_grown {W W' : World} {B l : Nat} {e : TypeId} {v : Value} {xs : List Value} (h : Own W B e v xs) (hg : W.grownBy W' v.ownBlock) : KeepsFrom l W W' := by
 obtain ⟨os, tape, output, size, hk⟩ := hg
 refine ⟨size, fun k o _ h1 ho => (hk k (Array.getElem?_eq_some_iff.1 h1).1 fun e => ?_).trans h1⟩
 rcases h.2 with ⟨rfl, _⟩ | ⟨g, cap, cur, rfl, _, h3, _⟩
 ·cases e
 ·have e2 : g = k := by simpa [Value.ownBlock] using e.symm
  subst e2
  rw [h3] at h1
  cases h1
  cases ho
theorem block_grown {w w' : World} {b : Nat} {t : TypeId} {cs : Array Value} {row : Option Nat} (h : Block w b t cs) (hg : w.grownBy w' row) (hn : row ≠ some b) : Block w' b t cs := by
 obtain ⟨_, _, _, _, hk⟩ := hg
 exact (hk b h.lt (fun e => hn e.symm)).trans h
set_option maxRecDepth 100000 in
set_option maxHeartbeats 2000000 in
theorem listB_calls (gf g : Nat) (lb : Array Value) (Kp : World → Prop) (l : List Nat) (hlen : l.length ≤ 1000000) (w : World) (hV : Visits gf lb g Kp (bv l)) (hen : ∀ args W, (callFunc gf args).run Tryz.prog W = .ok (.enter gf args) W)
  (hgw : g < w.heap.size) (hKp : ∀ W W', Kp W → Below w.heap.size W W' → Kp W') (h0 : Kp w) :
  Calls Tryz.prog 134 #[.func (.func gf) #[] lb] w fun e w' => ∃ v, e = .returned v ∧ Own w' w.heap.size 5 v (bv l) ∧ Past w.heap.size g w w' ∧ Kp w' := by
 refine (callsIn_wide (n := 9)).1 (callsIn_of_wp_marks Tryz.func134 rfl trivial ?_ rfl)
 simp only [Tryz.ntmps134, List.size_toArray, List.length_cons, List.length_nil, Nat.reduceAdd, Nat.reduceSub, Array.replicate_succ, Array.replicate_zero, List.push_toArray, List.append_toArray, List.nil_append, List.cons_append]
 refine wpIn_wide.2 ?_
 go_wp2_with fail
 refine wpIn_wide.1 (wpIn_visits (n := 9) (by omega) hV (by simp; omega) hen rfl
  (fun k W => Kp W ∧ Past w.heap.size g w W ∧ Held W w.heap.size w.heap.size 34 5 ((bv l).take k))
  (fun _ _ => False)
  (fun k W W' ⟨h1, h2, v, h3, h4, h5⟩ t => ⟨hKp _ _ h1 (t.below.mono (by simp)), t.past h2 (by simp), v, t.block h3, t.own h4, h5⟩)
  (fun _ _ _ h _ => h)
  (fun k W h => h.1)
  (fun k W W' ⟨h1, h2, v, h3, h4, h5⟩ t hk hs => by
   simp only [World.size_alloc] at hs
   refine ⟨hk, h2.trans (t.mono (by omega)), v, h3.past t h3.lt (by omega), ?_, h5⟩
   refine h4.grown (row := some g) ⟨t.os, t.tape, t.output, t.size, fun k hk hne => t.block k hk (by simpa using hne)⟩ (.inr ?_)
   intro e
   have := h4.lt g e
   omega)
  ⟨hKp _ _ h0 ((Below.refl _ w).alloc (Nat.le_refl _) _), Past.of_below ((Below.refl _ w).alloc (Nat.le_refl _) _) g, .slice none 0 0, Block.new _ _ _, Own.nil _ _ _, by simp [Value.ownBlock]⟩
  ?a1 ?assign ?body ?done (fun _ _ h => h.elim))
 case assign =>
  intro l k v W K hk hK
  gi_wp2
  exact hK
 case body =>
  rintro l' k v W hk ⟨k1, k2, v0, k3, k4, k5⟩ hsz
  simp only [World.size_alloc] at hsz
  obtain ⟨hkl, hkv⟩ := List.getElem?_eq_some_iff.1 hk
  obtain ⟨x, rfl⟩ : ∃ x : Int, v = .int .u8 x := ⟨_, by rw [← hkv, bv_get]⟩
  have htk : (bv l).take (k + 1) = (bv l).take k ++ [.int .u8 x] := by rw [take_succ' _ hkl, hkv]
  obtain ⟨A, c, rfl, hrow, _⟩ := k4.form
  have hc := k3.cell 0
  have hf := k3.frozen 0
  have hm : ((bv l).take k).length ≤ l.length := by rw [List.length_take, bv_length]; omega
  obtain ⟨m, hmm⟩ : ∃ m, ((bv l).take k).length = m := ⟨_, rfl⟩
  rw [hmm] at hm hc k5 k4 k3
  have HM := Lib.hid hmm
  clear hmm
  gi_wp2_with (gi_at_builtin; refine wpListIn_app _ rfl _ _ 34 rfl w.heap.size 5 (.int .u8 0) 1 Tryz.underlying34 info_b rfl (by decide) _ _ rfl (k4.alloc _) _ 1 1 [.int .u8 x] rfl rfl (Row.new _ _ _ _) (by intro u hu; obtain rfl := List.mem_singleton.1 hu; rfl) (by rw [HM.out]; omega) (by simp; omega) ?_; rintro v2 w2 hO hgr hb; replace hgr : (W.alloc _).grownBy w2 (Value.slice A m c).ownBlock := hgr; replace hb : _ = (Value.slice A m c).ownBlock ∨ _ := hb; have hbx := block_grown (k3.alloc _) hgr k5; have hc2 := hbx.cell 0; have hf2 := hbx.frozen 0; obtain ⟨A2, c2, rfl, _, _⟩ := hO.form; generalize hn2 : (List.take k (bv l) ++ [Value.int .u8 x]).length = n2 at hO hb ⊢)
  have hne : (Value.slice A2 n2 c2).ownBlock ≠ some w.heap.size := by
   rcases hb with e | e
   ·rw [e]; exact k5
   ·rw [e]; simp; omega
  have hbel : Below w.heap.size W (w2.setCell ⟨w.heap.size, 0, none⟩ (.slice A2 n2 c2)) :=
   (((Below.refl _ W).alloc (by omega) _).trans ((k4.alloc _).grew (by simp; omega) hgr)).setCell (p := ⟨w.heap.size, 0, none⟩) (Nat.le_refl _) _
  refine ⟨((KeepsOthers.alloc _ _).from _).trans ((keeps_grown (k4.alloc _) hgr).trans ((KeepsOthers.setCell _ _ _).from _)), hKp _ _ k1 hbel, k2.trans (Past.of_below hbel g), _, hbx.set_ 0 _, ?_, hne⟩
  rw [htk]
  exact hO.far (by exact hne) _
 case done =>
  rintro W ⟨k1, k2, v, k3, k4, k5⟩ hD
  rw [List.take_length] at k4
  obtain ⟨A, c, rfl, hrow, _⟩ := k4.form
  have hc := k3.cell 0
  have hf := k3.frozen 0
  generalize hn2 : (bv l).length = m at *
  go_wp2
  refine ⟨by simp, .inl ⟨_, _, rfl, run_takeDeferred hD, ?_⟩⟩
  have ht : Turn w.heap.size W _ := Turn.put hD rfl (by simp) (.deferred none)
  exact ⟨.slice A m c, by simp [results, Tryz.results134, go_sem], _, rfl, ht.own k4, ht.past k2 (Nat.le_refl _), hKp _ _ k1 ht.below⟩
end Go.Proofs.YtjoghbmedfmioaaGreat.Pt

namespace Go.Proofs.YtjoghbmedfmioaaGreat.GF
theorem gpow_add {a : Nat} (a0 : a ≠ 0) (m n : Int) : gpow a (m + n) = gm (gpow a m) (gpow a n) := by
 rw [gpow_of a0, gpow_of a0, gpow_of a0, Int.mul_add, ge_add]
theorem ge_log {a : Nat} (ha : a < 256) (a0 : a ≠ 0) : ge (gl a : Int) = a := by rw [ge_nat, gp_gl ha a0]
end Go.Proofs.YtjoghbmedfmioaaGreat.GF

namespace Go.Proofs.YtjoghbmedfmioaaGreat
structure F8 where
 n : Nat
 h : n < 256
namespace F8
theorem ext {a b : F8} (h : a.n = b.n) : a = b := by
 obtain ⟨a, ha⟩ := a; obtain ⟨b, hb⟩ := b; cases h; rfl
theorem n_inj {a b : F8} : a.n = b.n ↔ a = b := ⟨ext, fun h => by rw [h]⟩
instance : DecidableEq F8 := fun a b => if h : a.n = b.n then isTrue (ext h) else isFalse (fun e => h (by rw [e]))
instance : Zero F8 := ⟨⟨0, by decide⟩⟩
instance : One F8 := ⟨⟨1, by decide⟩⟩
instance : Add F8 := ⟨fun a b => ⟨a.n ^^^ b.n, GF.xor_lt a.h b.h⟩⟩
instance : Mul F8 := ⟨fun a b => ⟨GF.gm a.n b.n, GF.gm_lt _ _⟩⟩
instance : Div F8 := ⟨fun a b => ⟨GF.gq a.n b.n, GF.gq_lt _ _⟩⟩
instance : Inhabited F8 := ⟨0⟩
def inv (a : F8) : F8 := 1 / a
theorem n_mul (a b : F8) : (a * b).n = GF.gm a.n b.n := rfl
theorem n_eq_zero {a : F8} : a.n = 0 ↔ a = 0 := n_inj (b := 0)
theorem n_ne_zero {a : F8} : a.n ≠ 0 ↔ a ≠ 0 := not_congr n_eq_zero
theorem add_comm (a b : F8) : a + b = b + a := ext (Nat.xor_comm _ _)
theorem add_assoc (a b c : F8) : a + b + c = a + (b + c) := ext (Nat.xor_assoc _ _ _)
theorem add_zero (a : F8) : a + 0 = a := ext (Nat.xor_zero _)
theorem zero_add (a : F8) : 0 + a = a := ext (Nat.zero_xor _)
theorem add_self (a : F8) : a + a = 0 := ext (Nat.xor_self _)
theorem add_add_self (a b : F8) : a + b + b = a := by rw [add_assoc, add_self, add_zero]
theorem add_self_add (a b : F8) : a + (a + b) = b := by rw [← add_assoc, add_self, zero_add]
theorem add_eq_zero {a b : F8} : a + b = 0 ↔ a = b := ⟨fun h => by rw [← add_add_self a b, h, zero_add], fun h => by rw [h, add_self]⟩
theorem add_right_inj {a b c : F8} : a + c = b + c ↔ a = b := ⟨fun h => by rw [← add_add_self a c, h, add_add_self], fun h => by rw [h]⟩
theorem add_left_inj {a b c : F8} : c + a = c + b ↔ a = b := by rw [add_comm c, add_comm c, add_right_inj]
theorem mul_comm (a b : F8) : a * b = b * a := ext (GF.gm_comm _ _)
theorem mul_assoc (a b c : F8) : a * b * c = a * (b * c) := ext (GF.gm_assoc a.h b.h c.h)
theorem mul_left_comm (a b c : F8) : a * (b * c) = b * (a * c) := by rw [← mul_assoc, mul_comm a b, mul_assoc]
theorem mul_one (a : F8) : a * 1 = a := ext (GF.gm_one a.h)
theorem one_mul (a : F8) : 1 * a = a := ext (GF.one_gm a.h)
theorem mul_zero (a : F8) : a * 0 = 0 := ext (GF.gm_zero _)
theorem zero_mul (a : F8) : 0 * a = 0 := ext (GF.zero_gm a.n)
theorem mul_add (a b c : F8) : a * (b + c) = a * b + a * c := ext (GF.gm_add a.h b.h c.h)
theorem add_mul (a b c : F8) : (a + b) * c = a * c + b * c := ext (GF.add_gm a.h b.h c.h)
theorem mul_eq_zero {a b : F8} : a * b = 0 ↔ a = 0 ∨ b = 0 := by
 rw [← n_eq_zero, ← n_eq_zero, ← n_eq_zero, n_mul, GF.gm_eq_zero]
theorem mul_ne_zero {a b : F8} (ha : a ≠ 0) (hb : b ≠ 0) : a * b ≠ 0 := fun h => (mul_eq_zero.1 h).elim ha hb
theorem one_ne_zero : (1 : F8) ≠ 0 := by decide
theorem zero_div (b : F8) : 0 / b = 0 := ext (show GF.gq 0 b.n = 0 from rfl)
theorem div_mul {b : F8} (a : F8) (hb : b ≠ 0) : a / b * b = a := ext (GF.gm_gq a.h b.h (n_ne_zero.2 hb))
theorem mul_div {b : F8} (a : F8) (hb : b ≠ 0) : a * b / b = a := ext (GF.gq_gm a.h b.h (n_ne_zero.2 hb))
theorem mul_div' {b : F8} (a : F8) (hb : b ≠ 0) : b * (a / b) = a := by rw [mul_comm, div_mul a hb]
theorem mul_right_cancel {a b c : F8} (hc : c ≠ 0) (h : a * c = b * c) : a = b := by rw [← mul_div a hc, h, mul_div b hc]
theorem mul_left_cancel {a b c : F8} (hc : c ≠ 0) (h : c * a = c * b) : a = b := mul_right_cancel hc (by rw [mul_comm a, mul_comm b, h])
theorem div_eq {a b c : F8} (hb : b ≠ 0) : a / b = c ↔ a = c * b := ⟨fun h => by rw [← h, div_mul a hb], fun h => by rw [h, mul_div c hb]⟩
theorem inv_mul {a : F8} (ha : a ≠ 0) : inv a * a = 1 := div_mul 1 ha
theorem inv_ne {a : F8} (ha : a ≠ 0) : inv a ≠ 0 := fun h => by have := inv_mul ha; rw [h, zero_mul] at this; exact one_ne_zero this.symm
theorem div_eq_mul_inv {b : F8} (a : F8) (hb : b ≠ 0) : a / b = a * inv b := by rw [div_eq hb, mul_assoc, inv_mul hb, mul_one]
instance : Std.Associative (α := F8) (· + ·) := ⟨add_assoc⟩
instance : Std.Commutative (α := F8) (· + ·) := ⟨add_comm⟩
instance : Std.Associative (α := F8) (· * ·) := ⟨mul_assoc⟩
instance : Std.Commutative (α := F8) (· * ·) := ⟨mul_comm⟩
def bs (l : List F8) : List Nat := l.map F8.n
theorem bs_lt (l : List F8) : ∀ c ∈ bs l, c < 256 := by
 intro c hc; obtain ⟨x, _, rfl⟩ := List.mem_map.1 hc; exact x.h
theorem bs_length (l : List F8) : (bs l).length = l.length := by simp [bs]
theorem bs_append (a b : List F8) : bs (a ++ b) = bs a ++ bs b := by simp [bs]
theorem bs_inj {a b : List F8} : bs a = bs b ↔ a = b := by
 constructor
 ·intro h
  induction a generalizing b with
  | nil => cases b with
   | nil => rfl
   | cons y b => simp [bs] at h
  | cons x a ih => cases b with
   | nil => simp [bs] at h
   | cons y b =>
    simp only [bs, List.map_cons, List.cons.injEq] at h
    rw [ext h.1, ih h.2]
 ·intro h; rw [h]
theorem of_bytes (l : List Nat) (h : ∀ c ∈ l, c < 256) : ∃ p : List F8, l = bs p := by
 induction l with
 | nil => exact ⟨[], rfl⟩
 | cons x l ih =>
  obtain ⟨p, rfl⟩ := ih (fun c hc => h c (by simp [hc]))
  exact ⟨⟨x, h x (by simp)⟩ :: p, rfl⟩
end F8
end Go.Proofs.YtjoghbmedfmioaaGreat

namespace Go.Proofs.YtjoghbmedfmioaaGreat.Poly
open F8
def coef (p : List F8) (i : Nat) : F8 := p.getD i 0
theorem coef_nil (i : Nat) : coef [] i = 0 := by simp [coef]
theorem coef_cons_zero (a : F8) (p : List F8) : coef (a :: p) 0 = a := rfl
theorem coef_cons_succ (a : F8) (p : List F8) (i : Nat) : coef (a :: p) (i + 1) = coef p i := rfl
theorem coef_of_le {p : List F8} {i : Nat} (h : p.length ≤ i) : coef p i = 0 := by
 unfold coef; rw [List.getD_eq_getElem?_getD, List.getElem?_eq_none h]; rfl
theorem coef_of_lt {p : List F8} {i : Nat} (h : i < p.length) : coef p i = p[i] := by
 unfold coef; rw [List.getD_eq_getElem?_getD, List.getElem?_eq_getElem h]; rfl
def Eqv (p q : List F8) : Prop := ∀ i, coef p i = coef q i
theorem Eqv.refl (p : List F8) : Eqv p p := fun _ => rfl
theorem Eqv.symm {p q : List F8} (h : Eqv p q) : Eqv q p := fun i => (h i).symm
theorem Eqv.trans {p q r : List F8} (h : Eqv p q) (k : Eqv q r) : Eqv p r := fun i => (h i).trans (k i)
theorem Eqv.cons {p q : List F8} (a : F8) (h : Eqv p q) : Eqv (a :: p) (a :: q) := fun i => by
 cases i with
 | zero => rfl
 | succ i => exact h i
theorem Eqv.tail {a b : F8} {p q : List F8} (h : Eqv (a :: p) (b :: q)) : a = b ∧ Eqv p q := ⟨h 0, fun i => h (i + 1)⟩
theorem eqv_nil_cons {a : F8} {p : List F8} : Eqv (a :: p) [] ↔ a = 0 ∧ Eqv p [] :=
 ⟨fun h => ⟨by have := h 0; rwa [coef_nil] at this, fun i => by have := h (i + 1); rw [coef_nil] at this; rw [coef_nil]; exact this⟩, fun ⟨h1, h2⟩ i => by
  cases i with
  | zero => rw [coef_nil]; exact h1
  | succ i => rw [coef_nil]; have := h2 i; rw [coef_nil] at this; exact this⟩
def trim : List F8 → List F8
 | [] => []
 | a :: l => match trim l with
  | [] => if a = 0 then [] else [a]
  | b :: t => a :: b :: t
theorem trim_nil : trim [] = [] := rfl
theorem trim_cons_of {a : F8} {l : List F8} (h : trim l = []) : trim (a :: l) = if a = 0 then [] else [a] := by simp only [trim]; rw [h]
theorem trim_cons_ne {a : F8} {l : List F8} (h : trim l ≠ []) : trim (a :: l) = a :: trim l := by
 simp only [trim]
 cases hl : trim l with
 | nil => exact absurd hl h
 | cons b t => rfl
theorem trim_eqv (p : List F8) : Eqv (trim p) p := by
 induction p with
 | nil => exact Eqv.refl _
 | cons a l ih =>
  by_cases h : trim l = []
  ·rw [trim_cons_of h]
   rw [h] at ih
   by_cases a0 : a = 0
   ·rw [if_pos a0]; exact (eqv_nil_cons.2 ⟨a0, ih.symm⟩).symm
   ·rw [if_neg a0]; exact ih.cons a
  ·rw [trim_cons_ne h]; exact ih.cons a
theorem trim_nil_iff {p : List F8} : trim p = [] ↔ Eqv p [] := by
 induction p with
 | nil => exact ⟨fun _ => Eqv.refl _, fun _ => rfl⟩
 | cons a l ih =>
  rw [eqv_nil_cons, ← ih]
  by_cases h : trim l = []
  ·rw [trim_cons_of h]
   by_cases a0 : a = 0 <;> simp [a0, h]
  ·rw [trim_cons_ne h]; simp [h]
theorem trim_congr {p q : List F8} (h : Eqv p q) : trim p = trim q := by
 induction p generalizing q with
 | nil => exact ((trim_nil_iff).2 h.symm).symm
 | cons a l ih =>
  cases q with
  | nil => exact trim_nil_iff.2 h
  | cons b m =>
   obtain ⟨rfl, h2⟩ := h.tail
   simp only [trim]; rw [ih h2]
theorem trim_trim (p : List F8) : trim (trim p) = trim p := trim_congr (trim_eqv p)
def len (p : List F8) : Nat := (trim p).length
theorem len_congr {p q : List F8} (h : Eqv p q) : len p = len q := by unfold len; rw [trim_congr h]
theorem len_trim (p : List F8) : len (trim p) = len p := len_congr (trim_eqv p)
theorem trim_length (p : List F8) : (trim p).length = len p := rfl
theorem len_le (p : List F8) : len p ≤ p.length := by
 unfold len
 induction p with
 | nil => simp [trim]
 | cons a l ih =>
  by_cases h : trim l = []
  ·rw [trim_cons_of h]; split <;> simp
  ·rw [trim_cons_ne h]; simp; exact ih
def Bdd (p : List F8) (n : Nat) : Prop := ∀ i, n ≤ i → coef p i = 0
theorem Bdd.mono {p : List F8} {n m : Nat} (h : Bdd p n) (hm : n ≤ m) : Bdd p m := fun i hi => h i (Nat.le_trans hm hi)
theorem Bdd.congr {p q : List F8} {n : Nat} (h : Bdd p n) (he : Eqv p q) : Bdd q n := fun i hi => by rw [← he i]; exact h i hi
theorem bdd_length (p : List F8) : Bdd p p.length := fun _ hi => coef_of_le hi
theorem bdd_len (p : List F8) : Bdd p (len p) := (bdd_length (trim p)).congr (trim_eqv p)
theorem bdd_zero {p : List F8} : Bdd p 0 ↔ Eqv p [] := ⟨fun h i => by rw [coef_nil]; exact h i (Nat.zero_le _), fun h i _ => by rw [h i, coef_nil]⟩
theorem trim_last (p : List F8) : trim p = [] ∨ ∃ l a, trim p = l ++ [a] ∧ a ≠ 0 := by
 induction p with
 | nil => exact .inl rfl
 | cons a l ih =>
  by_cases h : trim l = []
  ·rw [trim_cons_of h]
   by_cases a0 : a = 0
   ·exact .inl (if_pos a0)
   ·exact .inr ⟨[], a, by rw [if_neg a0]; rfl, a0⟩
  ·rcases ih with ih | ⟨m, b, h1, h2⟩
   ·exact absurd ih h
   ·exact .inr ⟨a :: m, b, by rw [trim_cons_ne h, h1]; rfl, h2⟩
theorem lead {p : List F8} (h : 0 < len p) : coef p (len p - 1) ≠ 0 := by
 rcases trim_last p with h0 | ⟨l, a, h1, h2⟩
 ·unfold len at h; rw [h0] at h; simp at h
 ·rw [← trim_eqv p (len p - 1)]
  unfold len
  rw [h1, coef_of_lt (by simp)]
  simpa using h2
theorem len_le_of_bdd {p : List F8} {n : Nat} (h : Bdd p n) : len p ≤ n := by
 rcases Nat.lt_or_ge n (len p) with hlt | hge
 ·exact absurd (h (len p - 1) (by omega)) (lead (by omega))
 ·exact hge
theorem bdd_iff {p : List F8} {n : Nat} : Bdd p n ↔ len p ≤ n := ⟨len_le_of_bdd, fun h => (bdd_len p).mono h⟩
theorem len_zero {p : List F8} : len p = 0 ↔ Eqv p [] := by unfold len; rw [List.length_eq_zero_iff, trim_nil_iff]
theorem trim_snoc (l : List F8) (a : F8) (ha : a ≠ 0) : trim (l ++ [a]) = l ++ [a] := by
 induction l with
 | nil => show trim [a] = [a]; rw [trim_cons_of trim_nil, if_neg ha]
 | cons b l ih => rw [List.cons_append, trim_cons_ne (by rw [ih]; simp), ih]
theorem trim_take (p : List F8) (n : Nat) (hn : n ≤ p.length) (h0 : ∀ i, n ≤ i → i < p.length → coef p i = 0) (h1 : n = 0 ∨ coef p (n - 1) ≠ 0) : trim p = p.take n := by
 have he : Eqv p (p.take n) := fun i => by
  rcases Nat.lt_or_ge i n with hi | hi
  ·rw [coef_of_lt (by omega), coef_of_lt (by rw [List.length_take]; omega), List.getElem_take]
  ·rw [coef_of_le (p := p.take n) (by rw [List.length_take]; omega)]
   rcases Nat.lt_or_ge i p.length with h | h
   ·exact h0 i hi h
   ·exact coef_of_le h
 rw [trim_congr he]
 cases n with
 | zero => simp [trim]
 | succ n =>
  have hl : coef p n ≠ 0 := by rcases h1 with h | h; cases h; exact h
  rw [List.take_succ_eq_append_getElem (by omega)]
  exact trim_snoc _ _ (by rw [← coef_of_lt]; exact hl)
def padd : List F8 → List F8 → List F8
 | [], q => q
 | p, [] => p
 | a :: p, b :: q => (a + b) :: padd p q
theorem padd_nil (p : List F8) : padd p [] = p := by cases p <;> rfl
theorem nil_padd (p : List F8) : padd [] p = p := by cases p <;> rfl
theorem coef_padd (p q : List F8) (i : Nat) : coef (padd p q) i = coef p i + coef q i := by
 induction p generalizing q i with
 | nil => rw [nil_padd, coef_nil, zero_add]
 | cons a p ih =>
  cases q with
  | nil => rw [padd_nil, coef_nil, add_zero]
  | cons b q =>
   cases i with
   | zero => rfl
   | succ i => exact ih q i
theorem padd_congr {p p' q q' : List F8} (h : Eqv p p') (k : Eqv q q') : Eqv (padd p q) (padd p' q') := fun i => by rw [coef_padd, coef_padd, h i, k i]
theorem bdd_padd {p q : List F8} {n : Nat} (h : Bdd p n) (k : Bdd q n) : Bdd (padd p q) n := fun i hi => by rw [coef_padd, h i hi, k i hi, add_zero]
def scale (c : F8) (p : List F8) : List F8 := p.map (c * ·)
theorem coef_scale (c : F8) (p : List F8) (i : Nat) : coef (scale c p) i = c * coef p i := by
 unfold coef scale
 rw [List.getD_eq_getElem?_getD, List.getD_eq_getElem?_getD, List.getElem?_map]
 cases p[i]? with
 | none => exact (mul_zero c).symm
 | some x => rfl
def pmul : List F8 → List F8 → List F8
 | [], _ => []
 | a :: p, q => padd (scale a q) (0 :: pmul p q)
theorem coef_shift (p : List F8) (i : Nat) : coef (0 :: p) i = if i = 0 then 0 else coef p (i - 1) := by
 cases i with
 | zero => rfl
 | succ i => rfl
theorem coef_pmul_nil (q : List F8) (i : Nat) : coef (pmul [] q) i = 0 := coef_nil i
theorem coef_pmul_cons (a : F8) (p q : List F8) (i : Nat) : coef (pmul (a :: p) q) i = a * coef q i + if i = 0 then 0 else coef (pmul p q) (i - 1) := by
 show coef (padd (scale a q) (0 :: pmul p q)) i = _
 rw [coef_padd, coef_scale, coef_shift]
theorem pmul_congr_right (p : List F8) {q q' : List F8} (h : Eqv q q') : Eqv (pmul p q) (pmul p q') := by
 induction p with
 | nil => exact Eqv.refl _
 | cons a p ih => intro i; rw [coef_pmul_cons, coef_pmul_cons, h i, ih (i - 1)]
theorem pmul_zero_left {p : List F8} (q : List F8) (h : Eqv p []) : Eqv (pmul p q) [] := by
 induction p with
 | nil => exact Eqv.refl _
 | cons a p ih =>
  obtain ⟨h1, h2⟩ := eqv_nil_cons.1 h
  intro i; rw [coef_pmul_cons, h1, zero_mul, zero_add, ih h2 (i - 1), coef_nil, coef_nil]; split <;> rfl
theorem pmul_congr_left {p p' : List F8} (q : List F8) (h : Eqv p p') : Eqv (pmul p q) (pmul p' q) := by
 induction p generalizing p' with
 | nil => exact (pmul_zero_left q h.symm).symm
 | cons a p ih =>
  cases p' with
  | nil => exact pmul_zero_left q h
  | cons b p' =>
   obtain ⟨rfl, h2⟩ := h.tail
   intro i; rw [coef_pmul_cons, coef_pmul_cons, ih h2 (i - 1)]
theorem pmul_congr {p p' q q' : List F8} (h : Eqv p p') (k : Eqv q q') : Eqv (pmul p q) (pmul p' q') := (pmul_congr_left q h).trans (pmul_congr_right p' k)
theorem pmul_nil (p : List F8) : Eqv (pmul p []) [] := by
 induction p with
 | nil => exact Eqv.refl _
 | cons a p ih => intro i; rw [coef_pmul_cons, coef_nil, mul_zero, zero_add, ih (i - 1), coef_nil]; split <;> rfl
theorem pmul_cons_right (p : List F8) (b : F8) (q : List F8) (i : Nat) : coef (pmul p (b :: q)) i = b * coef p i + if i = 0 then 0 else coef (pmul p q) (i - 1) := by
 induction p generalizing i with
 | nil => rw [coef_pmul_nil, coef_nil, mul_zero, zero_add]; split; rfl; exact (coef_pmul_nil q _).symm
 | cons a p ih =>
  rw [coef_pmul_cons, coef_pmul_cons]
  cases i with
  | zero => rw [if_pos rfl, if_pos rfl, coef_cons_zero, coef_cons_zero, F8.mul_comm]
  | succ i =>
   rw [if_neg (by omega), if_neg (by omega), coef_cons_succ, coef_cons_succ, Nat.add_sub_cancel, ih i, ← F8.add_assoc, F8.add_comm (a * _), F8.add_assoc]
theorem pmul_comm (p q : List F8) : Eqv (pmul p q) (pmul q p) := by
 induction p with
 | nil => intro i; rw [pmul_nil q i, coef_pmul_nil, coef_nil]
 | cons a p ih => intro i; rw [coef_pmul_cons, pmul_cons_right, ih (i - 1)]
theorem pmul_padd (p q r : List F8) : Eqv (pmul p (padd q r)) (padd (pmul p q) (pmul p r)) := by
 induction p with
 | nil => intro i; rw [coef_padd, coef_pmul_nil, coef_pmul_nil, coef_pmul_nil, add_zero]
 | cons a p ih =>
  intro i
  rw [coef_padd, coef_pmul_cons, coef_pmul_cons, coef_pmul_cons, coef_padd, mul_add, ih (i - 1), coef_padd]
  split
  ·rw [add_zero, add_zero, add_zero]
  ·ac_rfl
theorem padd_pmul (p q r : List F8) : Eqv (pmul (padd p q) r) (padd (pmul p r) (pmul q r)) :=
 (pmul_comm _ _).trans ((pmul_padd r p q).trans (padd_congr (pmul_comm _ _) (pmul_comm _ _)))
theorem pmul_scale (a : F8) (p q : List F8) : Eqv (pmul (scale a p) q) (scale a (pmul p q)) := by
 induction p with
 | nil => exact Eqv.refl _
 | cons b p ih =>
  intro i
  show coef (pmul (a * b :: scale a p) q) i = _
  rw [coef_pmul_cons, coef_scale, coef_pmul_cons, ih (i - 1), coef_scale, mul_add, F8.mul_assoc]
  split
  ·rw [mul_zero]
  ·rfl
theorem pmul_shift (p q : List F8) : Eqv (pmul (0 :: p) q) (0 :: pmul p q) := fun i => by rw [coef_pmul_cons, zero_mul, zero_add, coef_shift]
theorem pmul_assoc (p q r : List F8) : Eqv (pmul (pmul p q) r) (pmul p (pmul q r)) := by
 induction p with
 | nil => exact Eqv.refl _
 | cons a p ih =>
  refine (padd_pmul _ _ r).trans ?_
  exact padd_congr (pmul_scale a q r) ((pmul_shift _ r).trans (ih.cons 0))
theorem pmul_one (p : List F8) : Eqv (pmul p [1]) p := fun i => by
 rw [pmul_cons_right, one_mul, pmul_nil p (i - 1), coef_nil]; split <;> rw [add_zero]
theorem one_pmul (p : List F8) : Eqv (pmul [1] p) p := (pmul_comm _ _).trans (pmul_one p)
theorem bdd_pmul {p q : List F8} {m n : Nat} (h : Bdd p m) (k : Bdd q n) : ∀ i, m + n ≤ i + 1 → coef (pmul p q) i = 0 := by
 induction p generalizing m with
 | nil => intro i _; exact coef_pmul_nil q i
 | cons a p ih =>
  intro i hi
  cases m with
  | zero => rw [pmul_zero_left q (bdd_zero.1 h) i, coef_nil]
  | succ m =>
   have h2 : Bdd p m := fun j hj => h (j + 1) (by omega)
   rw [coef_pmul_cons, k i (by omega), mul_zero, zero_add]
   split
   ·rfl
   ·exact ih h2 (i - 1) (by omega)
theorem lead_pmul {p q : List F8} {m n : Nat} (h : Bdd p (m + 1)) (k : Bdd q (n + 1)) : coef (pmul p q) (m + n) = coef p m * coef q n := by
 induction p generalizing m with
 | nil => rw [coef_pmul_nil, coef_nil, zero_mul]
 | cons a p ih =>
  rw [coef_pmul_cons]
  cases m with
  | zero =>
   rw [coef_cons_zero, Nat.zero_add]
   have h2 : Bdd p 0 := fun j hj => h (j + 1) (by omega)
   split
   ·rw [add_zero]
   ·rw [pmul_zero_left q (bdd_zero.1 h2) (n - 1), coef_nil, add_zero]
  | succ m =>
   have h2 : Bdd p (m + 1) := fun j hj => h (j + 1) (by omega)
   rw [k (m + 1 + n) (by omega), mul_zero, zero_add, if_neg (by omega), coef_cons_succ, show m + 1 + n - 1 = m + n by omega, ih h2]
theorem len_pmul {p q : List F8} (hp : 0 < len p) (hq : 0 < len q) : len (pmul p q) = len p + len q - 1 := by
 have h1 := lead_pmul (m := len p - 1) (n := len q - 1) (p := p) (q := q) ((bdd_len p).mono (by omega)) ((bdd_len q).mono (by omega))
 have h2 : coef (pmul p q) (len p - 1 + (len q - 1)) ≠ 0 := by rw [h1]; exact mul_ne_zero (lead hp) (lead hq)
 have h3 : len (pmul p q) ≤ len p + len q - 1 := len_le_of_bdd (fun i hi => bdd_pmul (bdd_len p) (bdd_len q) i (by omega))
 rcases Nat.lt_or_ge (len p - 1 + (len q - 1)) (len (pmul p q)) with h | h
 ·omega
 ·exact absurd (bdd_len (pmul p q) _ h) h2
def eval : List F8 → F8 → F8
 | [], _ => 0
 | a :: p, x => a + x * eval p x
theorem eval_zero {p : List F8} (x : F8) (h : Eqv p []) : eval p x = 0 := by
 induction p with
 | nil => rfl
 | cons a p ih =>
  obtain ⟨h1, h2⟩ := eqv_nil_cons.1 h
  show a + x * eval p x = 0
  rw [h1, ih h2, mul_zero, add_zero]
theorem eval_congr {p q : List F8} (x : F8) (h : Eqv p q) : eval p x = eval q x := by
 induction p generalizing q with
 | nil => exact (eval_zero x h.symm).symm
 | cons a p ih =>
  cases q with
  | nil => exact eval_zero x h
  | cons b q =>
   obtain ⟨rfl, h2⟩ := h.tail
   show a + x * eval p x = a + x * eval q x
   rw [ih h2]
theorem eval_padd (p q : List F8) (x : F8) : eval (padd p q) x = eval p x + eval q x := by
 induction p generalizing q with
 | nil => rw [nil_padd]; exact (zero_add _).symm
 | cons a p ih =>
  cases q with
  | nil => rw [padd_nil]; exact (add_zero _).symm
  | cons b q =>
   show (a + b) + x * eval (padd p q) x = (a + x * eval p x) + (b + x * eval q x)
   rw [ih, mul_add]; ac_rfl
theorem eval_scale (c : F8) (p : List F8) (x : F8) : eval (scale c p) x = c * eval p x := by
 induction p with
 | nil => exact (mul_zero c).symm
 | cons a p ih =>
  show c * a + x * eval (scale c p) x = c * (a + x * eval p x)
  rw [ih, mul_add, F8.mul_left_comm]
theorem eval_pmul (p q : List F8) (x : F8) : eval (pmul p q) x = eval p x * eval q x := by
 induction p with
 | nil => exact (zero_mul _).symm
 | cons a p ih =>
  show eval (padd (scale a q) (0 :: pmul p q)) x = (a + x * eval p x) * eval q x
  rw [eval_padd, eval_scale]
  show _ + (0 + x * eval (pmul p q) x) = _
  rw [ih, zero_add, add_mul, F8.mul_assoc]
theorem eval_trim (p : List F8) (x : F8) : eval (trim p) x = eval p x := eval_congr x (trim_eqv p)
def xpow (x : F8) : Nat → F8
 | 0 => 1
 | n + 1 => x * xpow x n
theorem eval_snoc (p : List F8) (a x : F8) : eval (p ++ [a]) x = eval p x + a * xpow x p.length := by
 induction p with
 | nil => show a + x * 0 = 0 + a * 1; rw [mul_zero, add_zero, mul_one, zero_add]
 | cons b p ih =>
  show b + x * eval (p ++ [a]) x = b + x * eval p x + a * (x * xpow x p.length)
  rw [ih, mul_add, F8.add_assoc, F8.mul_left_comm]
def synth (x : F8) : List F8 → List F8
 | [] => []
 | _ :: p => eval p x :: synth x p
theorem synth_eqv (x : F8) (p : List F8) : Eqv p (padd [eval p x] (pmul [x, 1] (synth x p))) := by
 induction p with
 | nil =>
  intro i
  have h : coef (pmul [x, 1] []) i = coef [] i := pmul_nil [x, 1] i
  show coef [] i = coef (padd [0] (pmul [x, 1] [])) i
  rw [coef_padd, h, coef_nil, add_zero]; cases i <;> rfl
 | cons a p ih =>
  intro i
  rw [coef_padd, coef_pmul_cons, coef_pmul_cons, coef_pmul_nil]
  show _ = _ + (x * coef (eval p x :: synth x p) i + if i = 0 then 0 else 1 * coef (eval p x :: synth x p) (i - 1) + if i - 1 = 0 then 0 else 0)
  cases i with
  | zero =>
   show a = (a + x * eval p x) + (x * eval p x + 0)
   rw [add_zero, add_add_self]
  | succ i =>
   rw [if_neg (by omega), coef_cons_succ, coef_cons_succ, coef_cons_succ, coef_nil, zero_add, Nat.add_sub_cancel, one_mul]
   have h := ih i
   rw [coef_padd, coef_pmul_cons, coef_pmul_cons, coef_pmul_nil] at h
   rw [h]
   cases i with
   | zero =>
    show eval p x + (x * coef (synth x p) 0 + 0) = x * coef (synth x p) 0 + (eval p x + 0)
    rw [add_zero, add_zero, F8.add_comm]
   | succ i =>
    show 0 + (x * coef (synth x p) (i + 1) + (1 * coef (synth x p) i + (if i = 0 then 0 else 0))) = x * coef (synth x p) (i + 1) + (coef (synth x p) i + 0)
    rw [zero_add, one_mul]; congr 2; split <;> rfl
theorem synth_bdd (x : F8) (p : List F8) (n : Nat) (h : Bdd p (n + 1)) : Bdd (synth x p) n := by
 induction p generalizing n with
 | nil => exact fun i _ => coef_nil i
 | cons a p ih =>
  have h2 : Bdd p n := fun j hj => h (j + 1) (by omega)
  intro i hi
  cases n with
  | zero =>
   have h3 := bdd_zero.1 h2
   cases i with
   | zero => exact eval_zero x h3
   | succ i => exact ih 0 (h2.mono (by omega)) i (by omega)
  | succ n =>
   cases i with
   | zero => omega
   | succ i => exact ih n h2 i (by omega)
theorem eval_root (x y : F8) : eval [x, 1] y = x + y := by
 show x + y * (1 + y * 0) = x + y
 rw [mul_zero, add_zero, mul_one]
theorem zero_of_roots (n : Nat) (p : List F8) (xs : List F8) (hb : Bdd p n) (hl : xs.length = n) (hn : xs.Nodup) (hx : ∀ x ∈ xs, eval p x = 0) : Eqv p [] := by
 induction n generalizing p xs with
 | zero => exact bdd_zero.1 hb
 | succ n ih =>
  cases xs with
  | nil => cases hl
  | cons x xs =>
   have h0 := hx x (by simp)
   have he := synth_eqv x p
   rw [h0] at he
   have he2 : Eqv p (pmul [x, 1] (synth x p)) := he.trans (fun i => by rw [coef_padd]; cases i <;> (first | exact zero_add _ | (rw [coef_cons_succ, coef_nil]; exact zero_add _)))
   have hs : Eqv (synth x p) [] := by
    refine ih (synth x p) xs (synth_bdd x p n hb) (by simpa using hl) (List.nodup_cons.1 hn).2 (fun y hy => ?_)
    have hy0 := hx y (by simp [hy])
    rw [eval_congr y he2, eval_pmul, eval_root, mul_eq_zero] at hy0
    rcases hy0 with h | h
    ·exact absurd (add_eq_zero.1 h ▸ hy) (List.nodup_cons.1 hn).1
    ·exact h
   exact he2.trans ((pmul_congr_right _ hs).trans (pmul_nil _))
theorem only {n : Nat} {p q : List F8} {xs : List F8} (hp : Bdd p n) (hq : Bdd q n) (hl : n ≤ xs.length) (hn : xs.Nodup) (h : ∀ x ∈ xs, eval p x = eval q x) : Eqv p q := by
 have hz := zero_of_roots xs.length (padd p q) xs (bdd_padd (hp.mono hl) (hq.mono hl)) rfl hn (fun x hx => by rw [eval_padd, h x hx, add_self])
 intro i
 have := hz i
 rw [coef_padd, coef_nil, add_eq_zero] at this
 exact this
theorem roots_le {p : List F8} {xs : List F8} (h0 : 0 < len p) (hn : xs.Nodup) (h : ∀ x ∈ xs, eval p x = 0) : xs.length ≤ len p - 1 := by
 rcases Nat.lt_or_ge (len p - 1) xs.length with hlt | hge
 ·have hz := zero_of_roots (len p) p (xs.take (len p)) (bdd_len p) (by rw [List.length_take]; omega) (hn.sublist (List.take_sublist _ _)) (fun x hx => h x (List.mem_of_mem_take hx))
  have := len_zero.2 hz; omega
 ·exact hge
def roots : List F8 → List F8
 | [] => [1]
 | x :: xs => pmul [x, 1] (roots xs)
theorem eval_roots (xs : List F8) (y : F8) : eval (roots xs) y = 0 ↔ y ∈ xs := by
 induction xs with
 | nil =>
  have : eval (roots []) y = 1 := by show 1 + y * 0 = 1; rw [mul_zero, add_zero]
  rw [this]; simp [one_ne_zero]
 | cons x xs ih =>
  show eval (pmul [x, 1] (roots xs)) y = 0 ↔ _
  rw [eval_pmul, eval_root, mul_eq_zero, ih, add_eq_zero, List.mem_cons, eq_comm]
theorem len_lin (x : F8) : len [x, 1] = 2 := by
 unfold len; rw [show [x, 1] = [x] ++ [1] from rfl, trim_snoc _ _ one_ne_zero]; rfl
theorem len_one : len [1] = 1 := by unfold len; rw [show ([1] : List F8) = [] ++ [1] from rfl, trim_snoc _ _ one_ne_zero]; rfl
theorem len_roots (xs : List F8) : len (roots xs) = xs.length + 1 := by
 induction xs with
 | nil => exact len_one
 | cons x xs ih =>
  show len (pmul [x, 1] (roots xs)) = _
  rw [len_pmul (by rw [len_lin]; omega) (by rw [ih]; omega), len_lin, ih, List.length_cons]; omega
theorem roots_snoc (xs : List F8) (x : F8) : Eqv (roots (xs ++ [x])) (pmul (roots xs) [x, 1]) := by
 induction xs with
 | nil => exact (pmul_one _).trans (one_pmul _).symm
 | cons y xs ih =>
  show Eqv (pmul [y, 1] (roots (xs ++ [x]))) (pmul (pmul [y, 1] (roots xs)) [x, 1])
  exact (pmul_congr_right _ ih).trans (pmul_assoc _ _ _).symm
def mono (n : Nat) (c : F8) : List F8 := List.replicate n 0 ++ [c]
theorem coef_mono (n : Nat) (c : F8) (i : Nat) : coef (mono n c) i = if i = n then c else 0 := by
 induction n generalizing i with
 | zero => cases i with
  | zero => rfl
  | succ i => rw [if_neg (by omega)]; exact coef_nil i
 | succ n ih =>
  show coef (0 :: mono n c) i = _
  rw [coef_shift]
  cases i with
  | zero => rfl
  | succ i => rw [if_neg (by omega), Nat.add_sub_cancel, ih]; by_cases h : i = n <;> simp [h]
theorem mono_succ (n : Nat) (c : F8) : mono (n + 1) c = 0 :: mono n c := rfl
theorem coef_mono_pmul (n : Nat) (c : F8) (p : List F8) (i : Nat) : coef (pmul (mono n c) p) i = if i < n then 0 else c * coef p (i - n) := by
 induction n generalizing i with
 | zero =>
  show coef (pmul [c] p) i = _
  rw [coef_pmul_cons, coef_pmul_nil, if_neg (Nat.not_lt_zero i), Nat.sub_zero]; split <;> rw [add_zero]
 | succ n ih =>
  rw [mono_succ, pmul_shift (mono n c) p i, coef_shift]
  cases i with
  | zero => rw [if_pos rfl, if_pos (by omega)]
  | succ i =>
   rw [if_neg (by omega), Nat.add_sub_cancel, ih]
   by_cases h : i < n
   ·rw [if_pos h, if_pos (by omega)]
   ·rw [if_neg h, if_neg (by omega), show i + 1 - (n + 1) = i - n by omega]
theorem trim_le (p : List F8) : (trim p).length ≤ p.length := len_le p
structure DivBy (a b q r : List F8) : Prop where
 tq : trim q = q
 tr : trim r = r
 eqv : Eqv a (padd (pmul q b) r)
 lt : len r < len b
structure Thru (xs ys r : List F8) : Prop where
 tr : trim r = r
 bdd : Bdd r xs.length
 val : ∀ i (h : i < xs.length) (h' : i < ys.length), eval r xs[i] = ys[i]
theorem Thru.only {xs ys r r' : List F8} (hn : xs.Nodup) (hl : xs.length = ys.length) (h : Thru xs ys r) (h' : Thru xs ys r') : r = r' := by
 rw [← h.tr, ← h'.tr]
 refine trim_congr (Poly.only h.bdd h'.bdd (Nat.le_refl _) hn (fun x hx => ?_))
 obtain ⟨i, hi, rfl⟩ := List.getElem_of_mem hx
 rw [h.val i hi (by omega), h'.val i hi (by omega)]
end Go.Proofs.YtjoghbmedfmioaaGreat.Poly
