/- Of the program, joined: PtVisit, PtList, PtGroup, PtOps, MsPar, PolyWorks, PolyRefSt, RdSt, RdLaw, RdLaw2. -/
import Derived.Test.YtjoghbmedfmioabPc05
import Derived.Test.YtjoghbmedfmioabPc06
import Derived.Test.YtjoghbmedfmioabPc07
namespace Go.Proofs.Ytjoghbmedfmioab.Pt
open Go.RowKit Go.Shelf Poly GF
attribute [local go_sem] Oper.semAt_some
def Visits (gf : Nat) (lb : Array Value) (g : Nat) (Kp : World → Prop) (vals : List Value) : Prop :=
 ∀ (n : Nat) (_ : 1 ≤ n) (l : Nat) (J : Nat → World → Prop) (Jx : World → Prop)
  (_ : ∀ k W, J k W → Kp W) (_ : ∀ k W W', J k W → Past W.heap.size g W W' → Kp W' → J k W')
  (_ : ∀ k v W, vals[k]? = some v → J k W → YieldAt Fence.wide (n - 1) Try.prog l #[v] W fun e W' =>
   (e = .returned (.bool true) ∧ J (k + 1) W') ∨ (e = .returned (.bool false) ∧ Jx W'))
  (W : World) (_ : J 0 W),
  CallsIn Fence.wide n Try.prog gf (#[.func (.yield l) #[] #[]] ++ lb) W fun e W' => (∃ v, e = .returned v) ∧ (J vals.length W' ∨ Jx W')
theorem zip1 (s1 : Tmp) (u : Value) (t : Array Value) :
  Array.foldl (fun (tmps : Array Value) (x : Tmp × Value) => match x with | (t, a) => tmps.setIfInBounds t a) t ((#[s1] : Array Tmp).zip #[u]) = t.setIfInBounds s1 u := by simp
def RowPost (B : Nat) (I : World → Prop) (Ix : Code → World → Prop) (W : World) : Exit → Act → World → Prop
 | .normal, _, W' => KeepsFrom B W W' ∧ I W'
 | .ret, _, W' => KeepsFrom B W W' ∧ Ix .ret W'
 | .exit id, _, W' => KeepsFrom B W W' ∧ Ix (.exit id) W'
 | _, _, _ => False
set_option maxRecDepth 100000 in
set_option maxHeartbeats 2000000 in
theorem wpIn_visits {n : Nat} (h1 : 3 ≤ n) {gop : Operand} {s1 : Tmp} {assign body : Code} {Q : Exit → Act → World → Prop} {a : Act} {w : World} {gf g : Nat} {lb : Array Value} {Kp : World → Prop} {vals : List Value}
  (hV : Visits gf lb g Kp vals) (hgw : g < w.heap.size)
  (hen : ∀ args W, (callFunc gf args).run Try.prog W = .ok (.enter gf args) W) (hg : a.eval gop = .func (.func gf) #[] lb)
  (I : Nat → World → Prop) (Ix : Code → World → Prop)
  (hI : ∀ k W W', I k W → Turn w.heap.size W W' → I k W') (hIx : ∀ c W W', Ix c W → Turn w.heap.size W W' → Ix c W')
  (hrd : ∀ k W, I k W → Kp W) (hP : ∀ k W W', I k W → Past W.heap.size g W W' → Kp W' → w.heap.size ≤ W.heap.size → I k W')
  (h0 : I 0 w) (a₁ : Value → Act)
  (hassign : ∀ (l k : Nat) (v : Value) (W : World) (K : Act → World → Prop), vals[k]? = some v → K (a₁ v) W →
   assign.wpIn (Fence.wide.inRound l) (n - 1 - 1) Try.prog (Exit.then K (fun _ _ _ => False)) { tmps := a.tmps.setIfInBounds s1 v, defers := [] } W)
  (hbody : ∀ (l k : Nat) (v : Value) (W : World), vals[k]? = some v → I k W → w.heap.size ≤ W.heap.size → body.wpIn (Fence.wide.inRound l) (n - 1 - 1) Try.prog (RowPost w.heap.size (I (k + 1)) Ix W) (a₁ v) W)
  (hdone : ∀ (W : World), I vals.length W → W.heap[w.heap.size]? = some (.deferred (some [])) → Q .normal { a with defers := { target := .collected w.heap.size, args := #[] } :: a.defers } W)
  (hstop : ∀ (c : Code) (W : World), Ix c W → W.heap[w.heap.size]? = some (.deferred (some [])) → c.wpIn Fence.wide n Try.prog Q { a with defers := { target := .collected w.heap.size, args := #[] } :: a.defers } W) :
  (Code.rangeFunc gop #[s1] assign body).wpIn Fence.wide n Try.prog Q a w := by
 refine wpIn_rangeFunc fun fn hfn => ?_
 obtain ⟨D, hD⟩ : ∃ D, D = w.heap.size := ⟨_, rfl⟩
 obtain ⟨R0, hR⟩ : ∃ R : LoopState → Option Code → Obj, R = fun st j => .loop { state := st, pending := j, fn, tmps := a.tmps, params := #[s1], assign, body, defers := D } := ⟨_, rfl⟩
 have hRc : ∀ st j, (R0 st j).isCells = false := by intro st j; rw [hR]; rfl
 let Bk : LoopState → Option Code → World → Prop := fun st j W => W.heap[D + 1]? = some (R0 st j) ∧ W.heap[D]? = some (.deferred (some []))
 have bk_put : ∀ {st j st' j'} {W : World}, Bk st j W → Bk st' j' (W.putObj (D + 1) (R0 st' j')) := fun {st j st' j' W} h =>
  ⟨World.putObj_heap_same (Array.getElem?_eq_some_iff.1 h.1).1, (World.putObj_heap_other (by omega)).trans h.2⟩
 have tn_put : ∀ {st j st' j'} {W : World}, Bk st j W → Turn D W (W.putObj (D + 1) (R0 st' j')) := fun {st j st' j' W} h => Turn.put h.1 (hRc _ _) (by omega) _
 have bk_keep : ∀ {st j} {W W' : World}, Bk st j W → KeepsFrom D W W' → Bk st j W' := fun {st j W W'} h k => ⟨k.same _ _ (by omega) h.1 (hRc _ _), k.same _ _ (Nat.le_refl _) h.2 rfl⟩
 have ends : ∀ {W : World} (j : Option Code), Bk .busy none W → (Instr.endRound (D + 1) j).run Try.prog W = .ok (.bool j.isNone) (W.putObj (D + 1) (R0 (if j.isNone then .ready else .done) j)) := by
  intro W j h
  have h2 := h.1
  rw [hR] at h2 ⊢
  exact run_endRound j h2
 have out : ∀ {W : World} {st j}, st ≠ .busy → Bk st j W → (Instr.endLoop (D + 1)).run Try.prog W = .ok j (W.putObj (D + 1) (R0 .exhausted j)) := by
  intro W st j hst h
  have h2 := h.1
  rw [hR] at h2 ⊢
  exact run_endLoop h2 hst
 have bk_turn : ∀ {st j} {W W' : World}, Bk st j W → KeepsFrom D W W' → Bk st j W' := bk_keep
 rw [← hD] at hI hIx hbody hdone hstop hgw hP
 obtain ⟨W1, hW1⟩ : ∃ W1, (w.alloc (.deferred (some []))).alloc (R0 .ready none) = W1 := ⟨_, rfl⟩
 have t1 : Turn D w W1 := by
  rw [← hW1]
  exact (Turn.alloc (by omega) _).trans (Turn.alloc (by simp; omega) _)
 have b1 : Bk .ready none W1 := by
  have e1 := World.alloc_heap_new (w.alloc (.deferred (some []))) (R0 .ready none)
  have e2 := (Below.heap_alloc (w.alloc (.deferred (some []))) (R0 .ready none) w.heap.size (by simp)).trans (World.alloc_heap_new w _)
  rw [World.size_alloc, hW1, ← hD] at e1
  rw [hW1, ← hD] at e2
  exact ⟨e1, e2⟩
 refine ⟨D + 1, [{ target := .collected D, args := #[] }], W1, { target := .fn (.func gf) lb, args := #[.func (.yield (D + 1)) #[] #[]] }, W1, gf,
  #[.func (.yield (D + 1)) #[] #[]] ++ lb, W1, ?_, ?_, fun _ _ => trivial, ?_, (fun h => by cases h), ?_⟩
 ·rw [← hW1, hR, hD]; exact run_enterLoop_outer _ _ _ _ _
 ·simp only [resolve, hg]; simp [go_sem]
 ·simp only [invoke]; exact hen _ _
 ·refine (hV (n - 1) (by omega) (D + 1) (fun k W => I k W ∧ Bk .ready none W ∧ D + 2 ≤ W.heap.size) (fun W => ∃ j, Ix j W ∧ Bk .done (some j) W ∧ D ≤ W.heap.size)
   (fun k W h => hrd k W h.1) (fun k W W' h t hk => ⟨hP k W W' h.1 t hk (by omega), ⟨(t.block _ (by omega) (by omega)).trans h.2.1.1, (t.block _ (by omega) (by omega)).trans h.2.1.2⟩, by have := t.size; omega⟩) ?_ W1 ⟨hI _ _ _ h0 t1, b1, by rw [← hW1]; simp; omega⟩).mono ?_
  ·
   rintro k v W hk ⟨hi, hb, hsz⟩
   have hy := run_yield (P := Try.prog) (args := #[v]) (l := D + 1) (by have h2 := hb.1; rw [hR] at h2; exact h2) rfl
   have hbr := run_beginRound (P := Try.prog) (l := D + 1) (by have h2 := hb.1; rw [hR] at h2; exact h2) rfl
   refine ⟨fn, _, assign, body, hy, roundIn_of_wpIn hfn ?_⟩
   clear hy
   dsimp only
   rw [zip1]
   refine hassign _ k v W _ hk ?_
   refine ⟨_, hbr, ?_⟩
   clear hbr
   have hb2 : Bk .busy none (W.putObj (D + 1) (R0 .busy none)) := bk_put hb
   have hi2 := hI _ _ _ hi (tn_put (st' := .busy) (j' := none) hb)
   have hwp := hbody (D + 1) k v (W.putObj (D + 1) (R0 .busy none)) hk hi2 (by simp; omega)
   rw [hR] at hwp
   refine wpIn_mono hwp ?_
   rintro e a3 W3 hp
   have fin : ∀ (j : Option Code), KeepsFrom D (W.putObj (D + 1) (R0 .busy none)) W3 → (Instr.endRound (D + 1) j).run Try.prog W3 = .ok (.bool j.isNone) (W3.putObj (D + 1) (R0 (if j.isNone then .ready else .done) j)) ∧
     Bk (if j.isNone then .ready else .done) j (W3.putObj (D + 1) (R0 (if j.isNone then .ready else .done) j)) ∧ Turn D W3 (W3.putObj (D + 1) (R0 (if j.isNone then .ready else .done) j)) ∧ D + 2 ≤ (W3.putObj (D + 1) (R0 (if j.isNone then .ready else .done) j)).heap.size := fun j hkf => by
    have hb3 := bk_keep hb2 hkf
    refine ⟨ends j hb3, bk_put hb3, tn_put hb3, ?_⟩
    have := hkf.size
    simp at this ⊢
    omega
   have key : ∀ {W4 : World}, KeepsFrom D (W.putObj (D + 1) ((fun st j => Obj.loop { state := st, pending := j, fn, tmps := a.tmps, params := #[s1], assign, body, defers := D }) .busy none)) W4 → KeepsFrom D (W.putObj (D + 1) (R0 .busy none)) W4 := by
    intro W4 h; rw [hR]; exact h
   cases e with
   | normal =>
    obtain ⟨hkf, hq⟩ := hp
    obtain ⟨f1, f2, f3, f4⟩ := fin none (key hkf)
    exact ⟨_, _, f1, .inl ⟨rfl, hI _ _ _ hq f3, f2, f4⟩⟩
   | ret =>
    obtain ⟨hkf, hq⟩ := hp
    obtain ⟨f1, f2, f3, f4⟩ := fin (some .ret) (key hkf)
    exact ⟨_, _, f1, .inr ⟨rfl, .ret, hIx _ _ _ hq f3, f2, by omega⟩⟩
   | exit id =>
    obtain ⟨hkf, hq⟩ := hp
    obtain ⟨f1, f2, f3, f4⟩ := fin (some (.exit id)) (key hkf)
    exact ⟨_, _, f1, .inr ⟨rfl, .exit id, hIx _ _ _ hq f3, f2, by omega⟩⟩
   | goto t => exact hp.elim
   | panic ch => exact hp.elim
   | outgrown => exact hp.elim
  ·rintro e W2 ⟨⟨v, rfl⟩, ⟨hi, hb, _⟩ | ⟨j, hi, hb, _⟩⟩
   ·exact ⟨none, _, out (by simp) hb, hdone _ (hI _ _ _ hi (tn_put hb)) (bk_put (st' := .exhausted) (j' := none) hb).2⟩
   ·exact ⟨some j, _, out (by simp) hb, hstop j _ (hIx _ _ _ hi (tn_put hb)) (bk_put (st' := .exhausted) (j' := some j) hb).2⟩
end Go.Proofs.Ytjoghbmedfmioab.Pt

namespace Go.Proofs.Ytjoghbmedfmioab.Pt
open Go.RowKit Go.Shelf Poly GF
attribute [local go_sem] Oper.semAt_some
theorem wpListIn_app {P : Program} (w : World) {l n : Nat} {ops : Array Oper} {rest : List Oper} {o : Oper} {a : Act} {Q : Exit → Act → World → Prop} (hgd : o.guard = none) (s x : Operand) (t : TypeId)
  (ho : o.op = .call { callee := .builtin .append, args := #[s, x], argTypes := #[t, t] })
  (B : Nat) (e : TypeId) (z : Value) (bytes : Nat) (ht : P.underlying t = some (.slice e)) (hinfo : (P.info? e).map (fun i => (i.zero, i.size, i.bytes)) = some (some z, 1, bytes)) (hz : z.cells.size = 1) (hb : 0 < bytes)
  (v : Value) (xs : List Value) (hs : a.eval s = v) (hown : Own w B e v xs) (A : Option Addr) (m c : Nat) (ys : List Value) (hx : a.eval x = .slice A m c) (hm : ys.length = m) (hr : Row w A ys) (h1 : ∀ u ∈ ys, u.oneCell' = true)
  (hlen : (xs.length + m) * bytes ≤ 140737488355328) (hB : B ≤ w.heap.size)
  (h : ∀ v' w', Own w' B e v' (xs ++ ys) → w.grownBy w' v.ownBlock → (v'.ownBlock = v.ownBlock ∨ v'.ownBlock = some w.heap.size) → wpListIn (Fence.wide.inRound l) n P ops Q rest (a.put o.dst v') w') : wpListIn (Fence.wide.inRound l) n P ops Q (o :: rest) a w :=
 wpListIn_plain hgd fun _ hK => oper_round (by rw [ho]; intro c hc; cases hc) (wp_app w s x t ho B e z bytes ht hinfo hz hb v xs hs hown A m c ys hx hm hr h1 hlen hB fun v' w' h2 h3 h4 => hK _ _ (h v' w' h2 h3 h4))
theorem info_b : (Try.prog.info? 5).map (fun i => (i.zero, i.size, i.bytes)) = some (some (.int .u8 0), 1, 1) := by kernel_rfl
def Held (W : World) (B bx : Nat) (st e : TypeId) (xs : List Value) : Prop := ∃ v, Block W bx st #[v] ∧ Own W B e v xs ∧ v.ownBlock ≠ some bx
theorem keeps_grown {W W' : World} {B l : Nat} {e : TypeId} {v : Value} {xs : List Value} (h : Own W B e v xs) (hg : W.grownBy W' v.ownBlock) : KeepsFrom l W W' := by
 obtain ⟨os, tape, output, size, hk⟩ := hg
 refine ⟨size, fun k o _ h1 ho => (hk k (Array.getElem?_eq_some_iff.1 h1).1 fun e => ?_).trans h1⟩
 rcases h.2 with ⟨rfl, _⟩ | ⟨g, cap, cur, rfl, _, h3, _⟩
 ·cases e
 ·have e2 : g = k := by simpa [Value.ownBlock] using e.symm
  subst e2
  rw [h3] at h1
  cases h1
  cases ho
theorem block_grown {w w' : World} {b : Nat} {t : TypeId} {cs : Array Value} {row : Option Nat} (h : Block w b t cs) (hg : w.grownBy w' row) (hn : row ≠ some b) : Block w' b t cs := by
 obtain ⟨_, _, _, _, hk⟩ := hg
 exact (hk b h.lt (fun e => hn e.symm)).trans h
set_option maxRecDepth 100000 in
set_option maxHeartbeats 2000000 in
theorem listB_calls (gf g : Nat) (lb : Array Value) (Kp : World → Prop) (l : List Nat) (hlen : l.length ≤ 1000000) (w : World) (hV : Visits gf lb g Kp (bv l)) (hen : ∀ args W, (callFunc gf args).run Try.prog W = .ok (.enter gf args) W)
  (hgw : g < w.heap.size) (hKp : ∀ W W', Kp W → Below w.heap.size W W' → Kp W') (h0 : Kp w) :
  Calls Try.prog 46 #[.func (.func gf) #[] lb] w fun e w' => ∃ v, e = .returned v ∧ Own w' w.heap.size 5 v (bv l) ∧ Past w.heap.size g w w' ∧ Kp w' := by
 refine (callsIn_wide (n := 9)).1 (callsIn_of_wp_marks Try.func46 rfl trivial ?_ rfl)
 simp only [Try.ntmps46, List.size_toArray, List.length_cons, List.length_nil, Nat.reduceAdd, Nat.reduceSub, Array.replicate_succ, Array.replicate_zero, List.push_toArray, List.append_toArray, List.nil_append, List.cons_append]
 refine wpIn_wide.2 ?_
 go_wp2_with fail
 refine wpIn_wide.1 (wpIn_visits (n := 9) (by omega) hV (by simp; omega) hen rfl
  (fun k W => Kp W ∧ Past w.heap.size g w W ∧ Held W w.heap.size w.heap.size 65 5 ((bv l).take k))
  (fun _ _ => False)
  (fun k W W' ⟨h1, h2, v, h3, h4, h5⟩ t => ⟨hKp _ _ h1 (t.below.mono (by simp)), t.past h2 (by simp), v, t.block h3, t.own h4, h5⟩)
  (fun _ _ _ h _ => h)
  (fun k W h => h.1)
  (fun k W W' ⟨h1, h2, v, h3, h4, h5⟩ t hk hs => by
   simp only [World.size_alloc] at hs
   refine ⟨hk, h2.trans (t.mono (by omega)), v, h3.past t h3.lt (by omega), ?_, h5⟩
   refine h4.grown (row := some g) ⟨t.os, t.tape, t.output, t.size, fun k hk hne => t.block k hk (by simpa using hne)⟩ (.inr ?_)
   intro e
   have := h4.lt g e
   omega)
  ⟨hKp _ _ h0 ((Below.refl _ w).alloc (Nat.le_refl _) _), Past.of_below ((Below.refl _ w).alloc (Nat.le_refl _) _) g, .slice none 0 0, Block.new _ _ _, Own.nil _ _ _, by simp [Value.ownBlock]⟩
  ?a1 ?assign ?body ?done (fun _ _ h => h.elim))
 case assign =>
  intro l k v W K hk hK
  gi_wp2
  exact hK
 case body =>
  rintro l' k v W hk ⟨k1, k2, v0, k3, k4, k5⟩ hsz
  simp only [World.size_alloc] at hsz
  obtain ⟨hkl, hkv⟩ := List.getElem?_eq_some_iff.1 hk
  obtain ⟨x, rfl⟩ : ∃ x : Int, v = .int .u8 x := ⟨_, by rw [← hkv, bv_get]⟩
  have htk : (bv l).take (k + 1) = (bv l).take k ++ [.int .u8 x] := by rw [take_succ' _ hkl, hkv]
  obtain ⟨A, c, rfl, hrow, _⟩ := k4.form
  have hc := k3.cell 0
  have hf := k3.frozen 0
  have hm : ((bv l).take k).length ≤ l.length := by rw [List.length_take, bv_length]; omega
  obtain ⟨m, hmm⟩ : ∃ m, ((bv l).take k).length = m := ⟨_, rfl⟩
  rw [hmm] at hm hc k5 k4 k3
  have HM := Lib.hid hmm
  clear hmm
  gi_wp2_with (gi_at_builtin; refine wpListIn_app _ rfl _ _ 65 rfl w.heap.size 5 (.int .u8 0) 1 Try.underlying65 info_b rfl (by decide) _ _ rfl (k4.alloc _) _ 1 1 [.int .u8 x] rfl rfl (Row.new _ _ _ _) (by intro u hu; obtain rfl := List.mem_singleton.1 hu; rfl) (by rw [HM.out]; omega) (by simp; omega) ?_; rintro v2 w2 hO hgr hb; replace hgr : (W.alloc _).grownBy w2 (Value.slice A m c).ownBlock := hgr; replace hb : _ = (Value.slice A m c).ownBlock ∨ _ := hb; have hbx := block_grown (k3.alloc _) hgr k5; have hc2 := hbx.cell 0; have hf2 := hbx.frozen 0; obtain ⟨A2, c2, rfl, _, _⟩ := hO.form; generalize hn2 : (List.take k (bv l) ++ [Value.int .u8 x]).length = n2 at hO hb ⊢)
  have hne : (Value.slice A2 n2 c2).ownBlock ≠ some w.heap.size := by
   rcases hb with e | e
   ·rw [e]; exact k5
   ·rw [e]; simp; omega
  have hbel : Below w.heap.size W (w2.setCell ⟨w.heap.size, 0, none⟩ (.slice A2 n2 c2)) :=
   (((Below.refl _ W).alloc (by omega) _).trans ((k4.alloc _).grew (by simp; omega) hgr)).setCell (p := ⟨w.heap.size, 0, none⟩) (Nat.le_refl _) _
  refine ⟨((KeepsOthers.alloc _ _).from _).trans ((keeps_grown (k4.alloc _) hgr).trans ((KeepsOthers.setCell _ _ _).from _)), hKp _ _ k1 hbel, k2.trans (Past.of_below hbel g), _, hbx.set_ 0 _, ?_, hne⟩
  rw [htk]
  exact hO.far (by exact hne) _
 case done =>
  rintro W ⟨k1, k2, v, k3, k4, k5⟩ hD
  rw [List.take_length] at k4
  obtain ⟨A, c, rfl, hrow, _⟩ := k4.form
  have hc := k3.cell 0
  have hf := k3.frozen 0
  generalize hn2 : (bv l).length = m at *
  go_wp2
  refine ⟨by simp, .inl ⟨_, _, rfl, run_takeDeferred hD, ?_⟩⟩
  have ht : Turn w.heap.size W _ := Turn.put hD rfl (by simp) (.deferred none)
  exact ⟨.slice A m c, by simp [results, Try.results46, go_sem], _, rfl, ht.own k4, ht.past k2 (Nat.le_refl _), hKp _ _ k1 ht.below⟩
end Go.Proofs.Ytjoghbmedfmioab.Pt

namespace Go.Proofs.Ytjoghbmedfmioab.Pt
open Go.RowKit Go.Shelf Poly GF
attribute [local go_sem] Oper.semAt_some
def gidx (s t k : Nat) : Nat := k / s + k % s * t
def gpts (s t G : Nat) : List Nat := (List.range (G * s)).map fun k => gp (gidx s t k)
theorem gpts_length (s t G : Nat) : (gpts s t G).length = G * s := by simp [gpts]
theorem gpts_at {s t G c e : Nat} (hc : c < G) (he : e < s) : (bv (gpts s t G))[c * s + e]? = some (.int .u8 (gp (c + e * t) : Nat)) := by
 have h1 : c * s + e < G * s := by
  have : (c + 1) * s ≤ G * s := Nat.mul_le_mul_right s (by omega)
  rw [Nat.add_mul] at this; omega
 have hg : gidx s t (c * s + e) = c + e * t := by
  unfold gidx
  rw [Nat.add_comm (c * s) e, Nat.add_mul_div_right _ _ (by omega), Nat.div_eq_of_lt he, Nat.add_mul_mod_self_right, Nat.mod_eq_of_lt he, Nat.zero_add]
 simp only [bv, gpts, List.getElem?_map, List.getElem?_range h1, Option.map_some, hg]
structure Grp (b1 b2 b3 b4 g G s t : Nat) (W : World) : Prop where
 c1 : Block W b1 3 #[.int .i64 (G : Nat)]
 c2 : Block W b2 3 #[.int .i64 (s : Nat)]
 c3 : Block W b3 30 #[.pointer (some ⟨g, 0, none⟩)]
 c4 : Block W b4 3 #[.int .i64 (t : Nat)]
 fld : Fld W g
theorem fld_ne {W : World} {g b : Nat} {t : TypeId} {u : Value} (h : Fld W g) (hb : Block W b t #[u]) : b ≠ g := fun e => by
 subst e
 rcases h with hf | hf
 all_goals
  have h1 := hb.cell 1
  rw [hf.cell 1, fcells_get _ _ _ _ (by decide)] at h1
  simp at h1
theorem fld_far {W : World} {g : Nat} {p : Addr} (h : Fld W g) (hp : g ≠ p.block) (u : Value) : Fld (W.setCell p u) g := h.imp (fun h => h.far hp u) (fun h => h.far hp u)
theorem block_last (W : World) (p : Addr) (u : Value) (t : TypeId) (cs : Array Value) : Block ((W.setCell p u).alloc (.cells cs t)) W.heap.size t cs := by
 have h := Block.new (W.setCell p u) t cs
 rwa [show (W.setCell p u).heap.size = W.heap.size by simp [World.setCell]] at h
theorem Grp.ne {b1 b2 b3 b4 g G s t : Nat} {W : World} (h : Grp b1 b2 b3 b4 g G s t W) : b1 ≠ g ∧ b2 ≠ g ∧ b3 ≠ g ∧ b4 ≠ g := by
 exact ⟨fld_ne h.fld h.c1, fld_ne h.fld h.c2, fld_ne h.fld h.c3, fld_ne h.fld h.c4⟩
theorem Grp.past {b1 b2 b3 b4 g G s t : Nat} {W W' : World} (h : Grp b1 b2 b3 b4 g G s t W) (hp : Past W.heap.size g W W') (hf : Fld W' g) : Grp b1 b2 b3 b4 g G s t W' :=
 have n := h.ne
 ⟨h.c1.past hp h.c1.lt n.1, h.c2.past hp h.c2.lt n.2.1, h.c3.past hp h.c3.lt n.2.2.1, h.c4.past hp h.c4.lt n.2.2.2, hf⟩
theorem Grp.below {b1 b2 b3 b4 g G s t B : Nat} {W W' : World} (h : Grp b1 b2 b3 b4 g G s t W) (hp : Below B W W') (h1 : b1 < B) (h2 : b2 < B) (h3 : b3 < B) (h4 : b4 < B) (h5 : g < B) : Grp b1 b2 b3 b4 g G s t W' :=
 ⟨h.c1.below hp h1, h.c2.below hp h2, h.c3.below hp h3, h.c4.below hp h4, h.fld.below hp h5⟩
set_option maxRecDepth 100000 in
set_option maxHeartbeats 2000000 in
theorem grouped_visits (b1 b2 b3 b4 g G s t : Nat) (hG : G ≤ 1000) (hs : s ≤ 1000) (ht : t ≤ 1000) :
  Visits 68 #[.pointer (some ⟨b1, 0, none⟩), .pointer (some ⟨b2, 0, none⟩), .pointer (some ⟨b3, 0, none⟩), .pointer (some ⟨b4, 0, none⟩)] g (Grp b1 b2 b3 b4 g G s t) (bv (gpts s t G)) := by
 intro n hn l J Jx hJ hT hY W h0
 rw [bv_length, gpts_length]
 refine callsIn_of_wp Try.func68 rfl trivial ?_ rfl
 simp only [Try.ntmps68, List.size_toArray, List.length_cons, List.length_nil, Nat.reduceAdd, Nat.reduceSub, Array.replicate_succ, Array.replicate_zero, List.push_toArray, List.append_toArray, List.nil_append, List.cons_append]
 have hb0 := (hJ _ _ h0).c1.cell 0
 gi_wp2
 gi_loopw [9] (fun i wr => ∃ c : Nat, c ≤ G ∧ i = .int .i64 c ∧ J (c * s) wr) (fun i _ => G - (intOf i).toNat)
 case atStart => exact ⟨0, Nat.zero_le _, rfl, by rw [Nat.zero_mul]; exact h0⟩
 case round =>
  obtain ⟨c, hc, rfl, hj⟩ := hrel
  by_cases hcG : c < G
  ·have hb1 := (hJ _ _ hj).c2.cell 0
   gi_wp2
   gi_loopw [13] (fun i wr2 => ∃ e : Nat, e ≤ s ∧ i = .int .i64 e ∧ J (c * s + e) wr2) (fun i _ => s - (intOf i).toNat)
   case atStart => exact ⟨0, Nat.zero_le _, rfl, hj⟩
   case round =>
    obtain ⟨e, he, rfl, hj2⟩ := hrel
    by_cases hes : e < s
    ·have hK := hJ _ _ hj2
     have d3 := hK.c3.cell 0
     have d4 := hK.c4.cell 0
     obtain ⟨p, hp⟩ : ∃ p, e * t = p := ⟨_, rfl⟩
     have hpt : (e : Int) * (t : Int) = (p : Int) := by rw [← hp]; simp
     have hpb : p ≤ 1000000 := by rw [← hp]; exact Nat.mul_le_mul (show e ≤ 1000 by omega) ht
     have hv := gpts_at (t := t) hcG hes
     rw [hp] at hv
     have HG : Hid (ge ((c : Int) + (p : Int)) = gp (c + p)) := Lib.hid (by rw [← ge_nat, Int.natCast_add])
     clear hp
     gi_wp2_with fail
     refine ⟨trivial, (callsIn_wide.2 (exp_calls (some ⟨g, 0, none⟩) ((c : Int) + (p : Int)) (by omega) (by omega) _ (FldP.of hK.fld))).mono ?_⟩
     rintro ee W2 ⟨rfl, hf2, hP2⟩
     rw [HG.out]
     clear hpt
     have hj3 := hT _ _ _ hj2 hP2 (hK.past hP2 hf2.fld)
     obtain ⟨fn, tmps, assign, body, hy, hR⟩ := hY _ _ _ hv hj3
     gi_wp2
     refine hR.mono ?_
     rintro ee W3 (⟨rfl, hJ3⟩ | ⟨rfl, hJx3⟩)
     ·gi_wp2
      go_roundw
      case rel => exact ⟨e + 1, by omega, by go_num, hJ3⟩
      case measure => simp [intOf]; omega
     ·gi_wp2
      refine bodyPost_ret (results_none rfl _ _ _) rfl ?_
      exact ⟨⟨_, rfl⟩, .inr hJx3⟩
    ·obtain rfl : e = s := by omega
     rw [show c * e + e = (c + 1) * e by rw [Nat.add_mul, Nat.one_mul]] at hj2
     gi_wp2
     go_roundw
     case rel => exact ⟨c + 1, by omega, by go_num, hj2⟩
     case measure => simp [intOf]; omega
  ·obtain rfl : c = G := by omega
   gi_wp2
   go_end0
   exact ⟨⟨_, rfl⟩, .inl hj⟩
def NewF (pf : Option Addr) (w : World) (e : Ending) (w' : World) : Prop :=
 ∃ g, e = .returned (.pointer (some ⟨g, 0, none⟩)) ∧ ((pf = none ∧ w.heap.size ≤ g) ∨ pf = some ⟨g, 0, none⟩) ∧ Fld w' g ∧ Below w.heap.size w w'
theorem orNew_p (pf : Option Addr) (w : World) (hf : FldP w pf) : Calls Try.prog 67 #[.pointer pf] w (NewF pf w) := by
 rcases hf with rfl | ⟨g, rfl, hg⟩
 ·go_enter Try.func67, Try.ntmps67
  go_wp2_with (go_at_call 6; refine (new_calls _).mono ?_; rintro e w' ⟨rfl, rfl⟩)
  go_ret
  exact ⟨w.heap.size, rfl, .inl ⟨rfl, Nat.le_refl _⟩, Fld.new w, (Below.refl _ _).alloc (Nat.le_refl _) _⟩
 ·go_enter Try.func67, Try.ntmps67
  go_wp2
  go_ret
  exact ⟨g, rfl, .inr rfl, hg, Below.refl _ _⟩
set_option maxRecDepth 100000 in
set_option maxHeartbeats 2000000 in
theorem grouped_calls (pf : Option Addr) (s G : Nat) (hs : 1 ≤ s) (hs2 : s ≤ 255) (w : World) (hf : FldP w pf) :
  Calls Try.prog 47 #[.pointer pf, .int .i64 s, .int .i64 G] w fun e w' => ∃ g b1 b2 b3 b4,
   e = .returned (.func (.func 68) #[] #[.pointer (some ⟨b1, 0, none⟩), .pointer (some ⟨b2, 0, none⟩), .pointer (some ⟨b3, 0, none⟩), .pointer (some ⟨b4, 0, none⟩)]) ∧
   Grp b1 b2 b3 b4 g G s (255 / s) w' ∧ ((pf = none ∧ w.heap.size ≤ g) ∨ pf = some ⟨g, 0, none⟩) ∧ Below w.heap.size w w' := by
 have hq : (255 : Int).tdiv (s : Int) = ((255 / s : Nat) : Int) := by rw [Int.tdiv_eq_ediv_of_nonneg (by decide)]; simp
 have hq2 : 255 / s ≤ 255 := Nat.div_le_self _ _
 obtain ⟨t, ht⟩ : ∃ t, 255 / s = t := ⟨_, rfl⟩
 rw [ht] at hq hq2 ⊢
 clear ht
 have hne : (s : Int) ≠ 0 := by omega
 go_enter Try.func47, Try.ntmps47
 have hB0 := (((Below.refl w.heap.size w).alloc (Nat.le_refl _) (.cells #[Value.pointer pf] 30)).alloc (by simp) (.cells #[Value.int .i64 s] 3)).alloc (by simp; omega) (.cells #[Value.int .i64 G] 3)
 have e1 := ((Block.new w 30 #[Value.pointer pf]).alloc (.cells #[Value.int .i64 s] 3)).alloc (.cells #[Value.int .i64 G] 3)
 have e2 := (Block.new (w.alloc (.cells #[Value.pointer pf] 30)) 3 #[Value.int .i64 s]).alloc (.cells #[Value.int .i64 G] 3)
 have e3 := Block.new ((w.alloc (.cells #[Value.pointer pf] 30)).alloc (.cells #[Value.int .i64 s] 3)) 3 #[Value.int .i64 G]
 simp only [World.size_alloc] at e2 e3
 go_wp2_with (go_at_call 67; refine (orNew_p pf _ (hf.below hB0)).mono ?_; rintro e w1 ⟨g, rfl, hg, hF, hB⟩; replace e1 := e1.below hB e1.lt; replace e2 := e2.below hB e2.lt; replace e3 := e3.below hB e3.lt; have c1 := e1.cell 0; have f1 := e1.frozen 0; have c2 := e2.cell 0; have f2 := e2.frozen 0; have c3 := e3.cell 0)
 go_ret
 have hg0 : w.heap.size ≠ g := fld_ne hF e1
 have hsz := hB.size
 simp only [World.size_alloc] at hsz hg
 refine ⟨g, _, _, _, _, rfl, ⟨(e3.far (by simp; omega) _).alloc _, (e2.far (by simp) _).alloc _, (e1.set_ 0 _).alloc _, block_last _ _ _ _ _, (fld_far hF (by simp; omega) _).alloc _⟩, hg.imp (fun h => ⟨h.1, by omega⟩) id, ?_⟩
 exact ((hB0.trans (hB.mono (by simp; omega))).setCell (p := ⟨w.heap.size, 0, none⟩) (Nat.le_refl _) _).alloc (by simp [World.setCell]; omega) _
end Go.Proofs.Ytjoghbmedfmioab.Pt

namespace Go.Proofs.Ytjoghbmedfmioab.Pt
open Go.RowKit Go.Shelf Poly GF
attribute [local go_sem] Oper.semAt_some
def pts (n : Nat) : List Nat := (List.range n).map gp
theorem pts_length (n : Nat) : (pts n).length = n := by simp [pts]
theorem pts_of (n : Nat) : gpts 1 255 n = pts n := by
 unfold gpts pts gidx
 rw [Nat.mul_one]
 refine List.map_congr_left fun k _ => ?_
 rw [Nat.div_one, Nat.mod_one, Nat.zero_mul, Nat.add_zero]
def Pts (pf : Option Addr) (w : World) (r : List Nat × Int) (e : Ending) (w' : World) : Prop :=
 ∃ v, e = .returned (.tuple #[v, .int .i64 r.2]) ∧ Own w' w.heap.size 5 v (bv r.1) ∧ FldP w' pf ∧ Past w.heap.size (rb w pf) w w'
theorem Pts.bad {pf : Option Addr} {w w' : World} (hf : FldP w' pf) (hP : Past w.heap.size (rb w pf) w w') : Pts pf w ([], 2) (.returned (.tuple #[.slice none 0 0, .int .i64 2])) w' :=
 ⟨_, rfl, Own.nil _ _ _, hf, hP⟩
theorem grp_list (pf : Option Addr) (s G : Nat) (hs : 1 ≤ s) (hs2 : s ≤ 255) (hG : G ≤ 255) (hl : G * s ≤ 255) {w w1 : World} {g b1 b2 b3 b4 : Nat} (hf : FldP w pf)
  (hK : Grp b1 b2 b3 b4 g G s (255 / s) w1) (hg : (pf = none ∧ w.heap.size ≤ g) ∨ pf = some ⟨g, 0, none⟩) (hB : Below w.heap.size w w1) :
  Calls Try.prog 46 #[.func (.func 68) #[] #[.pointer (some ⟨b1, 0, none⟩), .pointer (some ⟨b2, 0, none⟩), .pointer (some ⟨b3, 0, none⟩), .pointer (some ⟨b4, 0, none⟩)]] w1 fun e w' =>
   ∃ v, e = .returned v ∧ Own w' w.heap.size 5 v (bv (gpts s (255 / s) G)) ∧ FldP w' pf ∧ Past w.heap.size (rb w pf) w w' := by
 have hd : 255 / s ≤ 255 := Nat.div_le_self _ _
 have hsz := hB.size
 refine (listB_calls _ g _ (Grp b1 b2 b3 b4 g G s (255 / s)) _ (by rw [gpts_length]; omega) w1 (grouped_visits b1 b2 b3 b4 g G s (255 / s) (by omega) (by omega) (by omega)) (fun _ _ => by kernel_rfl) hK.fld.lt
  (fun W W' h hb => h.below hb hK.c1.lt hK.c2.lt hK.c3.lt hK.c4.lt hK.fld.lt) hK).mono ?_
 rintro e w' ⟨v, rfl, hO, hP, hK2⟩
 refine ⟨v, rfl, hO.more hsz, ?_⟩
 rcases hg with ⟨rfl, hg⟩ | rfl
 ·exact ⟨.inl rfl, Past.of_below (hB.trans ((hP.mono hsz).below hg)) _⟩
 ·exact ⟨FldP.of hK2.fld, (Past.of_below hB _).trans (hP.mono hsz)⟩
def ofR (n : Int) : List Nat × Int := if 0 ≤ n ∧ n ≤ 255 then (pts n.toNat, 0) else ([], 2)
set_option maxRecDepth 100000 in
set_option maxHeartbeats 2000000 in
theorem of_calls (pf : Option Addr) (n : Int) (w : World) (hf : FldP w pf) : Calls Try.prog 37 #[.pointer pf, .int .i64 n] w (Pts pf w (ofR n)) := by
 by_cases h0 : n < 0
 ·have e1 : ofR n = ([], 2) := if_neg (by omega)
  rw [e1]
  go_enter Try.func37, Try.ntmps37
  go_wp2
  go_ret2
  exact Pts.bad hf (Past.refl _ _ _)
 by_cases h1 : 255 < n
 ·have e1 : ofR n = ([], 2) := if_neg (by omega)
  rw [e1]
  go_enter Try.func37, Try.ntmps37
  go_wp2
  go_ret2
  exact Pts.bad hf (Past.refl _ _ _)
 obtain ⟨m, rfl⟩ : ∃ m : Nat, n = (m : Int) := ⟨n.toNat, by omega⟩
 have e1 : ofR (m : Int) = (gpts 1 255 m, 0) := by
  unfold ofR
  rw [if_pos (by omega), Int.toNat_natCast, pts_of]
 rw [e1]
 go_enter Try.func37, Try.ntmps37
 go_wp2_with (go_at_call 47; refine (grouped_calls pf 1 m (by decide) (by decide) _ hf).mono ?_; rintro e w1 ⟨g, b1, b2, b3, b4, rfl, hK, hg, hB⟩)
 go_wp2_with (go_at_call 46; refine (grp_list pf 1 m (by decide) (by decide) (by omega) (by omega) hf hK hg hB).mono ?_; rintro e w2 ⟨v, rfl, hO, hF, hP⟩)
 go_ret2
 exact ⟨v, rfl, hO, hF, hP⟩
theorem past_next {pf : Option Addr} {w w1 w2 : World} (h1 : Past w.heap.size (rb w pf) w w1) (h2 : Past w1.heap.size (rb w1 pf) w1 w2) : Past w.heap.size (rb w pf) w w2 := by
 cases pf with
 | none => exact h1.trans (Past.of_below ((h2.below (Nat.le_refl _)).mono h1.size) _)
 | some a => exact h1.trans (h2.mono h1.size)
theorem Pts.next {pf : Option Addr} {w w1 w2 : World} {r : List Nat × Int} {e : Ending} (h1 : Past w.heap.size (rb w pf) w w1) (h : Pts pf w1 r e w2) : Pts pf w r e w2 := by
 obtain ⟨v, h2, h3, h4, h5⟩ := h
 exact ⟨v, h2, h3.more h1.size, h4, past_next h1 h5⟩
def lim (a : Nat) : Nat := 255 / Nat.gcd 255 a
theorem lim_order (a : Nat) : gord (gp a) = lim a := by
 unfold gord lim
 rw [if_neg (gp_ne a), gl_gp]
 congr 1
 rw [Nat.gcd_comm, Nat.gcd_comm 255 a, ← Nat.gcd_rec 255 a, Nat.gcd_comm]
theorem lim_le (a : Nat) : lim a ≤ 255 := Nat.div_le_self _ _
def spreadR (n a : Int) : List Nat × Int := if 1 ≤ a ∧ a ≤ 255 ∧ 0 ≤ n ∧ n ≤ lim a.toNat then (pts n.toNat, 0) else ([], 2)
set_option maxRecDepth 100000 in
set_option maxHeartbeats 2000000 in
theorem spread_calls (pf : Option Addr) (n a : Int) (w : World) (hf : FldP w pf) : Calls Try.prog 22 #[.pointer pf, .int .i64 n, .int .i64 a] w (Pts pf w (spreadR n a)) := by
 by_cases h0 : a < 1
 ·have e1 : spreadR n a = ([], 2) := if_neg (by omega)
  rw [e1]
  go_enter Try.func22, Try.ntmps22
  go_wp2
  go_ret2
  exact Pts.bad hf (Past.refl _ _ _)
 by_cases h1 : 255 < a
 ·have e1 : spreadR n a = ([], 2) := if_neg (by omega)
  rw [e1]
  go_enter Try.func22, Try.ntmps22
  go_wp2
  go_ret2
  exact Pts.bad hf (Past.refl _ _ _)
 obtain ⟨b, rfl⟩ : ∃ b : Nat, a = (b : Int) := ⟨a.toNat, by omega⟩
 have hl := lim_le b
 by_cases h2 : (lim b : Int) < n
 ·have e1 : spreadR n (b : Int) = ([], 2) := if_neg (by rw [Int.toNat_natCast]; omega)
  rw [e1]
  obtain ⟨L, hL⟩ : ∃ L, lim b = L := ⟨_, rfl⟩
  rw [hL] at h2 hl
  have HL := Lib.hid hL
  clear hL
  go_enter Try.func22, Try.ntmps22
  go_wp2_with fail
  refine (exp_calls pf b (by omega) (by omega) _ hf).mono ?_
  rintro e w1 ⟨rfl, hf1, hP1⟩
  rw [ge_nat]
  go_wp2_with fail
  refine (order_calls pf (gp b) (gp_lt b) (gp_ne b) _ hf1).mono ?_
  rintro e w2 ⟨rfl, hf2, hP2⟩
  rw [lim_order, HL.out]
  go_wp2
  go_ret2
  exact Pts.bad hf2 (past_next hP1 hP2)
 ·have e1 : spreadR n (b : Int) = ofR n := by
   unfold spreadR ofR
   rw [Int.toNat_natCast]
   by_cases h3 : 0 ≤ n
   ·rw [if_pos (by omega), if_pos (by omega)]
   ·rw [if_neg (by omega), if_neg (by omega)]
  rw [e1]
  obtain ⟨L, hL⟩ : ∃ L, lim b = L := ⟨_, rfl⟩
  rw [hL] at h2 hl
  have HL := Lib.hid hL
  clear hL e1
  go_enter Try.func22, Try.ntmps22
  go_wp2_with fail
  refine (exp_calls pf b (by omega) (by omega) _ hf).mono ?_
  rintro e w1 ⟨rfl, hf1, hP1⟩
  rw [ge_nat]
  go_wp2_with fail
  refine (order_calls pf (gp b) (gp_lt b) (gp_ne b) _ hf1).mono ?_
  rintro e w2 ⟨rfl, hf2, hP2⟩
  rw [lim_order, HL.out]
  go_wp2_with (go_at_call 37; refine (of_calls pf n _ hf2).mono ?_; rintro e w3 h3; obtain ⟨v, rfl, hO, hF, hP⟩ := h3.next (past_next hP1 hP2); obtain ⟨A, c, rfl, _⟩ := hO.form)
  go_ret2
  exact ⟨_, rfl, hO, hF, hP⟩
def cosetsR (r G : Int) : List Nat × Int := if 1 ≤ r ∧ r ≤ 254 ∧ 255 % (r + 1) = 0 ∧ 0 ≤ G ∧ G ≤ 255 / (r + 1) then (gpts (r.toNat + 1) (255 / (r.toNat + 1)) G.toNat, 0) else ([], 2)
theorem rem_big {x : Int} (h : 255 < x ∨ x < -255) : (255 : Int).tmod x = 255 := by
 rcases h with h | h
 ·rw [Int.tmod_eq_emod_of_nonneg (by decide), Int.emod_eq_of_lt (by decide) h]
 ·rw [← Int.tmod_neg, Int.tmod_eq_emod_of_nonneg (by decide), Int.emod_eq_of_lt (by decide) (by omega)]
set_option maxRecDepth 100000 in
set_option maxHeartbeats 2000000 in
theorem cosets_calls (pf : Option Addr) (r G : Int) (hr : r < 9223372036854775808) (w : World) (hf : FldP w pf) : Calls Try.prog 29 #[.pointer pf, .int .i64 r, .int .i64 G] w (Pts pf w (cosetsR r G)) := by
 by_cases h0 : r < 1
 ·have e1 : cosetsR r G = ([], 2) := if_neg (by omega)
  rw [e1]
  go_enter Try.func29, Try.ntmps29
  go_wp2
  go_ret2
  exact Pts.bad hf (Past.refl _ _ _)
 by_cases h1 : r = 9223372036854775807
 ·have e1 : cosetsR r G = ([], 2) := if_neg (by omega)
  rw [e1]
  subst h1
  have h3 : wrap64 9223372036854775808 = -9223372036854775808 := by decide +kernel
  have h4 : (255 : Int) % (-9223372036854775808) = 255 := by decide
  have h5 : (255 : Int).tmod (-9223372036854775808) = 255 := by decide
  go_enter Try.func29, Try.ntmps29
  go_wp2
  go_ret2
  exact Pts.bad hf (Past.refl _ _ _)
 by_cases h2 : 254 < r
 ·have e1 : cosetsR r G = ([], 2) := if_neg (by omega)
  rw [e1]
  have h3 := rem_big (x := r + 1) (.inl (by omega))
  have h4 : ¬ (r + 1 = 0) := by omega
  go_enter Try.func29, Try.ntmps29
  go_wp2
  go_ret2
  exact Pts.bad hf (Past.refl _ _ _)
 obtain ⟨m, rfl⟩ : ∃ m : Nat, r = (m : Int) := ⟨r.toNat, by omega⟩
 obtain ⟨s, hs⟩ : ∃ s : Nat, m + 1 = s := ⟨_, rfl⟩
 have hs1 : (m : Int) + 1 = (s : Int) := by omega
 have hsn : ¬ ((s : Int) = 0) := by omega
 have hmod : (255 : Int).tmod (s : Int) = ((255 % s : Nat) : Int) := by rw [Int.tmod_eq_emod_of_nonneg (by decide)]; simp
 have hmod2 : (255 : Int) % (s : Int) = ((255 % s : Nat) : Int) := by simp
 have hdiv : (255 : Int).tdiv (s : Int) = ((255 / s : Nat) : Int) := by rw [Int.tdiv_eq_ediv_of_nonneg (by decide)]; simp
 have hdiv2 : (255 : Int) / (s : Int) = ((255 / s : Nat) : Int) := by simp
 have hR : cosetsR (m : Int) G = if 255 % s = 0 ∧ 0 ≤ G ∧ G ≤ ((255 / s : Nat) : Int) then (gpts s (255 / s) G.toNat, 0) else ([], 2) := by
  unfold cosetsR
  rw [hs1, hmod2, hdiv2, Int.toNat_natCast, hs]
  by_cases h : 255 % s = 0 ∧ 0 ≤ G ∧ G ≤ ((255 / s : Nat) : Int)
  ·rw [if_pos h, if_pos (by omega)]
  ·rw [if_neg h, if_neg (by omega)]
 have hdle : 255 / s ≤ 255 := Nat.div_le_self _ _
 have hmle : 255 % s ≤ 255 := Nat.mod_le _ _
 have hprod : 255 / s * s ≤ 255 := Nat.div_mul_le_self _ _
 rw [hR]
 clear hR hmod2 hdiv2
 obtain ⟨t, ht⟩ : ∃ t, 255 / s = t := ⟨_, rfl⟩
 obtain ⟨q, hq⟩ : ∃ q, 255 % s = q := ⟨_, rfl⟩
 have HT := Lib.hid ht
 rw [ht] at hdiv hdle hprod ⊢
 rw [hq] at hmod hmle ⊢
 clear ht hq
 by_cases h3 : q = 0
 ·subst h3
  by_cases h4 : G < 0
  ·rw [if_neg (by omega)]
   go_enter Try.func29, Try.ntmps29
   go_wp2
   go_ret2
   exact Pts.bad hf (Past.refl _ _ _)
  by_cases h5 : (t : Int) < G
  ·rw [if_neg (by omega)]
   go_enter Try.func29, Try.ntmps29
   go_wp2
   go_ret2
   exact Pts.bad hf (Past.refl _ _ _)
  obtain ⟨k, rfl⟩ : ∃ k : Nat, G = (k : Int) := ⟨G.toNat, by omega⟩
  rw [if_pos (by omega), Int.toNat_natCast]
  have hkt : k ≤ t := by omega
  have hks : k * s ≤ 255 := Nat.le_trans (Nat.mul_le_mul_right s hkt) hprod
  clear hkt hprod
  rw [← HT.out]
  go_enter Try.func29, Try.ntmps29
  go_wp2_with (go_at_call 47; refine (grouped_calls pf s k (by omega) (by omega) _ hf).mono ?_; rintro e w1 ⟨g, b1, b2, b3, b4, rfl, hK, hg, hB⟩)
  go_wp2_with (go_at_call 46; refine (grp_list pf s k (by omega) (by omega) (by omega) hks hf hK hg hB).mono ?_; rintro e w2 ⟨v, rfl, hO, hF, hP⟩)
  go_ret2
  exact ⟨v, rfl, hO, hF, hP⟩
 ·rw [if_neg (by omega)]
  have h6 : ¬ ((q : Int) = 0) := by omega
  go_enter Try.func29, Try.ntmps29
  go_wp2
  go_ret2
  exact Pts.bad hf (Past.refl _ _ _)
end Go.Proofs.Ytjoghbmedfmioab.Pt

namespace Go.Proofs.Ytjoghbmedfmioab.Ms
open F8 Poly Rd Mat Wl GF
theorem gp_eq {m n : Nat} (h : gp m = gp n) : m % 255 = n % 255 := gp_inj (Nat.mod_lt _ (by omega)) (Nat.mod_lt _ (by omega)) (by rw [gp_mod, gp_mod, h])
theorem gp_add (m n : Nat) : gp (m + n) = gm (gp m) (gp n) := by
 have h := ge_add (m : Int) (n : Int)
 rw [ge_nat, ge_nat, ← Int.natCast_add, ge_nat] at h
 exact h
theorem xpow_gp (i : Nat) : ∀ a, xpow (⟨gp i, gp_lt i⟩ : F8) a = ⟨gp (i * a), gp_lt _⟩
 | 0 => by apply F8.ext; show (1 : Nat) = gp (i * 0); rw [Nat.mul_zero]; rfl
 | a + 1 => by
  rw [Wl.xpow_succ, xpow_gp i a]
  apply F8.ext
  show gm (gp i) (gp (i * a)) = gp (i * (a + 1))
  rw [← gp_add, Nat.mul_succ, Nat.add_comm]
theorem lim_apart {a i j : Nat} (hi : i < Pt.lim a) (hj : j < Pt.lim a) (h : (i * a) % 255 = (j * a) % 255) : i = j := by
 have key : ∀ i j, i ≤ j → j < Pt.lim a → (i * a) % 255 = (j * a) % 255 → i = j := fun i j hij hj h => by
  have hg : 0 < Nat.gcd 255 a := Nat.gcd_pos_of_pos_left _ (by omega)
  have h1 : 255 ∣ (j - i) * a := by
   rw [Nat.sub_mul]
   exact Nat.dvd_of_mod_eq_zero (Nat.sub_mod_eq_zero_of_mod_eq h.symm)
  obtain ⟨g, hgg⟩ : ∃ g, Nat.gcd 255 a = g := ⟨_, rfl⟩
  have d1 : g ∣ 255 := hgg ▸ Nat.gcd_dvd_left 255 a
  have d2 : g ∣ a := hgg ▸ Nat.gcd_dvd_right 255 a
  have h5 : Nat.Coprime (255 / g) (a / g) := hgg ▸ Nat.coprime_div_gcd_div_gcd hg
  have h4 : 255 / g ∣ (j - i) * (a / g) := by
   refine Nat.dvd_of_mul_dvd_mul_right (hgg ▸ hg) ?_
   rw [Nat.mul_assoc, Nat.div_mul_cancel d2, Nat.div_mul_cancel d1]; exact h1
  have h6 := h5.dvd_of_dvd_mul_right h4
  rcases Nat.eq_zero_or_pos (j - i) with h7 | h7
  ·omega
  ·have := Nat.le_of_dvd h7 h6
   unfold Pt.lim at hj
   rw [hgg] at hj
   omega
 rcases Nat.le_total i j with hij | hij
 ·exact key i j hij hj h
 ·exact (key j i hij hi h.symm).symm
theorem coef_pts {n i : Nat} (h : i < n) : coef (Rd.pts n) i = ⟨gp i, gp_lt i⟩ := by
 rw [coef_of_lt (by rw [Rd.pts_length]; exact h)]; simp [Rd.pts]
theorem pts_ok {a n : Nat} (h : n ≤ Pt.lim a) : Pts (Rd.pts n) a := by
 have h255 := Pt.lim_le a
 refine ⟨Rd.pts_nodup (by omega), fun i hi => ?_, fun i j hi hj hne e => hne ?_⟩
 ·rw [Rd.pts_length] at hi
  rw [coef_pts hi]
  exact fun e => gp_ne i (congrArg F8.n e)
 ·rw [Rd.pts_length] at hi hj
  rw [coef_pts hi, coef_pts hj, xpow_gp, xpow_gp] at e
  exact lim_apart (by omega) (by omega) (gp_eq (congrArg F8.n e))
theorem par_of {n k d : Nat} (hk2 : 2 ≤ k) (hd : 2 * k ≤ d + 2) (hdn : d < n) (hl : n + (d + 2 - 2 * k) ≤ Pt.lim (d + 1 - k)) : Par (Rd.pts (n + (d + 2 - 2 * k))) n k d (d + 1 - k) (d + 2 - 2 * k) := by
 have := Pt.lim_le (d + 1 - k)
 exact ⟨pts_ok hl, Rd.pts_length _, by omega, by omega, hk2, hdn, by omega⟩
end Go.Proofs.Ytjoghbmedfmioab.Ms

namespace Go.Proofs.Ytjoghbmedfmioab.Rd
open Go.RowKit Go.Shelf F8 Poly GF
attribute [local go_sem] Oper.semAt_some
section
variable {w0 w w' : World} {a b g B : Nat} {A : Option Addr} {xs : List F8} {n c k : Nat} {ls : List (Option Addr × List F8)}
theorem Cd.turn (h : Cd w b g A xs n c k) (hp : Past B a w w') (hB : w.heap.size ≤ B) (hb : b ≠ a) (hg : g ≠ a) (hA : ∀ x, A = some x → x.block ≠ a) : Cd w' b g A xs n c k :=
 { h with
  blk := h.blk.past hp (by have := h.blk.lt; omega) hb
  by_ := bytes_far h.by_ (fun _ => hA) (hp.mono hB)
  fld := FldP.of (h.fld.fld.imp (fun x => x.past hp (by have := x.lt; omega) hg) (fun x => x.past hp (by have := x.lt; omega) hg)) }
end
end Go.Proofs.Ytjoghbmedfmioab.Rd

namespace Go.Proofs.Ytjoghbmedfmioab.Rd
open Go.RowKit Go.Shelf F8 Poly GF
attribute [local go_sem] Oper.semAt_some
theorem grown_set (w : World) (p : Addr) (u : Value) : w.grownBy (w.setCell p u) (some p.block) := ⟨rfl, rfl, rfl, by simp [World.setCell], fun k _ hk => Below.heap_setCell _ _ _ _ (fun e => hk (by rw [e]))⟩
end Go.Proofs.Ytjoghbmedfmioab.Rd
