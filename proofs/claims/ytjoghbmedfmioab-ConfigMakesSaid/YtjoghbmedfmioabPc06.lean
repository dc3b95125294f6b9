/- Of the program, joined: PolyDown, PolyRef, PolyRef2, PolyRef3, GfOps, GfSt, Str, PolySame, PolySpec, PolyCode1, RdCode, RdRef, RdRef2, RdApp, Round, PolyCode2, PolySt, PolyCode3, PolyCode4. -/
import Derived.RangeFuncNested
import Derived.RangeFuncBound
import Derived.Shelf.Abstract
import Derived.Shelf.RegionOpen
import Derived.WalkKit
import Derived.OwnWalkIn
import Derived.TacticsInMore
import Derived.LoopNIn
import Derived.LoopIn
import Derived.Test.YtjoghbmedfmioabPc05
import Derived.Deep.RegionLaw
import Derived.Deep.RegionHeld3
import Derived.BigQuiet
import Derived.Deep.QuietTactic
import Derived.Test.YtjoghbmedfmioabPc01
import Derived.Laws.BytesArg
import Derived.Lib.ConvBytes
import Derived.Laws.Cover3
import Derived.Lib.AppendZeros
import Derived.Lib.AppendStr
import Derived.RangeFuncOwn
import Derived.StillTailTactics
import Derived.OrdersIn
import Derived.OrdersHeld
import Derived.RegionTactic
import Derived.Test.YtjoghbmedfmioabRows
import Derived.Laws.CopyOwn
namespace Go.Proofs.Ytjoghbmedfmioab.Poly
open Go.RowKit Go.Shelf F8
attribute [local go_sem] Oper.semAt_some
def DownPost (B : Nat) (I : List F8 → World → Prop) (Ix : Code → World → Prop) (W : World) : Exit → Act → World → Prop
 | .normal, _, W' => KeepsFrom B W W' ∧ ∃ p, I p W'
 | .ret, _, W' => KeepsFrom B W W' ∧ Ix .ret W'
 | .exit id, _, W' => KeepsFrom B W W' ∧ Ix (.exit id) W'
 | _, _, _ => False
set_option maxRecDepth 100000 in
set_option maxHeartbeats 2000000 in
theorem down1_in (n : Nat) (hn : 1 ≤ n) (l Bn m c : Nat) (A : Option Addr) (hm : m ≤ 1000000) (J : Nat → List F8 → World → Prop) (Jx : World → Prop)
  (hJ : ∀ k p W, J k p W → p.length = m ∧ Bytes W A (bs p) ∧ W.cell? ⟨Bn, 0, none⟩ = some (.slice A m c))
  (hY : ∀ k p W, k < m → J (k + 1) p W → YieldAt Fence.wide (n - 1) Try.prog l #[.int .i64 k, .int .u8 (coef p k).n] W fun e W' =>
   (e = .returned (.bool true) ∧ ∃ p', J k p' W') ∨ (e = .returned (.bool false) ∧ Jx W'))
  (W : World) (p : List F8) (h0 : J m p W) :
  CallsIn Fence.wide n Try.prog 75 #[.func (.yield l) #[] #[], .pointer (some ⟨Bn, 0, none⟩)] W fun e W' => (∃ v, e = .returned v) ∧ ((∃ p', J 0 p' W') ∨ Jx W') := by
 refine callsIn_of_wp Try.func75 rfl trivial ?_ rfl
 simp only [Try.ntmps75, List.size_toArray, List.length_cons, List.length_nil, Nat.reduceAdd, Nat.reduceSub, Array.replicate_succ, Array.replicate_zero, List.push_toArray, List.append_toArray, List.nil_append, List.cons_append]
 have hb0 := (hJ _ _ _ h0).2.2
 gi_wp2
 gi_loopw [3] (fun i wr => ∃ (k : Nat) (p : List F8), k ≤ m ∧ i = .int .i64 ((k : Int) - 1) ∧ J k p wr) (fun i _ => (intOf i + 1).toNat)
 case atStart => exact ⟨m, p, Nat.le_refl _, rfl, h0⟩
 case round =>
  obtain ⟨k, q, hk, rfl, hj⟩ := hrel
  obtain ⟨hl, hB, hbx⟩ := hJ _ _ _ hj
  rcases Nat.eq_zero_or_pos k with rfl | hpos
  ·gi_wp2
   go_end0
   exact ⟨⟨_, rfl⟩, .inl ⟨q, hj⟩⟩
  ·obtain ⟨j, rfl⟩ : ∃ j, k = j + 1 := ⟨k - 1, by omega⟩
   obtain ⟨b, off, rfl, hc⟩ := cellF hB j (by omega)
   obtain ⟨fn, tmps, assign, body, hy, hR⟩ := hY j q wr (by omega) hj
   have e1 : (((j + 1 : Nat) : Int) - 1) = (j : Int) := by omega
   rw [e1]
   clear e1
   gi_wp2
   refine hR.mono ?_
   rintro e W3 (⟨rfl, q', hJ3⟩ | ⟨rfl, hJx3⟩)
   ·gi_wp2
    go_roundw
    case rel => exact ⟨j, q', by omega, rfl, hJ3⟩
    case measure => simp [intOf]
   ·gi_wp2
    refine bodyPost_ret (results_none rfl _ _ _) rfl ?_
    exact ⟨⟨_, rfl⟩, .inr hJx3⟩
set_option maxRecDepth 100000 in
set_option maxHeartbeats 2000000 in
theorem wpIn_down {n : Nat} (h1 : 3 ≤ n) {g : Operand} {s1 s2 : Tmp} {assign body : Code} {Q : Exit → Act → World → Prop} {a : Act} {w : World} {Bn m c : Nat} {A : Option Addr} (hm : m ≤ 1000000)
  (hg : a.eval g = .func (.func 75) #[] #[.pointer (some ⟨Bn, 0, none⟩)])
  (I : Nat → List F8 → World → Prop) (Ix : Code → World → Prop)
  (hI : ∀ k p W W', I k p W → Turn w.heap.size W W' → I k p W') (hIx : ∀ c W W', Ix c W → Turn w.heap.size W W' → Ix c W')
  (hrd : ∀ k p W, I k p W → p.length = m ∧ Bytes W A (bs p) ∧ W.cell? ⟨Bn, 0, none⟩ = some (.slice A m c))
  (p0 : List F8) (h0 : I m p0 w) (a₁ : Nat → F8 → Act)
  (hassign : ∀ (l k : Nat) (x : F8) (W : World) (K : Act → World → Prop), K (a₁ k x) W →
   assign.wpIn (Fence.wide.inRound l) (n - 1 - 1) Try.prog (Exit.then K (fun _ _ _ => False)) { tmps := (a.tmps.setIfInBounds s1 (.int .i64 k)).setIfInBounds s2 (.int .u8 x.n), defers := [] } W)
  (hbody : ∀ (l k : Nat) (p : List F8) (W : World), k < m → I (k + 1) p W → w.heap.size ≤ W.heap.size → body.wpIn (Fence.wide.inRound l) (n - 1 - 1) Try.prog (DownPost w.heap.size (I k) Ix W) (a₁ k (coef p k)) W)
  (hdone : ∀ (p : List F8) (W : World), I 0 p W → W.heap[w.heap.size]? = some (.deferred (some [])) → Q .normal { a with defers := { target := .collected w.heap.size, args := #[] } :: a.defers } W)
  (hstop : ∀ (c : Code) (W : World), Ix c W → W.heap[w.heap.size]? = some (.deferred (some [])) → c.wpIn Fence.wide n Try.prog Q { a with defers := { target := .collected w.heap.size, args := #[] } :: a.defers } W) :
  (Code.rangeFunc g #[s1, s2] assign body).wpIn Fence.wide n Try.prog Q a w := by
 refine wpIn_rangeFunc fun fn hfn => ?_
 obtain ⟨D, hD⟩ : ∃ D, D = w.heap.size := ⟨_, rfl⟩
 obtain ⟨R, hR⟩ : ∃ R : LoopState → Option Code → Obj, R = fun st j => .loop { state := st, pending := j, fn, tmps := a.tmps, params := #[s1, s2], assign, body, defers := D } := ⟨_, rfl⟩
 have hRc : ∀ st j, (R st j).isCells = false := by intro st j; rw [hR]; rfl
 let Bk : LoopState → Option Code → World → Prop := fun st j W => W.heap[D + 1]? = some (R st j) ∧ W.heap[D]? = some (.deferred (some []))
 have bk_put : ∀ {st j st' j'} {W : World}, Bk st j W → Bk st' j' (W.putObj (D + 1) (R st' j')) := fun {st j st' j' W} h =>
  ⟨World.putObj_heap_same (Array.getElem?_eq_some_iff.1 h.1).1, (World.putObj_heap_other (by omega)).trans h.2⟩
 have tn_put : ∀ {st j st' j'} {W : World}, Bk st j W → Turn D W (W.putObj (D + 1) (R st' j')) := fun {st j st' j' W} h => Turn.put h.1 (hRc _ _) (by omega) _
 have bk_keep : ∀ {st j} {W W' : World}, Bk st j W → KeepsFrom D W W' → Bk st j W' := fun {st j W W'} h k => ⟨k.same _ _ (by omega) h.1 (hRc _ _), k.same _ _ (Nat.le_refl _) h.2 rfl⟩
 have ends : ∀ {W : World} (j : Option Code), Bk .busy none W → (Instr.endRound (D + 1) j).run Try.prog W = .ok (.bool j.isNone) (W.putObj (D + 1) (R (if j.isNone then .ready else .done) j)) := by
  intro W j h
  have h2 := h.1
  rw [hR] at h2 ⊢
  exact run_endRound j h2
 have out : ∀ {W : World} {st j}, st ≠ .busy → Bk st j W → (Instr.endLoop (D + 1)).run Try.prog W = .ok j (W.putObj (D + 1) (R .exhausted j)) := by
  intro W st j hst h
  have h2 := h.1
  rw [hR] at h2 ⊢
  exact run_endLoop h2 hst
 rw [← hD] at hI hIx hbody hdone hstop
 obtain ⟨W1, hW1⟩ : ∃ W1, (w.alloc (.deferred (some []))).alloc (R .ready none) = W1 := ⟨_, rfl⟩
 have t1 : Turn D w W1 := by
  rw [← hW1]
  exact (Turn.alloc (by omega) _).trans (Turn.alloc (by simp; omega) _)
 have b1 : Bk .ready none W1 := by
  have e1 := World.alloc_heap_new (w.alloc (.deferred (some []))) (R .ready none)
  have e2 := (Below.heap_alloc (w.alloc (.deferred (some []))) (R .ready none) w.heap.size (by simp)).trans (World.alloc_heap_new w _)
  rw [World.size_alloc, hW1, ← hD] at e1
  rw [hW1, ← hD] at e2
  exact ⟨e1, e2⟩
 refine ⟨D + 1, [{ target := .collected D, args := #[] }], W1, { target := .fn (.func 75) #[.pointer (some ⟨Bn, 0, none⟩)], args := #[.func (.yield (D + 1)) #[] #[]] }, W1, 75,
  #[.func (.yield (D + 1)) #[] #[]] ++ #[.pointer (some ⟨Bn, 0, none⟩)], W1, ?_, ?_, fun _ _ => trivial, ?_, (fun h => by cases h), ?_⟩
 ·rw [← hW1, hR, hD]; exact run_enterLoop_outer _ _ _ _ _
 ·simp only [resolve, hg]; simp [go_sem]
 ·simp [invoke, go_sem]
 ·refine (down1_in (n - 1) (by omega) (D + 1) Bn m c A hm (fun k p W => I k p W ∧ Bk .ready none W ∧ D ≤ W.heap.size) (fun W => ∃ j, Ix j W ∧ Bk .done (some j) W ∧ D ≤ W.heap.size)
   (fun k p W h => hrd k p W h.1) ?_ W1 p0 ⟨hI _ _ _ _ h0 t1, b1, by have := t1.size; omega⟩).mono ?_
  ·
   rintro k p W hk ⟨hi, hb, hsz⟩
   have hy := run_yield (P := Try.prog) (args := #[.int .i64 k, .int .u8 (coef p k).n]) (l := D + 1) (by have h2 := hb.1; rw [hR] at h2; exact h2) rfl
   have hbr := run_beginRound (P := Try.prog) (l := D + 1) (by have h2 := hb.1; rw [hR] at h2; exact h2) rfl
   refine ⟨fn, _, assign, body, hy, roundIn_of_wpIn hfn ?_⟩
   clear hy
   dsimp only
   rw [zip2]
   refine hassign _ k (coef p k) W _ ?_
   refine ⟨_, hbr, ?_⟩
   clear hbr
   have hb2 : Bk .busy none (W.putObj (D + 1) (R .busy none)) := bk_put hb
   have hi2 := hI _ _ _ _ hi (tn_put (st' := .busy) (j' := none) hb)
   have hwp := hbody (D + 1) k p (W.putObj (D + 1) (R .busy none)) hk hi2 (by simp; omega)
   rw [hR] at hwp
   refine wpIn_mono hwp ?_
   rintro e a3 W3 hp
   have fin : ∀ (j : Option Code), KeepsFrom D (W.putObj (D + 1) (R .busy none)) W3 → (Instr.endRound (D + 1) j).run Try.prog W3 = .ok (.bool j.isNone) (W3.putObj (D + 1) (R (if j.isNone then .ready else .done) j)) ∧
     Bk (if j.isNone then .ready else .done) j (W3.putObj (D + 1) (R (if j.isNone then .ready else .done) j)) ∧ Turn D W3 (W3.putObj (D + 1) (R (if j.isNone then .ready else .done) j)) ∧ D ≤ (W3.putObj (D + 1) (R (if j.isNone then .ready else .done) j)).heap.size := fun j hkf => by
    have hb3 := bk_keep hb2 hkf
    refine ⟨ends j hb3, bk_put hb3, tn_put hb3, ?_⟩
    have := hkf.size
    simp at this ⊢
    omega
   have key : ∀ {W4 : World}, KeepsFrom D (W.putObj (D + 1) ((fun st j => Obj.loop { state := st, pending := j, fn, tmps := a.tmps, params := #[s1, s2], assign, body, defers := D }) .busy none)) W4 → KeepsFrom D (W.putObj (D + 1) (R .busy none)) W4 := by
    intro W4 h; rw [hR]; exact h
   cases e with
   | normal =>
    obtain ⟨hkf, q, hq⟩ := hp
    obtain ⟨f1, f2, f3, f4⟩ := fin none (key hkf)
    exact ⟨_, _, f1, .inl ⟨rfl, q, hI _ _ _ _ hq f3, f2, f4⟩⟩
   | ret =>
    obtain ⟨hkf, hq⟩ := hp
    obtain ⟨f1, f2, f3, f4⟩ := fin (some .ret) (key hkf)
    exact ⟨_, _, f1, .inr ⟨rfl, .ret, hIx _ _ _ hq f3, f2, f4⟩⟩
   | exit id =>
    obtain ⟨hkf, hq⟩ := hp
    obtain ⟨f1, f2, f3, f4⟩ := fin (some (.exit id)) (key hkf)
    exact ⟨_, _, f1, .inr ⟨rfl, .exit id, hIx _ _ _ hq f3, f2, f4⟩⟩
   | goto t => exact hp.elim
   | panic ch => exact hp.elim
   | outgrown => exact hp.elim
  ·rintro e W2 ⟨⟨v, rfl⟩, ⟨q, hi, hb, _⟩ | ⟨j, hi, hb, _⟩⟩
   ·exact ⟨none, _, out (by simp) hb, hdone q _ (hI _ _ _ _ hi (tn_put hb)) (bk_put (st' := .exhausted) (j' := none) hb).2⟩
   ·exact ⟨some j, _, out (by simp) hb, hstop j _ (hIx _ _ _ hi (tn_put hb)) (bk_put (st' := .exhausted) (j' := some j) hb).2⟩
end Go.Proofs.Ytjoghbmedfmioab.Poly

namespace Go.Proofs.Ytjoghbmedfmioab.Poly
open Go.RowKit F8
open GF (ret_int ret_nat)
theorem bvs_snoc (p : List F8) (s : F8) : bv (bs (p ++ [s])) = bv (bs p) ++ bv [s.n] := by rw [bs_append, bv_append]; rfl
end Go.Proofs.Ytjoghbmedfmioab.Poly

namespace Go.Proofs.Ytjoghbmedfmioab.GF
open Go.RowKit
theorem add_calls (a b : Nat) (ha : a < 256) (hb : b < 256) (w : World) :
  Calls Try.prog 76 #[.int .u8 a, .int .u8 b] w fun e w' => e = .returned (.int .u8 (a ^^^ b : Nat)) ∧ w = w' := by
 have HX := Lib.hid (u8_xor' a b ha hb)
 go_enter Try.func76, Try.ntmps76
 go_wp2
 go_ret
 exact ⟨ret_int HX.out, rfl⟩
set_option maxHeartbeats 1600000 in
theorem mul_calls (p : Option Addr) (a b : Nat) (ha : a < 256) (hb : b < 256) (w : World) (hp : FldP w p) :
  Calls Try.prog 43 #[.pointer p, .int .u8 a, .int .u8 b] w fun e w' => e = .returned (.int .u8 (gm a b : Nat)) ∧ FldP w' p ∧ Past w.heap.size (rb w p) w w' := by
 by_cases a0 : a = 0
 ·subst a0
  rw [zero_gm]
  go_enter Try.func43, Try.ntmps43
  go_wp2
  go_ret
  exact ⟨rfl, hp, Past.refl _ _ _⟩
 by_cases b0 : b = 0
 ·subst b0
  rw [gm_zero]
  have h1 : ((a : Int) == 0) = false := by simp; omega
  go_enter Try.func43, Try.ntmps43
  go_wp2
  go_ret
  exact ⟨rfl, hp, Past.refl _ _ _⟩
 have h1 : ((a : Int) == 0) = false := by simp; omega
 have h2 : ((b : Int) == 0) = false := by simp; omega
 have hl1 := gl_lt ha
 have hl2 := gl_lt hb
 have HG : Hid (gm a b = gp ((gl a + gl b) % 255)) := Lib.hid (by unfold gm; rw [if_neg a0, if_neg b0])
 go_enter Try.func43, Try.ntmps43
 go_wp2_with (go_at_call 33; refine (ready_any p _ hp).mono ?_; rintro e w' ⟨g, rfl, hM, hp', hP, hg⟩)
 have c1 := hM.log a ha
 have c2 := hM.log b hb
 have c3 := hM.pow ((gl a + gl b) % 255) (by omega)
 go_region
 all_goals
  go_wp2
  go_ret
  exact ⟨ret_nat HG.out.symm, hp'.drewN 1, hP.drew⟩
set_option maxHeartbeats 1600000 in
theorem exp_calls (p : Option Addr) (n : Int) (hl : -9223372036854775808 ≤ n) (hh : n < 9223372036854775808) (w : World) (hp : FldP w p) :
  Calls Try.prog 20 #[.pointer p, .int .i64 n] w fun e w' => e = .returned (.int .u8 (ge n : Nat)) ∧ FldP w' p ∧ Past w.heap.size (rb w p) w w' := by
 have ht := tmod255 n
 have hm : IntKind.i64.wrap (n.tmod 255) = n.tmod 255 := IntWalk.i64_in _ (by omega)
 obtain ⟨k, hk⟩ : ∃ k : Nat, k = (n % 255).toNat := ⟨_, rfl⟩
 have hk5 : k < 255 := by omega
 have HG : Hid (ge n = gp k) := Lib.hid (by unfold ge; rw [hk])
 obtain ⟨m, hmm⟩ : ∃ m : Int, n.tmod 255 = m := ⟨_, rfl⟩
 rw [hmm] at hm ht
 by_cases hneg : m < 0
 ·have hm2 : m + 255 = (k : Int) := by omega
  clear hk ht
  go_enter Try.func20, Try.ntmps20
  go_wp2_with (go_at_call 33; refine (ready_any p _ hp).mono ?_; rintro e w' ⟨g, rfl, hM, hp', hP, hg⟩; have c3 := hM.pow k hk5)
  go_ret
  exact ⟨ret_nat HG.out.symm, hp', hP⟩
 ·obtain rfl : m = (k : Int) := by omega
  clear hk ht
  go_enter Try.func20, Try.ntmps20
  go_wp2_with (go_at_call 33; refine (ready_any p _ hp).mono ?_; rintro e w' ⟨g, rfl, hM, hp', hP, hg⟩; have c3 := hM.pow k hk5)
  go_ret
  exact ⟨ret_nat HG.out.symm, hp', hP⟩
set_option maxHeartbeats 1600000 in
theorem log_calls (p : Option Addr) (a : Nat) (ha : a < 256) (a0 : a ≠ 0) (w : World) (hp : FldP w p) :
  Calls Try.prog 60 #[.pointer p, .int .u8 a] w fun e w' => e = .returned (.tuple #[.int .i64 (gl a : Nat), .bool true]) ∧ FldP w' p ∧ Past w.heap.size (rb w p) w w' := by
 have h1 : ((a : Int) == 0) = false := by simp; omega
 have hl1 := gl_lt ha
 go_enter Try.func60, Try.ntmps60
 go_wp2_with (go_at_call 33; refine (ready_any p _ hp).mono ?_; rintro e w' ⟨g, rfl, hM, hp', hP, hg⟩; have c3 := hM.log a ha)
 go_ret2
 exact ⟨rfl, hp', hP⟩
theorem gcd_step (a b : Nat) : Nat.gcd b (a % b) = Nat.gcd a b := by
 rw [Nat.gcd_comm b, ← Nat.gcd_rec, Nat.gcd_comm]
set_option maxHeartbeats 1600000 in
theorem commonDivisor_calls (a b : Nat) (ha : a < 1000) (hb : b < 1000) (w : World) :
  Calls Try.prog 61 #[.int .i64 a, .int .i64 b] w fun e w' => e = .returned (.int .i64 (Nat.gcd a b : Nat)) ∧ ∃ n, w' = w.drewN n := by
 go_enter Try.func61, Try.ntmps61
 go_wp2
 go_loopw [0, 1] (fun x y wr => ∃ c d n : Nat, c < 1000 ∧ d < 1000 ∧ x = .int .i64 c ∧ y = .int .i64 d ∧ Hid (Nat.gcd c d = Nat.gcd a b) ∧ wr = w.drewN n) (fun _ y _ => (intOf y).toNat)
 case atStart => exact ⟨a, b, 0, ha, hb, rfl, rfl, Lib.hid rfl, rfl⟩
 case round =>
  obtain ⟨c, d, n, hc, hd, rfl, rfl, HG, rfl⟩ := hrel
  by_cases d0 : d = 0
  ·subst d0
   go_wp2
   go_ret
   exact ⟨ret_nat (by rw [← HG.out, Nat.gcd_zero_right]), n, rfl⟩
  ·have h1 : ((d : Int) == 0) = false := by simp; omega
   have h1' : ((d : Int) != 0) = true := by simp; omega
   have hd0 : (d : Int) ≠ 0 := by omega
   go_wp2
   go_region
   all_goals
    go_wp2
    go_roundw
    case rel => exact ⟨d, c % d, n + 1, hd, Nat.lt_of_le_of_lt (Nat.mod_le _ _) hc, rfl, by go_num, by rw [gcd_step]; exact HG, rfl⟩
    case measure => have := Nat.mod_lt c (show 0 < d by omega); simp [intOf]; omega
set_option maxHeartbeats 1600000 in
theorem order_calls (p : Option Addr) (a : Nat) (ha : a < 256) (a0 : a ≠ 0) (w : World) (hp : FldP w p) :
  Calls Try.prog 36 #[.pointer p, .int .u8 a] w fun e w' => e = .returned (.int .i64 (gord a : Nat)) ∧ FldP w' p ∧ Past w.heap.size (rb w p) w w' := by
 have hl1 := gl_lt ha
 have hg0 : 0 < Nat.gcd 255 (gl a) := Nat.gcd_pos_of_pos_left _ (by decide)
 have hg1 : Nat.gcd 255 (gl a) ≤ 255 := Nat.le_of_dvd (by decide) (Nat.gcd_dvd_left _ _)
 have HG : Hid (gord a = 255 / Nat.gcd 255 (gl a)) := Lib.hid (by unfold gord; rw [if_neg a0])
 have hc := commonDivisor_calls 255 (gl a) (by decide) (by omega)
 obtain ⟨d, hd⟩ : ∃ d : Nat, Nat.gcd 255 (gl a) = d := ⟨_, rfl⟩
 rw [hd] at hg0 hg1 HG hc
 clear hd
 have d0 : (d : Int) ≠ 0 := by omega
 go_enter Try.func36, Try.ntmps36
 go_wp2_with (first | (go_at_call 60; refine (log_calls p a ha a0 _ hp).mono ?_; rintro e w' ⟨rfl, hp', hP⟩) | (go_at_call 61; refine (hc _).mono ?_; rintro e w2 ⟨rfl, nd, rfl⟩))
 go_ret
 refine ⟨ret_int ?_, hp'.drewN nd, hP.drewN nd⟩
 rw [HG.out]
 simp
end Go.Proofs.Ytjoghbmedfmioab.GF

namespace Go.Proofs.Ytjoghbmedfmioab.Poly
open Go.RowKit F8 GF
def PolyRes (pf : Option Addr) (w w' : World) (e : Ending) (r : List F8) : Prop :=
 ∃ A c, e = .returned (.slice A r.length c) ∧ r.length ≤ c ∧ Own w' w.heap.size 5 (.slice A r.length c) (bv (bs r)) ∧ FldP w' pf ∧ Past w.heap.size (rb w pf) w w'
def Far (pf A : Option Addr) (p : List F8) : Prop := p ≠ [] → ∀ a g, A = some a → pf = some g → a.block ≠ g.block
structure Spec : Prop where
 degreeP : ∀ (A : Option Addr) (p : List F8) (m c : Nat) (w : World) (_ : p.length = m) (_ : Bytes w A (bs p)) (_ : m ≤ c) (_ : m ≤ 1000),
  Calls Try.prog 74 #[.slice A m c] w fun e w' => e = .returned (.int .i64 ((len p : Int) - 1)) ∧ Below w.heap.size w w'
 mulP : ∀ (A B : Option Addr) (p q : List F8) (m n c d : Nat) (w : World) (_ : p.length = m) (_ : q.length = n) (_ : Bytes w A (bs p)) (_ : Bytes w B (bs q)) (_ : m ≤ c) (_ : n ≤ d) (_ : m ≤ 1000) (_ : n ≤ 1000) (pf : Option Addr) (_ : FldP w pf) (_ : Far pf A p) (_ : Far pf B q),
  Calls Try.prog 45 #[.pointer pf, .slice A m c, .slice B n d] w fun e w' => PolyRes pf w w' e (trim (pmul p q))
 rootsP : ∀ (A : Option Addr) (p : List F8) (m c : Nat) (w : World) (_ : p.length = m) (_ : Bytes w A (bs p)) (_ : m ≤ c) (_ : m ≤ 1000) (pf : Option Addr) (_ : FldP w pf) (_ : Far pf A p),
  Calls Try.prog 24 #[.pointer pf, .slice A m c] w fun e w' => PolyRes pf w w' e (trim (roots p))
end Go.Proofs.Ytjoghbmedfmioab.Poly

namespace Go.Proofs.Ytjoghbmedfmioab.Poly
open Go.RowKit Go.Shelf F8 GF
attribute [local go_sem] Oper.semAt_some
set_option maxHeartbeats 1000000 in
theorem downward_calls (A : Option Addr) (m c : Nat) (w : World) :
  Calls Try.prog 65 #[.slice A m c] w fun e w' => e = .returned (.func (.func 75) #[] #[.pointer (some ⟨w.heap.size, 0, none⟩)]) ∧ w' = w.alloc (.cells #[.slice A m c] 65) := by
 go_enter Try.func65, Try.ntmps65
 go_wp2
 go_ret
 exact ⟨rfl, rfl⟩
theorem eql_nil (a : Option Addr) (l c : Nat) (w : World) : (binOp .eql 65 (.slice a l c) (.slice none 0 0)).run Try.prog w = .ok (.bool a.isNone) w := by
 simp only [binOp]
 simp [run_equal_slice_nil w 65 5 a l c Try.underlying65]
theorem len_top {p : List F8} {k : Nat} (hx : ¬ coef p k = 0) (h : Bdd p (k + 1)) : len p = k + 1 := by
 have h1 := len_le_of_bdd h
 have h2 : ¬ len p ≤ k := fun e => hx (bdd_iff.2 e k (Nat.le_refl _))
 omega
set_option maxRecDepth 100000 in
set_option maxHeartbeats 2000000 in
theorem degree_calls (A : Option Addr) (p : List F8) (m c : Nat) (w : World) (hl : p.length = m) (hb : Bytes w A (bs p)) (_ : m ≤ c) (hm : m ≤ 1000000) :
  Calls Try.prog 74 #[.slice A m c] w fun e w' => e = .returned (.int .i64 ((len p : Int) - 1)) ∧ Below w.heap.size w w' := by
 refine (callsIn_wide (n := 9)).1 (callsIn_of_wp_marks Try.func74 rfl trivial ?_ rfl)
 simp only [Try.ntmps74, List.size_toArray, List.length_cons, List.length_nil, Nat.reduceAdd, Nat.reduceSub, Array.replicate_succ, Array.replicate_zero, List.push_toArray, List.append_toArray, List.nil_append, List.cons_append]
 refine wpIn_wide.2 ?_
 go_wp2_with (go_at_call 65; refine (downward_calls _ _ _ _).mono ?_; rintro e w' ⟨rfl, rfl⟩)
 obtain ⟨w1, hw1⟩ : ∃ w1, (w.alloc (.cells #[.int .i64 0] 3)).alloc (.cells #[.slice A m c] 65) = w1 := ⟨_, rfl⟩
 have hB1 : Below w.heap.size w w1 := by rw [← hw1]; exact ((Below.refl _ w).alloc (Nat.le_refl _) _).alloc (by simp) _
 have hr1 : Block w1 w.heap.size 3 #[.int .i64 0] := by rw [← hw1]; exact (Block.new w _ _).alloc _
 have hbx1 : Block w1 (w.heap.size + 1) 65 #[.slice A m c] := by
  rw [← hw1]; have := Block.new (w.alloc (.cells #[.int .i64 0] 3)) 65 #[.slice A m c]; rwa [World.size_alloc] at this
 have hb1 : Bytes w1 A (bs p) := hb.below hB1
 have hsz : w1.heap.size = w.heap.size + 2 := by rw [← hw1]; simp
 rw [hw1]
 clear hw1
 refine wpIn_wide.1 (wpIn_down (n := 9) (by omega) (Bn := w.heap.size + 1) (m := m) (c := c) (A := A) hm rfl
  (fun k q W => q = p ∧ Bdd p k ∧ Bytes W A (bs p) ∧ Block W (w.heap.size + 1) 65 #[.slice A m c] ∧ Block W w.heap.size 3 #[.int .i64 0] ∧ Below w.heap.size w W)
  (fun j W => j = .ret ∧ Block W w.heap.size 3 #[.int .i64 ((len p : Int) - 1)] ∧ Below w.heap.size w W)
  (fun k q W W' ⟨h1, h2, h3, h4, h5, h6⟩ ht => ⟨h1, h2, ht.bytes h3, ht.block h4, ht.block h5, h6.trans (ht.below.mono (by omega))⟩)
  (fun j W W' ⟨h1, h2, h3⟩ ht => ⟨h1, ht.block h2, h3.trans (ht.below.mono (by omega))⟩)
  (fun k q W ⟨h1, h2, h3, h4, h5, h6⟩ => ⟨by rw [h1, hl], by rw [h1]; exact h3, h4.cell 0⟩)
  p ⟨rfl, by rw [← hl]; exact bdd_length p, hb1, hbx1, hr1, hB1⟩
  ?a1 ?assign ?body ?done ?stop)
 case assign =>
  intro l k x W K hK
  gi_wp2
  exact hK
 case body =>
  rintro l k q W hk ⟨rfl, h2, h3, h4, h5, h6⟩ hsW
  have hc5 := h5.cell 0
  have hf5 := h5.frozen 0
  by_cases hx : coef q k = 0
  ·have hx0 : (((coef q k).n : Int) == 0) = true := by rw [hx]; rfl
   have hx1 : (((coef q k).n : Int) != 0) = false := by rw [hx]; rfl
   gi_wp2
   refine ⟨keeps_below (Below.refl _ _), q, rfl, fun i hi => ?_, h3, h4, h5, h6⟩
   rcases Nat.eq_or_lt_of_le hi with rfl | hi
   ·exact hx
   ·exact h2 i hi
  ·have hx0 : (((coef q k).n : Int) == 0) = false := n_beq0 hx
   have hx1 : (((coef q k).n : Int) != 0) = true := by simp [bne, hx0]
   have hlen : len q = k + 1 := len_top hx h2
   gi_wp2
   exact ⟨(KeepsOthers.setCell _ _ _).from _, rfl, by rw [hlen, show (((k + 1 : Nat) : Int) - 1) = (k : Int) by omega]; exact h5.set_ 0 _, h6.setCell (p := ⟨w.heap.size, 0, none⟩) (Nat.le_refl _) _⟩
 case done =>
  rintro q W ⟨rfl, h2, h3, h4, h5, h6⟩ hD
  have hc5 := h5.cell 0
  have hf5 := h5.frozen 0
  go_wp2
  have hK := (KeepsOthers.setCell W ⟨w.heap.size, 0, none⟩ (.int .i64 (-1))).same _ _ hD rfl
  refine ⟨by simp, .inl ⟨_, _, rfl, run_takeDeferred hK, ?_⟩⟩
  have ht : Turn w.heap.size (W.setCell ⟨w.heap.size, 0, none⟩ (.int .i64 (-1))) _ := Turn.put hK rfl (by omega) (.deferred none)
  have hc6 := ht.cell ((h5.set_ 0 (.int .i64 (-1))).cell 0)
  have hlen : len q = 0 := len_zero.2 (bdd_zero.1 h2)
  refine ⟨.int .i64 (-1), ?_, by rw [hlen]; rfl, (h6.setCell (p := ⟨w.heap.size, 0, none⟩) (Nat.le_refl _) _).trans ht.below⟩
  simp [results, Try.results74, go_sem, hc6]
 case stop =>
  rintro j W ⟨rfl, h2, h3⟩ hD
  refine wpIn_wide.2 ?_
  go_wp2
  refine ⟨by simp, .inl ⟨_, _, rfl, run_takeDeferred hD, ?_⟩⟩
  have ht : Turn w.heap.size W _ := Turn.put hD rfl (by omega) (.deferred none)
  have hc6 := ht.cell (h2.cell 0)
  refine ⟨.int .i64 ((len p : Int) - 1), ?_, rfl, h3.trans ht.below⟩
  simp [results, Try.results74, go_sem, hc6]
theorem trim_take_len (p : List F8) : trim p = p.take (len p) :=
 trim_take p (len p) (len_le p) (fun i h1 _ => bdd_len p i h1) (by
  rcases Nat.eq_zero_or_pos (len p) with h | h
  ·exact .inl h
  ·exact .inr (lead h))
structure Cut (A A2 : Option Addr) : Prop where
 same : ∀ b off, A = some ⟨b, off, none⟩ → A2 = A
 nil : A = none → A2 = none
theorem Cut.bytes {A A2 : Option Addr} {p : List F8} {w : World} (h : Cut A A2) (hb : Bytes w A (bs p)) : Bytes w A2 (bs (trim p)) := by
 by_cases h0 : 0 < p.length
 ·obtain ⟨b, off, e⟩ := where_ hb h0
  rw [h.same b off e, trim_take_len]
  exact bytes_take hb _
 ·have : p = [] := List.eq_nil_of_length_eq_zero (by omega)
  subst this
  exact Bytes.nil _ _
theorem cut_run (A : Option Addr) (m c n : Nat) (hn : n ≤ m) (hc : m ≤ c) :
  ∃ A2, (∀ w, (Instr.slice 65 (.slice A m c) none (some (.int .i64 (n : Int))) none).run Try.prog w = .ok (.slice A2 n c) w) ∧ Cut A A2 := by
 refine ⟨if c = 0 then A else A.map (·.add (0 * 1)), fun w => ?_, fun b off e => ?_, fun e => ?_⟩
 ·obtain ⟨i, hi, _, hi2, _⟩ := info_parts info_u8
  simp [Instr.slice, Instr.sliceBounds, Instr.sliceBound, run_underlying Try.underlying65, asIntOf, sizeOf, typeInfo, Sem.run_bind, hi]
  intro h; omega
 ·subst e
  split
  ·rfl
  ·simp only [Option.map_some, Nat.zero_mul, addr_add, Nat.add_zero]
 ·subst e
  split <;> rfl
set_option maxHeartbeats 1000000 in
theorem trimmed_calls (A : Option Addr) (p : List F8) (m c : Nat) (w : World) (hl : p.length = m) (hb : Bytes w A (bs p)) (hc : m ≤ c) (hm : m ≤ 1000000) :
  Calls Try.prog 64 #[.slice A m c] w fun e w' => ∃ A2, e = .returned (.slice A2 (len p) c) ∧ Cut A A2 ∧ Below w.heap.size w w' := by
 subst hl
 have hle := len_le p
 obtain ⟨A2, hs, hcut⟩ := cut_run A p.length c (len p) hle hc
 obtain ⟨n, hn⟩ : ∃ n, len p = n := ⟨_, rfl⟩
 rw [hn] at hs hle ⊢
 have HN := Lib.hid hn
 clear hn
 go_enter Try.func64, Try.ntmps64
 go_wp2_with (go_at_call 74; refine (degree_calls _ p _ _ _ rfl hb hc hm).mono ?_; rintro e w' ⟨rfl, hB⟩; rw [HN.out])
 go_ret
 exact ⟨A2, rfl, hcut, hB⟩
def NewRes (pf : Option Addr) (w : World) (e : Ending) (w' : World) : Prop :=
 ∃ g, e = .returned (.pointer (some ⟨g, 0, none⟩)) ∧ (pf = some ⟨g, 0, none⟩ ∧ w = w' ∨ pf = none ∧ g = w.heap.size ∧ w' = w.alloc (.cells (fcells 0 0 0) 64))
theorem orNew_calls (pf : Option Addr) (w : World) (hf : FldP w pf) :
  Calls Try.prog 44 #[.pointer pf] w (NewRes pf w) := by
 rcases hf with rfl | ⟨g, rfl, _⟩
 ·go_enter Try.func44, Try.ntmps44
  go_wp2_with (go_at_call 6; refine (new_calls _).mono ?_; rintro e w' ⟨rfl, rfl⟩)
  go_ret
  exact ⟨_, rfl, .inr ⟨rfl, rfl, rfl⟩⟩
 ·go_enter Try.func44, Try.ntmps44
  go_wp2
  go_ret
  exact ⟨_, rfl, .inl ⟨rfl, rfl⟩⟩
set_option maxHeartbeats 1000000 in
theorem clone_calls (A : Option Addr) (p : List F8) (m c : Nat) (w : World) (hl : p.length = m) (hb : Bytes w A (bs p)) (_ : m ≤ c) (hm : m ≤ 1000000) :
  Calls Try.prog 35 #[.slice A m c] w fun e w' => Res w w' e p := by
 have HB := Lib.hid hb
 cases A with
 | none =>
  have hnil : ∀ w, (binOp .eql 65 (.slice none m c) (.slice none 0 0)).run Try.prog w = .ok (.bool true) w := fun w => eql_nil none m c w
  have h0 : p = [] := by
   rcases p with _ | ⟨x, p⟩
   ·rfl
   ·obtain ⟨b, off, e⟩ := where_ hb (by simp)
    cases e
  clear hb
  go_enter Try.func35, Try.ntmps35
  go_wp2
  go_ret
  subst h0
  exact Res.mk (Own.nil _ _ _) (Below.refl _ _)
 | some a =>
  have hnil : ∀ w, (binOp .eql 65 (.slice (some a) m c) (.slice none 0 0)).run Try.prog w = .ok (.bool false) w := fun w => eql_nil (some a) m c w
  have hlv := bvs_length p
  rw [hl] at hlv
  have HL := Lib.hid hlv
  clear hb hl hlv
  go_enter Try.func35, Try.ntmps35
  go_wp2_with (at_builtin; refine wpList_app _ rfl (.tmp 5) (.tmp 6) _ rfl w.heap.size 5 _ 1 Try.underlying65 info_u8 rfl (by omega) (.slice (some ⟨w.heap.size, 0, none⟩) 0 0) [] rfl (Own.lit w w.heap.size 5 #[] 0 (Nat.le_refl _) rfl (by decide)) (some a) m c (bv (bs p)) rfl HL.out (HB.out.alloc _).row (bv_one _) (by simp; omega) (by simp) ?_; intro v1 w1 hown1 hg1 _)
  have hbel : Below w.heap.size w w1 := ((Below.refl _ w).alloc (Nat.le_refl _) _).trans ((Own.lit w w.heap.size 5 #[] 0 (Nat.le_refl _) rfl (by decide)).grew (by simp) hg1)
  go_ret
  exact Res.mk (by simpa using hown1) hbel
def seenC (l : List F8) : Array Value := Array.ofFn (n := 256) fun i => .bool (l.any fun x => x.n == i.val)
theorem zero_seen (w : World) : (zeroValue 113).run Try.prog w = .ok (.agg (seenC [])) w := by kernel_rfl
theorem seenC_get (l : List F8) (x : F8) : (seenC l)[x.n]? = some (.bool (l.any fun y => y.n == x.n)) := by
 have := x.h
 simp [seenC, this]
theorem seenC_set (l : List F8) (x : F8) : (seenC l).setIfInBounds x.n (.bool true) = seenC (l ++ [x]) := by
 apply Array.ext
 ·simp [seenC]
 ·intro i h1 h2
  have h3 : i < (seenC l).size := by simpa using h1
  rw [Array.getElem_setIfInBounds h3]
  simp only [seenC, Array.getElem_ofFn, List.any_append, List.any_cons, List.any_nil, Bool.or_false]
  by_cases e : x.n = i
  ·simp [e]
  ·have : (x.n == i) = false := by simpa using e
   rw [if_neg e, this, Bool.or_false]
theorem any_n (l : List F8) (x : F8) : (l.any fun y => y.n == x.n) = decide (x ∈ l) := by
 rw [Bool.eq_iff_iff]
 simp only [List.any_eq_true, beq_iff_eq, decide_eq_true_eq]
 exact ⟨fun ⟨y, hy, e⟩ => by rw [← F8.n_inj.1 e]; exact hy, fun h => ⟨x, h, rfl⟩⟩
theorem nodup_snoc {l : List F8} {x : F8} : (l ++ [x]).Nodup ↔ l.Nodup ∧ x ∉ l := by
 rw [List.nodup_append]
 constructor
 ·rintro ⟨h1, _, h2⟩
  exact ⟨h1, fun hx => h2 x hx x (by simp) rfl⟩
 ·rintro ⟨h1, h2⟩
  exact ⟨h1, by simp, fun a ha b hb e => by simp at hb; subst hb; subst e; exact h2 ha⟩
theorem not_nodup_of_take {p : List F8} {k : Nat} (h : ¬ (p.take k).Nodup) : ¬ p.Nodup := fun hp => h (hp.sublist (List.take_sublist _ _))
end Go.Proofs.Ytjoghbmedfmioab.Poly

namespace Go.Proofs.Ytjoghbmedfmioab.Rd
open Go.RowKit Go.Shelf F8 Poly GF
attribute [local go_sem] Oper.semAt_some
def codeC (g : Nat) (A : Option Addr) (n c k : Nat) : Array Value := #[.pointer (some ⟨g, 0, none⟩), .slice A n c, .int .i64 k]
theorem isNone_calls {w : World} {b g : Nat} {A : Option Addr} {n c k : Nat} (h : Block w b 96 (codeC g A n c k)) (hk : 1 ≤ k) :
  Calls Try.prog 48 #[.pointer (some ⟨b, 0, none⟩)] w fun e w' => e = .returned (.bool false) ∧ w = w' := by
 have h2 := h.cell 2
 simp only [codeC] at h2
 have hk2 : ((k : Int) == 0) = false := by simp; omega
 go_enter Try.func48, Try.ntmps48
 go_wp2
 go_ret
 exact ⟨rfl, rfl⟩
set_option maxRecDepth 100000 in
set_option maxHeartbeats 1000000 in
theorem repeat_calls (A : Option Addr) (p : List F8) (m c : Nat) (w : World) (hl : p.length = m) (hb : Bytes w A (bs p)) (hm : m ≤ 1000000) :
  Calls Try.prog 34 #[.slice A m c] w fun e w' => e = .returned (.bool (!decide p.Nodup)) ∧ Below w.heap.size w w' := by
 have hz := zero_seen
 have HB := Lib.hid hb
 clear hb
 go_enter Try.func34, Try.ntmps34
 go_wp2
 go_loopw [8] (fun i wr => ∃ k : Nat, k ≤ m ∧ i = .int .i64 k ∧ Hid (Block wr w.heap.size 113 (seenC (p.take k))) ∧ Hid ((p.take k).Nodup) ∧ Below w.heap.size w wr) (fun i _ => m - (intOf i).toNat)
 case atStart => exact ⟨0, by omega, rfl, Lib.hid (Block.new w _ _), Lib.hid (by simp), (Below.refl _ w).alloc (Nat.le_refl _) _⟩
 case round =>
  obtain ⟨k, hk, rfl, HS, HN, HW⟩ := hrel
  by_cases hkk : k < m
  ·obtain ⟨b, off, rfl⟩ := where_ HB.out (by omega)
   have hcell := cellAt (HB.out.below HW) k (by omega)
   obtain ⟨x, hx⟩ : ∃ x, coef p k = x := ⟨_, rfl⟩
   rw [hx] at hcell
   have hxb := f8_bounds x
   have ht : p.take (k + 1) = p.take k ++ [x] := by rw [take_succ' p (by omega), ← coef_of_lt (by omega), hx]
   have HT := Lib.hid ht
   have hs := (HS.out.cell x.n).trans (seenC_get _ _)
   rw [any_n] at hs
   have hfz := HS.out.frozen x.n
   clear hx ht
   by_cases hin : x ∈ p.take k
   ·rw [decide_eq_true hin] at hs
    have HNO : Hid (decide p.Nodup = false) := Lib.hid (decide_eq_false (not_nodup_of_take (k := k + 1) (by rw [HT.out, nodup_snoc]; exact fun h => h.2 hin)))
    clear hin
    go_wp2
    go_ret
    exact ⟨by rw [HNO.out]; rfl, HW⟩
   ·rw [decide_eq_false hin] at hs
    have HN2 : Hid ((p.take (k + 1)).Nodup) := Lib.hid (by rw [HT.out, nodup_snoc]; exact ⟨HN.out, hin⟩)
    have HS2 : Hid (Block (wr.setCell ⟨w.heap.size, x.n, none⟩ (.bool true)) w.heap.size 113 (seenC (p.take (k + 1)))) := Lib.hid (by rw [HT.out, ← seenC_set]; exact HS.out.set_ _ _)
    clear hin
    go_wp2
    go_roundw
    case rel => exact ⟨k + 1, by omega, by go_num, HS2, HN2, HW.setCell (p := ⟨w.heap.size, x.n, none⟩) (Nat.le_refl _) _⟩
    case measure => simp [intOf]; omega
  ·obtain rfl : k = m := by omega
   have HY : Hid (decide p.Nodup = true) := Lib.hid (decide_eq_true (by have := HN.out; rwa [List.take_of_length_le (by omega)] at this))
   clear HN hl hkk
   go_wp2
   go_ret
   exact ⟨by rw [HY.out]; rfl, HW⟩
end Go.Proofs.Ytjoghbmedfmioab.Rd

namespace Go.Proofs.Ytjoghbmedfmioab.Poly
open Go.RowKit
def noDefer (ops : Array Oper) : Bool := ops.all fun o => match o.op with | .defer _ => false | _ => true
theorem noDefer_spec {ops : Array Oper} (h : noDefer ops = true) {i : Nat} {o : Oper} (ho : ops[i]? = some o) (c : Call) : o.op ≠ .defer c := by
 intro e
 have h1 := (Array.all_eq_true_iff_forall_mem.1 h) o (Array.mem_of_getElem? ho)
 rw [e] at h1
 cases h1
section
variable {P : Program} {ops : Array Oper} {Q : Exit → Act → World → Prop} {md : Region.Mode} {l n : Nat}
theorem rowsIn_round {row : String} {args : Array Value} {w : World} {R : Value → World → Prop} (h : Rows P row args w R) : RowsIn (Fence.wide.inRound l) n P row args w R :=
 fun c cs _ => let ⟨v, w', h1, h2⟩ := h c cs; ⟨v, w', h1, stepsIn_wide.2 h2⟩
theorem callsIn_round {f : FuncId} {args : Array Value} {w : World} {R : Ending → World → Prop} (h : Calls P f args w R) : CallsIn (Fence.wide.inRound l) n P f args w R :=
 (callsIn_wide.2 h : CallsIn Fence.wide n P f args w R)
theorem oper_round {o : Oper} (hnd : ∀ c, o.op ≠ .defer c) {a : Act} {w : World} {K : Act → World → Prop} (h : o.wp P a w K Q) : o.wpIn (Fence.wide.inRound l) n P a w K Q := by
 refine ⟨fun _ _ => trivial, ?_⟩
 rw [Oper.semAt_eq _ _ _ hnd]
 unfold Oper.wp at h
 generalize (execOp a.eval o).run P w = r at *
 cases r with
 | ok x w' =>
  cases x <;> simp only [Oper.upon, Oper.uponIn] at h ⊢ <;>
   first
    | exact h
    | exact ⟨(fun h => by cases h), callsIn_round h⟩
    | exact ⟨(fun h => by cases h), rowsIn_round h⟩
    | exact h.elim
 | halt x w' => cases x <;> simp only [Oper.upon, Oper.uponIn] at h ⊢ <;> exact h
theorem wpAny_round (hnd : noDefer ops = true) (hlo : ¬ LetsOut Q) : ∀ (fuel : Nat) (listed : Array Bool) (a : Act) (w : World), wpAny P md ops Q fuel listed a w → wpAnyIn (Fence.wide.inRound l) n P md ops Q fuel listed a w
 | 0, _, _, _, h => h
 | fuel + 1, listed, a, w, h => by
  refine ⟨h.1, fun i hi => ?_⟩
  have h1 := h.2 i hi
  unfold wpOp at h1
  unfold wpOpIn
  cases ho : ops[i]? with
  | none => simp only [ho] at h1 ⊢; exact wpAny_round hnd hlo fuel _ _ _ h1
  | some o =>
   simp only [ho] at h1 ⊢
   split
   ·rename_i hw
    rw [if_pos hw] at h1
    rcases h1 with h1 | ⟨_, h1⟩
    ·exact Oper.wpIn_mono (fun a w => wpAny_round hnd hlo fuel _ a w) (oper_round (noDefer_spec hnd ho) h1)
    ·exact (hlo h1).elim
   ·rename_i hw
    rw [if_neg hw] at h1
    exact ⟨fun _ _ => trivial, wpAny_round hnd hlo fuel _ _ _ h1⟩
theorem wpOp_call {i : Nat} {o : Oper} {K : Act → World → Prop} {a : Act} {w : World} (ho : ops[i]? = some o) (hw : Region.wanted o (yielded ops a.tmps) = true) (h : o.wp P a w K Q) : wpOp P ops Q i K a w := by
 unfold wpOp
 simp only [ho, hw, if_true]
 exact .inl h
theorem region_round {id : Nat} {a : Act} {w : World} (hm : P.follows .mixedOrders = true) (hnd : noDefer ops = true) (hlo : ¬ LetsOut Q)
  (h : wpAny P .any ops Q ops.size (Array.replicate ops.size false) a w.drew) : (Code.region id ops true).wpIn (Fence.wide.inRound l) n P Q a w :=
 wpIn_region_any hm (wpAny_round hnd hlo _ _ _ _ h)
theorem region_round_held {S : World → Prop} {id : Nat} {a : Act} {w : World} (hm : P.follows .mixedOrders = true) (hnd : noDefer ops = true) (hlo : ¬ LetsOut Q) (hS : S w.drew)
  (h : S w.drew → wpAnyH P .any ops Q S ops.size (Array.replicate ops.size false) a w.drew) : (Code.region id ops true).wpIn (Fence.wide.inRound l) n P Q a w :=
 region_round hm hnd hlo (wpAny_of_held _ _ _ _ (h hS))
theorem region_round_tail {id : Nat} {a : Act} {w : World} {os : List Oper} (k : Nat) (hm : P.follows .mixedOrders = true) (hB : Region.lexTailB .any os.toArray k = true) (hnd : noDefer os.toArray = true) (hlo : ¬ LetsOut Q)
  (h : wpStill P os.toArray w.drew (fun a' => wpList P os.toArray Q (os.drop k) a' w.drew) (os.take k) a) : (Code.region id os.toArray true).wpIn (Fence.wide.inRound l) n P Q a w := by
 simp only [Region.lexTailB, Bool.and_eq_true, decide_eq_true_eq] at hB
 obtain ⟨⟨⟨⟨hsel, hn⟩, hs⟩, hc⟩, hlex⟩ := hB
 have hn' : k < os.length := by simpa using hn
 have htl : (os.take k).length = k := by simp; omega
 have hdl : (os.drop k).length = os.toArray.size - k := by simp
 have inv0 : HeadInv .any os.toArray k (Array.replicate os.toArray.size false) :=
  ⟨by simp, (fun j oj _ hl => by rw [getD_replicate_false] at hl; cases hl), fun t _ ht => getD_in (by simpa using ht) (getD_replicate_false _ _)⟩
 have H := wpAnyL_lex (md := .any) (g := os.toArray.size - k) hsel hs hc hn (os.take k) 0 _ a (fun j hj => by
  have hj' : j < k := by rw [htl] at hj; exact hj
  simp [hj']) (by simpa using htl) inv0 (by rw [htl]; exact hlex) h
 refine region_round hm hnd hlo ?_
 have := wpAny_of_head (Q' := Q) (g := os.toArray.size - k) (fun listed a' hL => by
  have := wpAny_of_seq (md := .any) (Q' := Q) (os.drop k) k listed a' w.drew (fun j => by simp [List.getElem?_drop]) (by rw [hdl]; exact hL.1) hL.2
  rwa [hdl] at this) _ _ _ H
 rw [htl, show k + (os.toArray.size - k) = os.toArray.size by omega] at this
 exact this
end
end Go.Proofs.Ytjoghbmedfmioab.Poly

namespace Go.Proofs.Ytjoghbmedfmioab.Poly
open Go.RowKit Go.Shelf F8 GF
attribute [local go_sem] Oper.semAt_some
theorem Own.block {w : World} {B : Nat} {e : TypeId} {g n : Nat} {xs : List Value} (h : Own w B e (.slice (some ⟨g, 0, none⟩) n n) xs) : Block w g e xs.toArray := by
 rcases h.2 with ⟨h1, _⟩ | ⟨g', cap, cur, h1, h2, h3, h4, h5, h6, h7⟩
 ·cases h1
 ·injection h1 with h1 h8 h9
  injection h1 with h1
  injection h1 with h1
  subst h1 h9
  have : cur.toList = xs := by rw [← h7, List.take_of_length_le (by simp [h6, ← h8])]
  rw [← this]
  exact h3
theorem Own.of_block {w : World} {B : Nat} {e : TypeId} {g n : Nat} {xs : List Value} (h : Block w g e xs.toArray) (hB : B ≤ g) (hn : xs.length = n) (hm : n ≤ maxLen) : Own w B e (.slice (some ⟨g, 0, none⟩) n n) xs := by
 subst hn
 exact ⟨by simp, .inr ⟨g, xs.length, xs.toArray, rfl, hB, h, Nat.le_refl _, hm, by simp, by simp⟩⟩
theorem coef_set (s : List F8) (k : Nat) (x : F8) (hk : k < s.length) (i : Nat) : coef (s.set k x) i = if i = k then x else coef s i := by
 unfold coef
 rw [List.getD_eq_getElem?_getD, List.getD_eq_getElem?_getD, List.getElem?_set]
 by_cases e : i = k
 ·subst e; simp [hk]
 ·rw [if_neg (Ne.symm e), if_neg e]
theorem add_still (x y : F8) (w : World) : Calls Try.prog 76 #[.int .u8 x.n, .int .u8 y.n] w fun e w' => e = .returned (.int .u8 (x + y).n) ∧ w' = w :=
 (add_calls x.n y.n x.h y.h w).mono fun _ _ ⟨h1, h2⟩ => ⟨h1, h2.symm⟩
end Go.Proofs.Ytjoghbmedfmioab.Poly

namespace Go.Proofs.Ytjoghbmedfmioab.Poly
open Go.RowKit F8 GF
section
variable {w0 w w' : World} {g : Nat} {ls : List (Option Addr × List F8)} {A B : Option Addr} {p q : List F8}
theorem bytes_far (h : Bytes w A (bs p)) (hg : p ≠ [] → ∀ a, A = some a → a.block ≠ g) (hp : Past w.heap.size g w w') : Bytes w' A (bs p) := by
 refine ⟨fun k u hu => ?_, bs_lt p⟩
 obtain ⟨b, off, rfl, hc⟩ := h.row k u hu
 refine ⟨b, off, rfl, ?_⟩
 rw [← hc]
 exact World.cell?_of_block (hp.block b (cell_lt hc) (hg (by rintro rfl; simp [bs, bv] at hu) _ rfl))
theorem own_block {B0 : Nat} {e : TypeId} {xs : List Value} {n c : Nat} (h : Own w B0 e (.slice A n c) xs) : ∀ a, A = some a → B0 ≤ a.block := by
 intro a ha
 rcases h.2 with ⟨h1, _⟩ | ⟨b, cap, cur, h1, h2, _⟩
 ·injection h1 with h1; rw [h1] at ha; cases ha
 ·injection h1 with h1; rw [h1] at ha; cases ha; exact h2
end
theorem own_ne {w : World} {g B : Nat} {e t : TypeId} {v : Value} {xs : List Value} {cs : Array Value} (h : Own w B e v xs) (hb : Block w g t cs) (hne : e ≠ t) : v.ownBlock ≠ some g := by
 rcases h.2 with ⟨rfl, _⟩ | ⟨b, cap, cur, rfl, _, hh, _⟩
 ·simp [Value.ownBlock]
 ·intro e1
  obtain rfl : b = g := by simpa [Value.ownBlock] using e1
  unfold Block at hb
  rw [hh] at hb
  simp only [Option.some.injEq, Obj.cells.injEq] at hb
  exact hne hb.2.1
theorem own_keep {w w' : World} {g B : Nat} {v : Value} {xs : List Value} (h : Own w B 5 v xs) (hf : FldP w (some ⟨g, 0, none⟩)) (hp : Past w.heap.size g w w') : Own w' B 5 v xs := by
 refine h.grown (row := some g) ⟨hp.os, hp.tape, hp.output, hp.size, fun k hk hn => hp.block k hk (fun e => hn (by rw [e]))⟩ (.inr ?_)
 rcases hf.fld with hb | hb
 ·exact own_ne h hb (by decide)
 ·exact own_ne h hb (by decide)
theorem _root_.Go.Proofs.Ytjoghbmedfmioab.GF.Fld.kept_grown {w w' : World} {g B : Nat} {row : Option Nat} (h : Fld w g) (hw : w.grownBy w' row) (hg : g < B) (hr : ∀ k, row = some k → B ≤ k) : Fld w' g :=
 have e := hw.block g h.lt (fun e => by have := hr g e.symm; omega)
 h.imp (fun h => e.trans h) (fun h => e.trans h)
end Go.Proofs.Ytjoghbmedfmioab.Poly

namespace Go.Proofs.Ytjoghbmedfmioab.Poly
open Go.RowKit Go.Shelf F8 GF
attribute [local go_sem] Oper.semAt_some
structure But (B : Nat) (S : Nat → Prop) (w w' : World) : Prop where
 os : w'.os = w.os
 tape : w'.tape = w.tape
 output : w'.output = w.output
 size : w.heap.size ≤ w'.heap.size
 block : ∀ k, k < B → ¬ S k → w'.heap[k]? = w.heap[k]?
section
variable {B : Nat} {S : Nat → Prop} {a w w' : World}
theorem But.refl (B : Nat) (S : Nat → Prop) (w : World) : But B S w w := ⟨rfl, rfl, rfl, Nat.le_refl _, fun _ _ _ => rfl⟩
theorem But.trans (h : But B S a w) (k : But B S w w') : But B S a w' :=
 ⟨k.os.trans h.os, k.tape.trans h.tape, k.output.trans h.output, Nat.le_trans h.size k.size, fun i hi hn => (k.block i hi hn).trans (h.block i hi hn)⟩
theorem But.of_past {g : Nat} (h : Past B g a w) (hg : S g) : But B S a w := ⟨h.os, h.tape, h.output, h.size, fun i hi hn => h.block i hi (fun e => hn (e ▸ hg))⟩
theorem But.mono {B' : Nat} {S' : Nat → Prop} (h : But B S a w) (hB : B' ≤ B) (hS : ∀ k, k < B' → S k → S' k) : But B' S' a w := ⟨h.os, h.tape, h.output, h.size, fun i hi hn => h.block i (by omega) (fun e => hn (hS i hi e))⟩
theorem But.drew (h : But B S a w) : But B S a w.drew := ⟨h.os, h.tape, h.output, h.size, h.block⟩
theorem But.setCell (h : But B S a w) {p : Addr} (hp : S p.block ∨ B ≤ p.block) (u : Value) : But B S a (w.setCell p u) :=
 h.trans ⟨rfl, rfl, rfl, by simp [World.setCell], fun k hk hn => Below.heap_setCell _ _ _ _ (by rintro rfl; rcases hp with hp | hp; exact hn hp; omega)⟩
theorem But.bytes {A : Option Addr} {p : List F8} (h : But w.heap.size S w w') (hb : Bytes w A (bs p)) (hg : p ≠ [] → ∀ a, A = some a → ¬ S a.block) : Bytes w' A (bs p) := by
 refine ⟨fun k u hu => ?_, bs_lt p⟩
 obtain ⟨b, off, rfl, hc⟩ := hb.row k u hu
 refine ⟨b, off, rfl, ?_⟩
 rw [← hc]
 exact World.cell?_of_block (h.block b (cell_lt hc) (hg (by rintro rfl; simp [bs, bv] at hu) _ rfl))
end
theorem past_cell {B g : Nat} {w w' : World} (h : Past B g w w') (p : Addr) (hb : p.block < B) (hn : p.block ≠ g) : w'.cell? p = w.cell? p := World.cell?_of_block (h.block _ hb hn)
theorem Fld.ne_block {w : World} {gf g : Nat} {cs : Array Value} (hf : Fld w gf) (hb : Block w g 5 cs) : gf ≠ g := by
 rintro rfl
 rcases hf with h | h <;>
 ·unfold Block at h hb
  rw [h] at hb
  simp only [Option.some.injEq, Obj.cells.injEq] at hb
  exact absurd hb.2.1 (by decide)
theorem own_cell {w : World} {B g M C k : Nat} {s : List F8} (h : Own w B 5 (.slice (some ⟨g, 0, none⟩) M C) (bv (bs s))) (hs : s.length = M) (hk : k < M) : w.cell? ⟨g, k, none⟩ = some (.int .u8 ((coef s k).n : Int)) := by
 have hl : (bv (bs s)).length = M := by rw [bvs_length, hs]
 rw [Own.cellAt h hl k (by omega), coef_of_lt (by omega)]
 simp [bv, bs]
theorem own_set {w : World} {B g M C k : Nat} {s : List F8} {x : F8} (h : Own w B 5 (.slice (some ⟨g, 0, none⟩) M C) (bv (bs s))) (hs : s.length = M) : Own (w.setCell ⟨g, k, none⟩ (.int .u8 (x.n : Int))) B 5 (.slice (some ⟨g, 0, none⟩) M C) (bv (bs (s.set k x))) := by
 have hl : (bv (bs s)).length = M := by rw [bvs_length, hs]
 have := Own.set_ h hl k (.int .u8 (x.n : Int))
 rwa [show (bv (bs s)).set k (.int .u8 (x.n : Int)) = bv (bs (s.set k x)) by simp [bv, bs, List.map_set]] at this
theorem Fld.ne_own {w : World} {gf g B M C : Nat} {xs : List Value} (hf : Fld w gf) (h : Own w B 5 (.slice (some ⟨g, 0, none⟩) M C) xs) : gf ≠ g := by
 rintro rfl
 rcases hf with hb | hb <;> exact own_ne h hb (by decide) rfl
theorem mul_f (gf : Nat) (x y : F8) (w : World) (hf : Fld w gf) :
  Calls Try.prog 43 #[.pointer (some ⟨gf, 0, none⟩), .int .u8 x.n, .int .u8 y.n] w fun e w' => e = .returned (.int .u8 (x * y).n) ∧ Fld w' gf ∧ Past w.heap.size gf w w' :=
 (mul_calls (some ⟨gf, 0, none⟩) x.n y.n x.h y.h w (FldP.of hf)).mono fun _ _ ⟨h1, h2, h3⟩ => ⟨h1, h2.fld, h3⟩
def Added (Bo gf g1 M C off : Nat) (s q : List F8) (c : F8) (w : World) (e : Ending) (w' : World) : Prop :=
 e = .returned (.tuple #[]) ∧ (∃ s', s'.length = s.length ∧ Eqv s' (padd s (pmul (mono off c) q)) ∧ Own w' Bo 5 (.slice (some ⟨g1, 0, none⟩) M C) (bv (bs s'))) ∧ Fld w' gf ∧ But w.heap.size (fun k => k = g1 ∨ k = gf) w w'
def Sofar (s t q : List F8) (off k : Nat) (c : F8) : Prop := t.length = s.length ∧ ∀ i, coef t i = coef s i + if off ≤ i ∧ i < off + k then c * coef q (i - off) else 0
theorem Sofar.start (s q : List F8) (off : Nat) (c : F8) : Sofar s s q off 0 c := ⟨rfl, fun i => by rw [if_neg (by omega), add_zero]⟩
theorem Sofar.at_ {s t q : List F8} {off k : Nat} {c : F8} (h : Sofar s t q off k c) : coef t (off + k) = coef s (off + k) := by rw [h.2, if_neg (by omega), add_zero]
theorem Sofar.step {s t q : List F8} {off k : Nat} {c : F8} (h : Sofar s t q off k c) (hk : off + k < s.length) : Sofar s (t.set (off + k) (coef t (off + k) + coef q k * c)) q off (k + 1) c := by
 refine ⟨by rw [List.length_set, h.1], fun i => ?_⟩
 rw [coef_set t (off + k) _ (by rw [h.1]; exact hk) i]
 by_cases e : i = off + k
 ·subst e
  rw [if_pos rfl, if_pos (by omega), h.at_, show off + k - off = k by omega, mul_comm]
 ·rw [if_neg e, h.2]
  congr 1
  by_cases e2 : off ≤ i ∧ i < off + k
  ·rw [if_pos e2, if_pos (by omega)]
  ·rw [if_neg e2, if_neg (by omega)]
theorem Sofar.all {s t q : List F8} {off : Nat} {c : F8} (h : Sofar s t q off q.length c) : Eqv t (padd s (pmul (mono off c) q)) := fun i => by
 rw [h.2, coef_padd, coef_mono_pmul]
 congr 1
 by_cases e : i < off
 ·rw [if_pos e, if_neg (by omega)]
 ·rw [if_neg e]
  by_cases e2 : i < off + q.length
  ·rw [if_pos (by omega)]
  ·rw [if_neg (by omega), coef_of_le (p := q) (by omega), mul_zero]
theorem add_zero_mono (s q : List F8) (off : Nat) : Eqv s (padd s (pmul (mono off 0) q)) := fun i => by
 rw [coef_padd, coef_mono_pmul, zero_mul]
 split <;> rw [add_zero]
set_option maxRecDepth 100000 in
set_option maxHeartbeats 2000000 in
theorem addTimes_calls (Bo gf g1 M C off ls cs : Nat) (A1 B : Option Addr) (s q : List F8) (n d : Nat) (c : F8) (w : World) (hf : Fld w gf) (hS : Own w Bo 5 (.slice (some ⟨g1, 0, none⟩) M C) (bv (bs s))) (hsl : s.length = M) (hl : q.length = n) (hA : 0 < n → A1 = some ⟨g1, off, none⟩)
  (hoff : off + n ≤ s.length) (hls : n ≤ ls) (hb : Bytes w B (bs q)) (hfar : q ≠ [] → ∀ a, B = some a → a.block ≠ g1 ∧ a.block ≠ gf) (hn : n ≤ 1000000) (_ : s.length ≤ 1000000) :
  Calls Try.prog 66 #[.pointer (some ⟨gf, 0, none⟩), .slice A1 ls cs, .slice B n d, .int .u8 c.n] w (Added Bo gf g1 M C off s q c w) := by
 have hne := Fld.ne_own hf hS
 have hbk := Own.blk hS
 by_cases c0 : c = 0
 ·have hx0 : ((c.n : Int) == 0) = true := by rw [c0]; rfl
  go_enter Try.func66, Try.ntmps66
  go_wp2
  refine bodyPost_ret (results_none rfl _ _ _) rfl ?_
  exact ⟨rfl, ⟨s, rfl, by rw [c0]; exact add_zero_mono s q off, hS⟩, hf, But.refl _ _ _⟩
 ·have hx0 : ((c.n : Int) == 0) = false := n_beq0 c0
  have HB := Lib.hid hb
  have HL := Lib.hid hl
  have HF := Lib.hid hf
  have HS := Lib.hid hS
  have HSL := Lib.hid hsl
  have HFar := Lib.hid hfar
  have HA := Lib.hid hA
  clear hb hl hf hS hfar hA hsl
  go_enter Try.func66, Try.ntmps66
  go_wp2
  go_loopw [14] (fun i wr => ∃ (k : Nat) (t : List F8), k ≤ n ∧ i = .int .i64 k ∧ Hid (Sofar s t q off k c) ∧ Hid (Own wr Bo 5 (.slice (some ⟨g1, 0, none⟩) M C) (bv (bs t))) ∧ Hid (Fld wr gf) ∧ Hid (But w.heap.size (fun k => k = g1 ∨ k = gf) w wr)) (fun i _ => n - (intOf i).toNat)
  case atStart => exact ⟨0, s, by omega, rfl, Lib.hid (Sofar.start s q off c), HS, HF, Lib.hid (But.refl _ _ _)⟩
  case round =>
   obtain ⟨k, t, hk, rfl, HT, HSr, HFr, HU⟩ := hrel
   by_cases hkk : k < n
   ·have hq0 : q ≠ [] := by intro e; have := HL.out; rw [e] at this; simp at this; omega
    have hbq := HU.out.bytes HB.out (fun h a ha hS => by have := HFar.out h a ha; omega)
    obtain ⟨b, o, rfl⟩ := where_ HB.out (by have := HL.out; omega)
    have hcell := cellAt hbq k (by have := HL.out; omega)
    obtain ⟨x, hx⟩ : ∃ x, coef q k = x := ⟨_, rfl⟩
    obtain ⟨y, hy⟩ : ∃ y, coef t (off + k) = y := ⟨_, rfl⟩
    have htl : off + k < t.length := by rw [HT.out.1]; omega
    have htM : t.length = M := by rw [HT.out.1, HSL.out]
    have HTM := Lib.hid htM
    have hc2 := own_cell HSr.out htM (k := off + k) (by omega)
    have hf2 := Own.frozenAt HSr.out (by rw [bvs_length, htM]) (off + k)
    have hg1 := (Own.blk HSr.out).2
    clear htM
    have HT2 : Hid (Sofar s (t.set (off + k) (y + x * c)) q off (k + 1) c) := Lib.hid (by rw [← hx, ← hy]; exact HT.out.step (by omega))
    rw [hx] at hcell
    rw [hy] at hc2
    have hkl : k < ls := by omega
    obtain rfl : A1 = some ⟨g1, off, none⟩ := HA.out (by omega)
    clear hx hy hbq hq0
    go_wp2_with fail
    go_region_with (first
     | (go_at_call 43; refine (mul_f gf x c _ (show Fld wr.drew gf from HFr.out)).mono ?_; rintro e w2 ⟨rfl, hF2, hP2⟩; have hc3 := (past_cell hP2 ⟨g1, off + k, none⟩ hg1 (by simp; omega)).trans (show wr.drew.cell? ⟨g1, off + k, none⟩ = _ from hc2); have HS2 := Lib.hid (own_keep (w' := w2) (HSr.out.drew) (FldP.of (show Fld wr.drew gf from HFr.out)) hP2); have hf3 := Own.frozenAt HS2.out (by rw [bvs_length, HTM.out]) (off + k); have HF2 := Lib.hid hF2; have HP2 := Lib.hid hP2; clear hF2 hP2)
     | (go_at_call 76; refine (add_still y (x * c) _).mono ?_; rintro e w3 ⟨rfl, rfl⟩))
    all_goals
     have HS3 : Hid (Own (w3.setCell ⟨g1, off + k, none⟩ (.int .u8 ((y + x * c).n : Int))) Bo 5 (.slice (some ⟨g1, 0, none⟩) M C) (bv (bs (t.set (off + k) (y + x * c))))) := Lib.hid (own_set HS2.out HTM.out)
     have HF3 : Hid (Fld (w3.setCell ⟨g1, off + k, none⟩ (.int .u8 ((y + x * c).n : Int))) gf) := Lib.hid (HF2.out.imp (fun h => h.far hne _) (fun h => h.far hne _))
     have HU3 : Hid (But w.heap.size (fun k => k = g1 ∨ k = gf) w (w3.setCell ⟨g1, off + k, none⟩ (.int .u8 ((y + x * c).n : Int)))) := Lib.hid ((HU.out.drew.trans (But.of_past (HP2.out.mono HU.out.size) (.inr rfl))).setCell (p := ⟨g1, off + k, none⟩) (.inl (.inl rfl)) _)
     clear HA hc3 hf3 hc2 hf2 hcell
     go_wp2
     go_roundw
     case rel => exact ⟨k + 1, _, by omega, by go_num, HT2, HS3, HF3, HU3⟩
     case measure => simp [intOf]; omega
   ·obtain rfl : k = n := by omega
    go_wp2
    go_end0
    exact ⟨rfl, ⟨t, HT.out.1, by have := HT.out; rw [← HL.out] at this; exact this.all, HSr.out⟩, HFr.out, HU.out⟩
end Go.Proofs.Ytjoghbmedfmioab.Poly

namespace Go.Proofs.Ytjoghbmedfmioab.Poly
open Go.RowKit Go.Shelf F8 GF
attribute [local go_sem] Oper.semAt_some
def IsF (w0 w : World) (pf : Option Addr) (g : Nat) : Prop := (pf = none ∧ w.heap.size ≤ g) ∨ (pf = some ⟨g, 0, none⟩ ∧ g < w0.heap.size)
theorem IsF.ne {w0 w : World} {pf : Option Addr} {g k : Nat} (h : IsF w0 w pf g) (h1 : w0.heap.size ≤ k) (h2 : k < w.heap.size) : k ≠ g := by
 rcases h with ⟨_, h⟩ | ⟨_, h⟩ <;> omega
theorem IsF.past {w0 w a b : World} {pf : Option Addr} {g : Nat} (h : IsF w0 w pf g) (hw : w0.heap.size ≤ w.heap.size) (hp : Past w0.heap.size g a b) : Past w0.heap.size (rb w0 pf) a b := by
 rcases h with ⟨rfl, h⟩ | ⟨rfl, h⟩
 ·exact Past.of_below (hp.below (by omega)) _
 ·exact hp
theorem IsF.fldP {w0 w w' : World} {pf : Option Addr} {g : Nat} (h : IsF w0 w pf g) (hf : Fld w' g) : FldP w' pf := by
 rcases h with ⟨rfl, h⟩ | ⟨rfl, h⟩
 ·exact .inl rfl
 ·exact FldP.of hf
theorem IsF.far {w0 w : World} {pf A : Option Addr} {p : List F8} {g : Nat} (h : IsF w0 w pf g) (hw : w0.heap.size ≤ w.heap.size) (hfar : Far pf A p) (hb : Bytes w0 A (bs p)) : p ≠ [] → ∀ a, A = some a → a.block ≠ g ∧ a.block < w0.heap.size := by
 intro hp a ha
 obtain ⟨b, off, e⟩ := where_ hb (List.length_pos_iff.2 hp)
 obtain ⟨b', off', e', hc⟩ := cellF hb 0 (List.length_pos_iff.2 hp)
 rw [ha] at e e'
 cases e; cases e'
 have hlt := cell_lt hc
 refine ⟨?_, hlt⟩
 rcases h with ⟨rfl, h⟩ | ⟨rfl, h⟩
 ·simp at hlt ⊢; omega
 ·exact hfar hp _ _ ha rfl
def NewF (w0 : World) (pf : Option Addr) (w : World) (e : Ending) (w' : World) : Prop :=
 ∃ g, e = .returned (.pointer (some ⟨g, 0, none⟩)) ∧ IsF w0 w pf g ∧ Fld w' g ∧ Below w.heap.size w w'
theorem orNew_f (pf : Option Addr) (w0 w : World) (hf : FldP w0 pf) (hb : Below w0.heap.size w0 w) : Calls Try.prog 44 #[.pointer pf] w (NewF w0 pf w) := by
 have hfw : FldP w pf := hf.below hb
 refine (orNew_calls pf w hfw).mono ?_
 rintro e w' ⟨g, h1, ⟨h2, rfl⟩ | ⟨h2, h3, h4⟩⟩
 ·subst h2
  exact ⟨g, h1, .inr ⟨rfl, hf.fld.lt⟩, hfw.fld, Below.refl _ _⟩
 ·subst h3 h4
  exact ⟨_, h1, .inl ⟨h2, Nat.le_refl _⟩, Fld.new w, (Below.refl _ _).alloc (Nat.le_refl _) _⟩
end Go.Proofs.Ytjoghbmedfmioab.Poly
