/- Of the program, joined: PolyKit, PolyDown, PolyRef, PolyRef2, PolyRef3, GfOps, GfSt, Str, PolySame, PolySpec, PolyCode1, PolyMath2. -/
import Derived.Test.YtjoghbmedfmioaaGreatPb02
import Derived.Test.YtjoghbmedfmioaaGreatPb01
import Derived.RangeFuncNested
import Derived.RangeFuncBound
import Derived.Shelf.Abstract
import Derived.Shelf.RegionOpen
import Derived.WalkKit
import Derived.OwnWalkIn
import Derived.TacticsInMore
import Derived.LoopNIn
import Derived.LoopIn
import Derived.Deep.RegionLaw
import Derived.Deep.RegionHeld3
import Derived.BigQuiet
import Derived.Deep.QuietTactic
import Derived.Laws.BytesArg
import Derived.Lib.ConvBytes
import Derived.Laws.Cover3
namespace Go.Proofs.YtjoghbmedfmioaaGreat.Poly
open Go.RowKit F8
theorem info_u8 : (Tryz.prog.info? 5).map (fun i => (i.zero, i.size, i.bytes)) = some (some (.int .u8 0), 1, 1) := by kernel_rfl
theorem bvs_length (p : List F8) : (bv (bs p)).length = p.length := by rw [bv_length, bs_length]
def Res (w w' : World) (e : Ending) (p : List F8) : Prop :=
 ∃ A c, e = .returned (.slice A p.length c) ∧ p.length ≤ c ∧ Own w' w.heap.size 5 (.slice A p.length c) (bv (bs p)) ∧ Below w.heap.size w w'
theorem Own.shape {w : World} {B : Nat} {e : TypeId} {v : Value} {p : List F8} (h : Own w B e v (bv (bs p))) : ∃ A c, v = .slice A p.length c ∧ p.length ≤ c := by
 have hl := bvs_length p
 rcases h.2 with ⟨rfl, hn⟩ | ⟨g, cap, cur, rfl, _, _, h3, _⟩
 ·exact ⟨none, 0, by rw [← hl, hn], by omega⟩
 ·exact ⟨some ⟨g, 0, none⟩, cap, by rw [hl], by omega⟩
theorem Own.bytes {w : World} {B : Nat} {e : TypeId} {A : Option Addr} {n c : Nat} {p : List F8} (h : Own w B e (.slice A n c) (bv (bs p))) : Bytes w A (bs p) := by
 obtain ⟨A', c', e1, hc⟩ := Own.shape h
 injection e1 with e2 e3 e4
 subst e2 e3 e4
 unfold Own at h
 rw [bvs_length] at h
 exact ⟨Row.of_own h, bs_lt p⟩
theorem Res.mk {w w' : World} {v : Value} {p : List F8} (h : Own w' w.heap.size 5 v (bv (bs p))) (hb : Below w.heap.size w w') : Res w w' (.returned v) p := by
 obtain ⟨A, c, rfl, hc⟩ := Own.shape h
 exact ⟨A, c, rfl, hc, h, hb⟩
theorem cellF {w : World} {A : Option Addr} {p : List F8} (h : Bytes w A (bs p)) (k : Nat) (hk : k < p.length) : ∃ b off, A = some ⟨b, off, none⟩ ∧ w.cell? ⟨b, off + k, none⟩ = some (.int .u8 ((coef p k).n : Int)) := by
 obtain ⟨b, off, h1, h2, _⟩ := h.at_ (k := k) (by rw [bs_length]; exact hk)
 refine ⟨b, off, h1, ?_⟩
 rw [h2, coef_of_lt hk]
 simp [bs]
theorem where_ {w : World} {A : Option Addr} {p : List F8} (h : Bytes w A (bs p)) (h0 : 0 < p.length) : ∃ b off, A = some ⟨b, off, none⟩ := by
 obtain ⟨b, off, h1, _⟩ := cellF h 0 h0; exact ⟨b, off, h1⟩
theorem cellAt {w : World} {b off : Nat} {p : List F8} (h : Bytes w (some ⟨b, off, none⟩) (bs p)) (k : Nat) (hk : k < p.length) : w.cell? ⟨b, off + k, none⟩ = some (.int .u8 ((coef p k).n : Int)) := by
 obtain ⟨b', off', h1, h2⟩ := cellF h k hk
 simp only [Option.some.injEq, Addr.mk.injEq] at h1
 obtain ⟨rfl, rfl, _⟩ := h1
 exact h2
theorem bytes_take {w : World} {A : Option Addr} {p : List F8} (h : Bytes w A (bs p)) (n : Nat) : Bytes w A (bs (p.take n)) := by
 refine ⟨fun k u hu => h.row k u ?_, bs_lt _⟩
 simp only [bv, bs, List.map_take, List.getElem?_take] at hu ⊢
 split at hu
 ·exact hu
 ·cases hu
theorem bytes_drop {w : World} {b off : Nat} {p : List F8} (h : Bytes w (some ⟨b, off, none⟩) (bs p)) (n : Nat) : Bytes w (some ⟨b, off + n, none⟩) (bs (p.drop n)) := by
 refine ⟨fun k u hu => ?_, bs_lt _⟩
 simp only [bv, bs, List.map_drop, List.getElem?_drop] at hu
 obtain ⟨b', off', e, hc⟩ := h.row (n + k) u hu
 simp only [Option.some.injEq, Addr.mk.injEq] at e
 obtain ⟨rfl, rfl, _⟩ := e
 exact ⟨_, _, rfl, by rw [← hc, Nat.add_assoc]⟩
theorem n_beq (a b : F8) : (((a.n : Int) == (b.n : Int)) = true) ↔ a = b := by
 rw [← F8.n_inj, beq_iff_eq]; omega
theorem n_beq_false {a b : F8} (h : a ≠ b) : ((a.n : Int) == (b.n : Int)) = false := by
 rw [Bool.eq_false_iff]; exact fun e => h ((n_beq a b).1 e)
theorem n_beq0 {a : F8} (h : a ≠ 0) : ((a.n : Int) == 0) = false := n_beq_false h
theorem f8_bounds (a : F8) : (0 : Int) ≤ a.n ∧ (a.n : Int) < 256 := by have := a.h; omega
theorem addr_add (b off k : Nat) : (⟨b, off, none⟩ : Addr).add k = ⟨b, off + k, none⟩ := by unfold Addr.add; split <;> simp_all
theorem slice_to {w : World} {A : Option Addr} {p : List F8} (h : Bytes w A (bs p)) (c n : Nat) (hn : n ≤ p.length) (hc : p.length ≤ c) :
  ∃ A2, (∀ w, (Instr.slice 34 (.slice A p.length c) none (some (.int .i64 (n : Int))) none).run Tryz.prog w = .ok (.slice A2 n c) w) ∧ Bytes w A2 (bs (p.take n)) ∧ ∀ a, A2 = some a → ∃ a0, A = some a0 ∧ a0.block = a.block := by
 refine ⟨if c = 0 then A else A.map (·.add (0 * 1)), fun w => ?_, ?_, ?_⟩
 ·obtain ⟨i, hi, _, hi2, _⟩ := info_parts info_u8
  simp [Instr.slice, Instr.sliceBounds, Instr.sliceBound, run_underlying Tryz.underlying34, asIntOf, sizeOf, typeInfo, Sem.run_bind, hi]
  intro h; omega
 ·by_cases hl : p = []
  ·subst hl; simp only [List.take_nil]; exact Bytes.nil _ _
  ·have h0 : 0 < p.length := List.length_pos_iff.2 hl
   obtain ⟨b, off, rfl⟩ := where_ h h0
   rw [if_neg (by omega)]
   simp only [Option.map_some, Nat.zero_mul, addr_add, Nat.add_zero]
   exact bytes_take h n
 ·intro a ha
  split at ha
  ·exact ⟨a, ha, rfl⟩
  ·obtain ⟨a0, e, rfl⟩ := Option.map_eq_some_iff.1 ha
   exact ⟨a0, e, by unfold Addr.add; split <;> rfl⟩
theorem slice_from {w : World} {A : Option Addr} {p : List F8} (h : Bytes w A (bs p)) (c n : Nat) (hn : n ≤ p.length) (hc : p.length ≤ c) :
  ∃ A2, (∀ w, (Instr.slice 34 (.slice A p.length c) (some (.int .i64 (n : Int))) none none).run Tryz.prog w = .ok (.slice A2 (p.length - n) (c - n)) w) ∧ Bytes w A2 (bs (p.drop n)) ∧ ∀ a, A2 = some a → ∃ a0, A = some a0 ∧ a0.block = a.block := by
 refine ⟨if c = n then A else A.map (·.add (n * 1)), fun w => ?_, ?_, ?_⟩
 ·obtain ⟨i, hi, _, hi2, _⟩ := info_parts info_u8
  simp [Instr.slice, Instr.sliceBounds, Instr.sliceBound, run_underlying Tryz.underlying34, asIntOf, sizeOf, typeInfo, Sem.run_bind, hi, hi2]
  intro h; omega
 ·by_cases hl : p.drop n = []
  ·rw [hl]; exact Bytes.nil _ _
  ·have h0 : 0 < p.length := by rcases p with _ | ⟨x, p⟩; simp at hl; simp
   obtain ⟨b, off, rfl⟩ := where_ h h0
   have : c ≠ n := by rintro rfl; exact hl (List.drop_eq_nil_of_le hc)
   rw [if_neg this]
   simp only [Option.map_some, Nat.mul_one, addr_add]
   exact bytes_drop h n
 ·intro a ha
  split at ha
  ·exact ⟨a, ha, rfl⟩
  ·obtain ⟨a0, e, rfl⟩ := Option.map_eq_some_iff.1 ha
   exact ⟨a0, e, by unfold Addr.add; split <;> rfl⟩
theorem made_bytes (n : Nat) : (madeCells (Value.int .u8 0).cells (n * 1)).toList = bv (bs (List.replicate n 0)) := by
 apply List.ext_getElem
 ·simp [madeCells, bv, bs]
 ·intro i h1 h2
  simp [madeCells, bv, bs, Value.cells, Nat.mod_one]; rfl
theorem make_run (w : World) (n : Nat) (hn : n ≤ 1000000000) :
  ∃ w', (Instr.makeSlice 34 (.int .i64 (n : Int)) (.int .i64 (n : Int))).run Tryz.prog w = .ok (.slice (some ⟨w.heap.size, 0, none⟩) n n) w' ∧ Own w' w.heap.size 5 (.slice (some ⟨w.heap.size, 0, none⟩) n n) (bv (bs (List.replicate n 0))) ∧ Below w.heap.size w w' := by
 obtain ⟨i0, hi, hi1, hi2, hi3⟩ := info_parts info_u8
 obtain ⟨w1, hmk, ho, hg⟩ := run_make_full (P := Tryz.prog) w w.heap.size 34 5 i0 _ 1 Tryz.underlying34 hi hi1 hi2 .i64 .i64 n (by rw [hi3]; omega) (by simp only [maxLen]; omega) (Nat.le_refl _)
 rw [made_bytes] at ho
 refine ⟨w1, hmk, ?_, (Below.refl w.heap.size w).grown hg (Nat.le_refl _) (fun _ h => by cases h)⟩
 unfold Own; rw [bvs_length, List.length_replicate]; exact ho
theorem step_app {P : Program} (w : World) {ops : Array Oper} {o : Oper} {a : Act} {K : Act → World → Prop} {Q : Exit → Act → World → Prop} {E : Prop} (hgd : o.guard = none) (s x : Operand) (t : TypeId)
  (ho : o.op = .call { callee := .builtin .append, args := #[s, x], argTypes := #[t, t] })
  (B : Nat) (e : TypeId) (z : Value) (bytes : Nat) (ht : P.underlying t = some (.slice e)) (hinfo : (P.info? e).map (fun i => (i.zero, i.size, i.bytes)) = some (some z, 1, bytes)) (hz : z.cells.size = 1) (hb : 0 < bytes)
  (v : Value) (xs : List Value) (hs : a.eval s = v) (hown : Own w B e v xs) (A : Option Addr) (m c : Nat) (ys : List Value) (hx : a.eval x = .slice A m c) (hm : ys.length = m) (hr : Row w A ys) (h1 : ∀ u ∈ ys, u.oneCell' = true)
  (hlen : (xs.length + m) * bytes ≤ 140737488355328) (hB : B ≤ w.heap.size)
  (h : ∀ v' w', Own w' B e v' (xs ++ ys) → w.grownBy w' v.ownBlock → (v'.ownBlock = v.ownBlock ∨ v'.ownBlock = some w.heap.size) → K (a.put o.dst v') w') :
  if Region.wanted o (yielded ops a.tmps) = true then Oper.wp P o a w K Q else E := by
 have hw : Region.wanted o (yielded ops a.tmps) = true := by simp [Region.wanted, hgd]
 rw [if_pos hw]
 exact wp_app w s x t ho B e z bytes ht hinfo hz hb v xs hs hown A m c ys hx hm hr h1 hlen hB h
end Go.Proofs.YtjoghbmedfmioaaGreat.Poly

namespace Go.Proofs.YtjoghbmedfmioaaGreat.Poly
open Go.RowKit Go.Shelf F8
attribute [local go_sem] Oper.semAt_some
def DownPost (B : Nat) (I : List F8 → World → Prop) (Ix : Code → World → Prop) (W : World) : Exit → Act → World → Prop
 | .normal, _, W' => KeepsFrom B W W' ∧ ∃ p, I p W'
 | .ret, _, W' => KeepsFrom B W W' ∧ Ix .ret W'
 | .exit id, _, W' => KeepsFrom B W W' ∧ Ix (.exit id) W'
 | _, _, _ => False
set_option maxRecDepth 100000 in
set_option maxHeartbeats 2000000 in
theorem down1_in (n : Nat) (hn : 1 ≤ n) (l Bn m c : Nat) (A : Option Addr) (hm : m ≤ 1000000) (J : Nat → List F8 → World → Prop) (Jx : World → Prop)
  (hJ : ∀ k p W, J k p W → p.length = m ∧ Bytes W A (bs p) ∧ W.cell? ⟨Bn, 0, none⟩ = some (.slice A m c))
  (hY : ∀ k p W, k < m → J (k + 1) p W → YieldAt Fence.wide (n - 1) Tryz.prog l #[.int .i64 k, .int .u8 (coef p k).n] W fun e W' =>
   (e = .returned (.bool true) ∧ ∃ p', J k p' W') ∨ (e = .returned (.bool false) ∧ Jx W'))
  (W : World) (p : List F8) (h0 : J m p W) :
  CallsIn Fence.wide n Tryz.prog 125 #[.func (.yield l) #[] #[], .pointer (some ⟨Bn, 0, none⟩)] W fun e W' => (∃ v, e = .returned v) ∧ ((∃ p', J 0 p' W') ∨ Jx W') := by
 refine callsIn_of_wp Tryz.func125 rfl trivial ?_ rfl
 simp only [Tryz.ntmps125, List.size_toArray, List.length_cons, List.length_nil, Nat.reduceAdd, Nat.reduceSub, Array.replicate_succ, Array.replicate_zero, List.push_toArray, List.append_toArray, List.nil_append, List.cons_append]
 have hb0 := (hJ _ _ _ h0).2.2
 gi_wp2
 gi_loopw [3] (fun i wr => ∃ (k : Nat) (p : List F8), k ≤ m ∧ i = .int .i64 ((k : Int) - 1) ∧ J k p wr) (fun i _ => (intOf i + 1).toNat)
 case atStart => exact ⟨m, p, Nat.le_refl _, rfl, h0⟩
 case round =>
  obtain ⟨k, q, hk, rfl, hj⟩ := hrel
  obtain ⟨hl, hB, hbx⟩ := hJ _ _ _ hj
  rcases Nat.eq_zero_or_pos k with rfl | hpos
  ·gi_wp2
   go_end0
   exact ⟨⟨_, rfl⟩, .inl ⟨q, hj⟩⟩
  ·obtain ⟨j, rfl⟩ : ∃ j, k = j + 1 := ⟨k - 1, by omega⟩
   obtain ⟨b, off, rfl, hc⟩ := cellF hB j (by omega)
   obtain ⟨fn, tmps, assign, body, hy, hR⟩ := hY j q wr (by omega) hj
   have e1 : (((j + 1 : Nat) : Int) - 1) = (j : Int) := by omega
   rw [e1]
   clear e1
   gi_wp2
   refine hR.mono ?_
   rintro e W3 (⟨rfl, q', hJ3⟩ | ⟨rfl, hJx3⟩)
   ·gi_wp2
    go_roundw
    case rel => exact ⟨j, q', by omega, rfl, hJ3⟩
    case measure => simp [intOf]
   ·gi_wp2
    refine bodyPost_ret (results_none rfl _ _ _) rfl ?_
    exact ⟨⟨_, rfl⟩, .inr hJx3⟩
set_option maxRecDepth 100000 in
set_option maxHeartbeats 2000000 in
theorem wpIn_down {n : Nat} (h1 : 3 ≤ n) {g : Operand} {s1 s2 : Tmp} {assign body : Code} {Q : Exit → Act → World → Prop} {a : Act} {w : World} {Bn m c : Nat} {A : Option Addr} (hm : m ≤ 1000000)
  (hg : a.eval g = .func (.func 125) #[] #[.pointer (some ⟨Bn, 0, none⟩)])
  (I : Nat → List F8 → World → Prop) (Ix : Code → World → Prop)
  (hI : ∀ k p W W', I k p W → Turn w.heap.size W W' → I k p W') (hIx : ∀ c W W', Ix c W → Turn w.heap.size W W' → Ix c W')
  (hrd : ∀ k p W, I k p W → p.length = m ∧ Bytes W A (bs p) ∧ W.cell? ⟨Bn, 0, none⟩ = some (.slice A m c))
  (p0 : List F8) (h0 : I m p0 w) (a₁ : Nat → F8 → Act)
  (hassign : ∀ (l k : Nat) (x : F8) (W : World) (K : Act → World → Prop), K (a₁ k x) W →
   assign.wpIn (Fence.wide.inRound l) (n - 1 - 1) Tryz.prog (Exit.then K (fun _ _ _ => False)) { tmps := (a.tmps.setIfInBounds s1 (.int .i64 k)).setIfInBounds s2 (.int .u8 x.n), defers := [] } W)
  (hbody : ∀ (l k : Nat) (p : List F8) (W : World), k < m → I (k + 1) p W → w.heap.size ≤ W.heap.size → body.wpIn (Fence.wide.inRound l) (n - 1 - 1) Tryz.prog (DownPost w.heap.size (I k) Ix W) (a₁ k (coef p k)) W)
  (hdone : ∀ (p : List F8) (W : World), I 0 p W → W.heap[w.heap.size]? = some (.deferred (some [])) → Q .normal { a with defers := { target := .collected w.heap.size, args := #[] } :: a.defers } W)
  (hstop : ∀ (c : Code) (W : World), Ix c W → W.heap[w.heap.size]? = some (.deferred (some [])) → c.wpIn Fence.wide n Tryz.prog Q { a with defers := { target := .collected w.heap.size, args := #[] } :: a.defers } W) :
  (Code.rangeFunc g #[s1, s2] assign body).wpIn Fence.wide n Tryz.prog Q a w := by
 refine wpIn_rangeFunc fun fn hfn => ?_
 obtain ⟨D, hD⟩ : ∃ D, D = w.heap.size := ⟨_, rfl⟩
 obtain ⟨R, hR⟩ : ∃ R : LoopState → Option Code → Obj, R = fun st j => .loop { state := st, pending := j, fn, tmps := a.tmps, params := #[s1, s2], assign, body, defers := D } := ⟨_, rfl⟩
 have hRc : ∀ st j, (R st j).isCells = false := by intro st j; rw [hR]; rfl
 let Bk : LoopState → Option Code → World → Prop := fun st j W => W.heap[D + 1]? = some (R st j) ∧ W.heap[D]? = some (.deferred (some []))
 have bk_put : ∀ {st j st' j'} {W : World}, Bk st j W → Bk st' j' (W.putObj (D + 1) (R st' j')) := fun {st j st' j' W} h =>
  ⟨World.putObj_heap_same (Array.getElem?_eq_some_iff.1 h.1).1, (World.putObj_heap_other (by omega)).trans h.2⟩
 have tn_put : ∀ {st j st' j'} {W : World}, Bk st j W → Turn D W (W.putObj (D + 1) (R st' j')) := fun {st j st' j' W} h => Turn.put h.1 (hRc _ _) (by omega) _
 have bk_keep : ∀ {st j} {W W' : World}, Bk st j W → KeepsFrom D W W' → Bk st j W' := fun {st j W W'} h k => ⟨k.same _ _ (by omega) h.1 (hRc _ _), k.same _ _ (Nat.le_refl _) h.2 rfl⟩
 have ends : ∀ {W : World} (j : Option Code), Bk .busy none W → (Instr.endRound (D + 1) j).run Tryz.prog W = .ok (.bool j.isNone) (W.putObj (D + 1) (R (if j.isNone then .ready else .done) j)) := by
  intro W j h
  have h2 := h.1
  rw [hR] at h2 ⊢
  exact run_endRound j h2
 have out : ∀ {W : World} {st j}, st ≠ .busy → Bk st j W → (Instr.endLoop (D + 1)).run Tryz.prog W = .ok j (W.putObj (D + 1) (R .exhausted j)) := by
  intro W st j hst h
  have h2 := h.1
  rw [hR] at h2 ⊢
  exact run_endLoop h2 hst
 rw [← hD] at hI hIx hbody hdone hstop
 obtain ⟨W1, hW1⟩ : ∃ W1, (w.alloc (.deferred (some []))).alloc (R .ready none) = W1 := ⟨_, rfl⟩
 have t1 : Turn D w W1 := by
  rw [← hW1]
  exact (Turn.alloc (by omega) _).trans (Turn.alloc (by simp; omega) _)
 have b1 : Bk .ready none W1 := by
  have e1 := World.alloc_heap_new (w.alloc (.deferred (some []))) (R .ready none)
  have e2 := (Below.heap_alloc (w.alloc (.deferred (some []))) (R .ready none) w.heap.size (by simp)).trans (World.alloc_heap_new w _)
  rw [World.size_alloc, hW1, ← hD] at e1
  rw [hW1, ← hD] at e2
  exact ⟨e1, e2⟩
 refine ⟨D + 1, [{ target := .collected D, args := #[] }], W1, { target := .fn (.func 125) #[.pointer (some ⟨Bn, 0, none⟩)], args := #[.func (.yield (D + 1)) #[] #[]] }, W1, 125,
  #[.func (.yield (D + 1)) #[] #[]] ++ #[.pointer (some ⟨Bn, 0, none⟩)], W1, ?_, ?_, fun _ _ => trivial, ?_, (fun h => by cases h), ?_⟩
 ·rw [← hW1, hR, hD]; exact run_enterLoop_outer _ _ _ _ _
 ·simp only [resolve, hg]; simp [go_sem]
 ·simp [invoke, go_sem]
 ·refine (down1_in (n - 1) (by omega) (D + 1) Bn m c A hm (fun k p W => I k p W ∧ Bk .ready none W ∧ D ≤ W.heap.size) (fun W => ∃ j, Ix j W ∧ Bk .done (some j) W ∧ D ≤ W.heap.size)
   (fun k p W h => hrd k p W h.1) ?_ W1 p0 ⟨hI _ _ _ _ h0 t1, b1, by have := t1.size; omega⟩).mono ?_
  ·
   rintro k p W hk ⟨hi, hb, hsz⟩
   have hy := run_yield (P := Tryz.prog) (args := #[.int .i64 k, .int .u8 (coef p k).n]) (l := D + 1) (by have h2 := hb.1; rw [hR] at h2; exact h2) rfl
   have hbr := run_beginRound (P := Tryz.prog) (l := D + 1) (by have h2 := hb.1; rw [hR] at h2; exact h2) rfl
   refine ⟨fn, _, assign, body, hy, roundIn_of_wpIn hfn ?_⟩
   clear hy
   dsimp only
   rw [zip2]
   refine hassign _ k (coef p k) W _ ?_
   refine ⟨_, hbr, ?_⟩
   clear hbr
   have hb2 : Bk .busy none (W.putObj (D + 1) (R .busy none)) := bk_put hb
   have hi2 := hI _ _ _ _ hi (tn_put (st' := .busy) (j' := none) hb)
   have hwp := hbody (D + 1) k p (W.putObj (D + 1) (R .busy none)) hk hi2 (by simp; omega)
   rw [hR] at hwp
   refine wpIn_mono hwp ?_
   rintro e a3 W3 hp
   have fin : ∀ (j : Option Code), KeepsFrom D (W.putObj (D + 1) (R .busy none)) W3 → (Instr.endRound (D + 1) j).run Tryz.prog W3 = .ok (.bool j.isNone) (W3.putObj (D + 1) (R (if j.isNone then .ready else .done) j)) ∧
     Bk (if j.isNone then .ready else .done) j (W3.putObj (D + 1) (R (if j.isNone then .ready else .done) j)) ∧ Turn D W3 (W3.putObj (D + 1) (R (if j.isNone then .ready else .done) j)) ∧ D ≤ (W3.putObj (D + 1) (R (if j.isNone then .ready else .done) j)).heap.size := fun j hkf => by
    have hb3 := bk_keep hb2 hkf
    refine ⟨ends j hb3, bk_put hb3, tn_put hb3, ?_⟩
    have := hkf.size
    simp at this ⊢
    omega
   have key : ∀ {W4 : World}, KeepsFrom D (W.putObj (D + 1) ((fun st j => Obj.loop { state := st, pending := j, fn, tmps := a.tmps, params := #[s1, s2], assign, body, defers := D }) .busy none)) W4 → KeepsFrom D (W.putObj (D + 1) (R .busy none)) W4 := by
    intro W4 h; rw [hR]; exact h
   cases e with
   | normal =>
    obtain ⟨hkf, q, hq⟩ := hp
    obtain ⟨f1, f2, f3, f4⟩ := fin none (key hkf)
    exact ⟨_, _, f1, .inl ⟨rfl, q, hI _ _ _ _ hq f3, f2, f4⟩⟩
   | ret =>
    obtain ⟨hkf, hq⟩ := hp
    obtain ⟨f1, f2, f3, f4⟩ := fin (some .ret) (key hkf)
    exact ⟨_, _, f1, .inr ⟨rfl, .ret, hIx _ _ _ hq f3, f2, f4⟩⟩
   | exit id =>
    obtain ⟨hkf, hq⟩ := hp
    obtain ⟨f1, f2, f3, f4⟩ := fin (some (.exit id)) (key hkf)
    exact ⟨_, _, f1, .inr ⟨rfl, .exit id, hIx _ _ _ hq f3, f2, f4⟩⟩
   | goto t => exact hp.elim
   | panic ch => exact hp.elim
   | outgrown => exact hp.elim
  ·rintro e W2 ⟨⟨v, rfl⟩, ⟨q, hi, hb, _⟩ | ⟨j, hi, hb, _⟩⟩
   ·exact ⟨none, _, out (by simp) hb, hdone q _ (hI _ _ _ _ hi (tn_put hb)) (bk_put (st' := .exhausted) (j' := none) hb).2⟩
   ·exact ⟨some j, _, out (by simp) hb, hstop j _ (hIx _ _ _ hi (tn_put hb)) (bk_put (st' := .exhausted) (j' := some j) hb).2⟩
end Go.Proofs.YtjoghbmedfmioaaGreat.Poly

namespace Go.Proofs.YtjoghbmedfmioaaGreat.Poly
open Go.RowKit F8
open GF (ret_bool ret_int ret_nat)
theorem bvs_snoc (p : List F8) (s : F8) : bv (bs (p ++ [s])) = bv (bs p) ++ bv [s.n] := by rw [bs_append, bv_append]; rfl
end Go.Proofs.YtjoghbmedfmioaaGreat.Poly

namespace Go.Proofs.YtjoghbmedfmioaaGreat.GF
open Go.RowKit
theorem add_calls (a b : Nat) (ha : a < 256) (hb : b < 256) (w : World) :
  Calls Tryz.prog 19 #[.int .u8 a, .int .u8 b] w fun e w' => e = .returned (.int .u8 (a ^^^ b : Nat)) ∧ w = w' := by
 have HX := Lib.hid (u8_xor' a b ha hb)
 go_enter Tryz.func19, Tryz.ntmps19
 go_wp2
 go_ret
 exact ⟨ret_int HX.out, rfl⟩
set_option maxHeartbeats 1600000 in
theorem mul_calls (p : Option Addr) (a b : Nat) (ha : a < 256) (hb : b < 256) (w : World) (hp : FldP w p) :
  Calls Tryz.prog 71 #[.pointer p, .int .u8 a, .int .u8 b] w fun e w' => e = .returned (.int .u8 (gm a b : Nat)) ∧ FldP w' p ∧ Past w.heap.size (rb w p) w w' := by
 by_cases a0 : a = 0
 ·subst a0
  rw [zero_gm]
  go_enter Tryz.func71, Tryz.ntmps71
  go_wp2
  go_ret
  exact ⟨rfl, hp, Past.refl _ _ _⟩
 by_cases b0 : b = 0
 ·subst b0
  rw [gm_zero]
  have h1 : ((a : Int) == 0) = false := by simp; omega
  go_enter Tryz.func71, Tryz.ntmps71
  go_wp2
  go_ret
  exact ⟨rfl, hp, Past.refl _ _ _⟩
 have h1 : ((a : Int) == 0) = false := by simp; omega
 have h2 : ((b : Int) == 0) = false := by simp; omega
 have hl1 := gl_lt ha
 have hl2 := gl_lt hb
 have HG : Hid (gm a b = gp ((gl a + gl b) % 255)) := Lib.hid (by unfold gm; rw [if_neg a0, if_neg b0])
 go_enter Tryz.func71, Tryz.ntmps71
 go_wp2_with (go_at_call 65; refine (ready_any p _ hp).mono ?_; rintro e w' ⟨g, rfl, hM, hp', hP, hg⟩)
 have c1 := hM.log a ha
 have c2 := hM.log b hb
 have c3 := hM.pow ((gl a + gl b) % 255) (by omega)
 go_region
 all_goals
  go_wp2
  go_ret
  exact ⟨ret_nat HG.out.symm, hp'.drewN 1, hP.drew⟩
set_option maxHeartbeats 1600000 in
theorem div_calls (p : Option Addr) (a b : Nat) (ha : a < 256) (hb : b < 256) (b0 : b ≠ 0) (w : World) (hp : FldP w p) :
  Calls Tryz.prog 60 #[.pointer p, .int .u8 a, .int .u8 b] w fun e w' => e = .returned (.tuple #[.int .u8 (gq a b : Nat), .bool true]) ∧ FldP w' p ∧ Past w.heap.size (rb w p) w w' := by
 have h2 : ((b : Int) == 0) = false := by simp; omega
 by_cases a0 : a = 0
 ·subst a0
  rw [show gq 0 b = 0 from rfl]
  go_enter Tryz.func60, Tryz.ntmps60
  go_wp2
  go_ret2
  exact ⟨rfl, hp, Past.refl _ _ _⟩
 have h1 : ((a : Int) == 0) = false := by simp; omega
 have hl1 := gl_lt ha
 have hl2 := gl_lt hb
 have HG : Hid (gq a b = gp ((gl a + (255 - gl b)) % 255)) := Lib.hid (by unfold gq; rw [if_neg a0])
 obtain ⟨k, hk⟩ : ∃ k : Nat, k = (gl a + (255 - gl b)) % 255 := ⟨_, rfl⟩
 have hki : ((gl a : Int) - gl b + 255) % 255 = (k : Int) := by omega
 have hk5 : k < 255 := by omega
 rw [← hk] at HG
 clear hk
 go_enter Tryz.func60, Tryz.ntmps60
 go_wp2_with (go_at_call 65; refine (ready_any p _ hp).mono ?_; rintro e w' ⟨g, rfl, hM, hp', hP, hg⟩)
 have c1 := hM.log a ha
 have c2 := hM.log b hb
 have c3 := hM.pow k hk5
 go_region
 all_goals
  go_wp2
  go_ret2
  exact ⟨ret_pair HG.out.symm, hp'.drewN 1, hP.drew⟩
set_option maxHeartbeats 1600000 in
theorem exp_calls (p : Option Addr) (n : Int) (hl : -9223372036854775808 ≤ n) (hh : n < 9223372036854775808) (w : World) (hp : FldP w p) :
  Calls Tryz.prog 35 #[.pointer p, .int .i64 n] w fun e w' => e = .returned (.int .u8 (ge n : Nat)) ∧ FldP w' p ∧ Past w.heap.size (rb w p) w w' := by
 have ht := tmod255 n
 have hm : IntKind.i64.wrap (n.tmod 255) = n.tmod 255 := IntWalk.i64_in _ (by omega)
 obtain ⟨k, hk⟩ : ∃ k : Nat, k = (n % 255).toNat := ⟨_, rfl⟩
 have hk5 : k < 255 := by omega
 have HG : Hid (ge n = gp k) := Lib.hid (by unfold ge; rw [hk])
 obtain ⟨m, hmm⟩ : ∃ m : Int, n.tmod 255 = m := ⟨_, rfl⟩
 rw [hmm] at hm ht
 by_cases hneg : m < 0
 ·have hm2 : m + 255 = (k : Int) := by omega
  clear hk ht
  go_enter Tryz.func35, Tryz.ntmps35
  go_wp2_with (go_at_call 65; refine (ready_any p _ hp).mono ?_; rintro e w' ⟨g, rfl, hM, hp', hP, hg⟩; have c3 := hM.pow k hk5)
  go_ret
  exact ⟨ret_nat HG.out.symm, hp', hP⟩
 ·obtain rfl : m = (k : Int) := by omega
  clear hk ht
  go_enter Tryz.func35, Tryz.ntmps35
  go_wp2_with (go_at_call 65; refine (ready_any p _ hp).mono ?_; rintro e w' ⟨g, rfl, hM, hp', hP, hg⟩; have c3 := hM.pow k hk5)
  go_ret
  exact ⟨ret_nat HG.out.symm, hp', hP⟩
set_option maxHeartbeats 1600000 in
theorem log_calls (p : Option Addr) (a : Nat) (ha : a < 256) (a0 : a ≠ 0) (w : World) (hp : FldP w p) :
  Calls Tryz.prog 132 #[.pointer p, .int .u8 a] w fun e w' => e = .returned (.tuple #[.int .i64 (gl a : Nat), .bool true]) ∧ FldP w' p ∧ Past w.heap.size (rb w p) w w' := by
 have h1 : ((a : Int) == 0) = false := by simp; omega
 have hl1 := gl_lt ha
 go_enter Tryz.func132, Tryz.ntmps132
 go_wp2_with (go_at_call 65; refine (ready_any p _ hp).mono ?_; rintro e w' ⟨g, rfl, hM, hp', hP, hg⟩; have c3 := hM.log a ha)
 go_ret2
 exact ⟨rfl, hp', hP⟩
set_option maxHeartbeats 1600000 in
theorem pow_calls (p : Option Addr) (a : Nat) (ha : a < 256) (n : Int) (hl : -9223372036854775808 ≤ n) (hh : n < 9223372036854775808) (w : World) (hp : FldP w p) :
  Calls Tryz.prog 140 #[.pointer p, .int .u8 a, .int .i64 n] w fun e w' => e = .returned (.int .u8 (gpow a n : Nat)) ∧ FldP w' p ∧ Past w.heap.size (rb w p) w w' := by
 by_cases n0 : n = 0
 ·subst n0
  rw [show gpow a 0 = 1 from rfl]
  go_enter Tryz.func140, Tryz.ntmps140
  go_wp2
  go_ret
  exact ⟨rfl, hp, Past.refl _ _ _⟩
 have h0 : (n == 0) = false := by simp; omega
 by_cases a0 : a = 0
 ·subst a0
  rw [show gpow 0 n = 0 by unfold gpow; rw [if_neg n0]; rfl]
  go_enter Tryz.func140, Tryz.ntmps140
  go_wp2
  go_ret
  exact ⟨rfl, hp, Past.refl _ _ _⟩
 have h1 : ((a : Int) == 0) = false := by simp; omega
 have hl1 := gl_lt ha
 have ht := tmod255 n
 have hm : IntKind.i64.wrap (n.tmod 255) = n.tmod 255 := IntWalk.i64_in _ (by omega)
 obtain ⟨m, hmm⟩ : ∃ m : Int, n.tmod 255 = m := ⟨_, rfl⟩
 rw [hmm] at hm ht
 have hb : -255 < m ∧ m < 255 := by omega
 have hx : -64770 ≤ (gl a : Int) * m ∧ (gl a : Int) * m ≤ 64770 := by
  have e1 : (gl a : Int) * m ≤ (gl a : Int) * 255 := Int.mul_le_mul_of_nonneg_left (by omega) (by omega)
  have e2 : (gl a : Int) * (-255) ≤ (gl a : Int) * m := Int.mul_le_mul_of_nonneg_left (by omega) (by omega)
  omega
 have hw : IntKind.i64.wrap ((gl a : Int) * m) = (gl a : Int) * m := IntWalk.i64_in _ (by omega)
 have HG : Hid (gpow a n = ge ((gl a : Int) * m)) := Lib.hid (by
  rw [gpow_of a0, ← ge_mul_mod, ← ge_mul_mod (gl a) m]
  congr 2; omega)
 obtain ⟨x, hxx⟩ : ∃ x : Int, (gl a : Int) * m = x := ⟨_, rfl⟩
 rw [hxx] at hx hw HG
 clear ht
 go_enter Tryz.func140, Tryz.ntmps140
 go_wp2_with (first | (go_at_call 65; refine (ready_any p _ hp).mono ?_; rintro e w' ⟨g, rfl, hM, hp', hP, hg⟩; have c3 := hM.log a ha) | (go_at_call 35; refine (exp_calls (some ⟨g, 0, none⟩) x (by omega) (by omega) _ (FldP.of hM.fld)).mono ?_; rintro e w2 ⟨rfl, hp2, hP2⟩))
 obtain ⟨h3, h4⟩ := FldP.further hg hP hp2 hP2
 go_ret
 exact ⟨ret_nat HG.out.symm, h3, h4⟩
theorem gcd_step (a b : Nat) : Nat.gcd b (a % b) = Nat.gcd a b := by
 rw [Nat.gcd_comm b, ← Nat.gcd_rec, Nat.gcd_comm]
set_option maxHeartbeats 1600000 in
theorem commonDivisor_calls (a b : Nat) (ha : a < 1000) (hb : b < 1000) (w : World) :
  Calls Tryz.prog 133 #[.int .i64 a, .int .i64 b] w fun e w' => e = .returned (.int .i64 (Nat.gcd a b : Nat)) ∧ ∃ n, w' = w.drewN n := by
 go_enter Tryz.func133, Tryz.ntmps133
 go_wp2
 go_loopw [0, 1] (fun x y wr => ∃ c d n : Nat, c < 1000 ∧ d < 1000 ∧ x = .int .i64 c ∧ y = .int .i64 d ∧ Hid (Nat.gcd c d = Nat.gcd a b) ∧ wr = w.drewN n) (fun _ y _ => (intOf y).toNat)
 case atStart => exact ⟨a, b, 0, ha, hb, rfl, rfl, Lib.hid rfl, rfl⟩
 case round =>
  obtain ⟨c, d, n, hc, hd, rfl, rfl, HG, rfl⟩ := hrel
  by_cases d0 : d = 0
  ·subst d0
   go_wp2
   go_ret
   exact ⟨ret_nat (by rw [← HG.out, Nat.gcd_zero_right]), n, rfl⟩
  ·have h1 : ((d : Int) == 0) = false := by simp; omega
   have h1' : ((d : Int) != 0) = true := by simp; omega
   have hd0 : (d : Int) ≠ 0 := by omega
   go_wp2
   go_region
   all_goals
    go_wp2
    go_roundw
    case rel => exact ⟨d, c % d, n + 1, hd, Nat.lt_of_le_of_lt (Nat.mod_le _ _) hc, rfl, by go_num, by rw [gcd_step]; exact HG, rfl⟩
    case measure => have := Nat.mod_lt c (show 0 < d by omega); simp [intOf]; omega
set_option maxHeartbeats 1600000 in
theorem order_calls (p : Option Addr) (a : Nat) (ha : a < 256) (a0 : a ≠ 0) (w : World) (hp : FldP w p) :
  Calls Tryz.prog 89 #[.pointer p, .int .u8 a] w fun e w' => e = .returned (.int .i64 (gord a : Nat)) ∧ FldP w' p ∧ Past w.heap.size (rb w p) w w' := by
 have hl1 := gl_lt ha
 have hg0 : 0 < Nat.gcd 255 (gl a) := Nat.gcd_pos_of_pos_left _ (by decide)
 have hg1 : Nat.gcd 255 (gl a) ≤ 255 := Nat.le_of_dvd (by decide) (Nat.gcd_dvd_left _ _)
 have HG : Hid (gord a = 255 / Nat.gcd 255 (gl a)) := Lib.hid (by unfold gord; rw [if_neg a0])
 have hc := commonDivisor_calls 255 (gl a) (by decide) (by omega)
 obtain ⟨d, hd⟩ : ∃ d : Nat, Nat.gcd 255 (gl a) = d := ⟨_, rfl⟩
 rw [hd] at hg0 hg1 HG hc
 clear hd
 have d0 : (d : Int) ≠ 0 := by omega
 go_enter Tryz.func89, Tryz.ntmps89
 go_wp2_with (first | (go_at_call 132; refine (log_calls p a ha a0 _ hp).mono ?_; rintro e w' ⟨rfl, hp', hP⟩) | (go_at_call 133; refine (hc _).mono ?_; rintro e w2 ⟨rfl, nd, rfl⟩))
 go_ret
 refine ⟨ret_int ?_, hp'.drewN nd, hP.drewN nd⟩
 rw [HG.out]
 simp
end Go.Proofs.YtjoghbmedfmioaaGreat.GF

namespace Go.Proofs.YtjoghbmedfmioaaGreat
open Go.RowKit
def str (l : List Nat) : ByteArray := ⟨(l.map UInt8.ofNat).toArray⟩
theorem str_size (l : List Nat) : (str l).size = l.length := by simp [str, ByteArray.size]
theorem str_data (l : List Nat) : (str l).data.toList = l.map UInt8.ofNat := rfl
theorem str_inj {a b : List Nat} (ha : ∀ c ∈ a, c < 256) (hb : ∀ c ∈ b, c < 256) (h : str a = str b) : a = b := by
 have h1 : a.map UInt8.ofNat = b.map UInt8.ofNat := by rw [← str_data, ← str_data, h]
 have back : ∀ l : List Nat, (∀ c ∈ l, c < 256) → (l.map UInt8.ofNat).map UInt8.toNat = l := by
  intro l hl
  rw [List.map_map]
  conv => rhs; rw [← List.map_id l]
  apply List.map_congr_left
  intro c hc
  have := hl c hc
  simp [Nat.mod_eq_of_lt this]
 rw [← back a ha, ← back b hb, h1]
theorem str_nil : str [] = ByteArray.empty := rfl
section
variable {P : Program}
theorem conv_str {w : World} {A : Option Addr} {l : List Nat} (hb : Bytes w A l) (c : Nat) (src dst e : TypeId) (hs : P.underlying src = some (.slice e)) (he : P.underlying e = some (.int .u8)) (hd : P.underlying dst = some .string) :
  (convert src dst (.slice A l.length c)).run P w = .ok (.string (str l)) w := by
 cases A with
 | none =>
  have hl : l = [] := by
   cases l with
   | nil => rfl
   | cons x l => obtain ⟨b, off, h, _⟩ := hb.row 0 (.int .u8 x) rfl; cases h
  subst hl
  exact run_convert_bytes_nil w src e hs he _ _ dst hd
 | some a =>
  by_cases hl : l = []
  ·subst hl
   rw [run_convert_bytes_string w src dst e (some a) _ c hs he hd]
   have := run_bytesToString (P := P) w a 0 c [] (by simp [loadCells, loadCellsFrom])
   rw [str_nil]
   simpa using this
  ·have h0 : 0 < l.length := by cases l <;> simp_all
   obtain ⟨b, off, h, _⟩ := hb.at_ h0
   obtain rfl : a = ⟨b, off, none⟩ := by injection h
   have h1 := run_convert_bytes_arg (P := P) w src e hs he b off l.length c (l.map fun n : Nat => (n : Int)) (by simp) (fun i hi => by
    obtain ⟨b', off', h', hc, _⟩ := hb.at_ hi
    simp only [Option.some.injEq, Addr.mk.injEq] at h'
    obtain ⟨rfl, rfl, _⟩ := h'
    rw [hc]; simp [List.getD, List.getElem?_eq_getElem hi]) dst hd
   rw [h1]
   have : strOfNums (l.map fun n : Nat => (n : Int)) = str l := by
    unfold strOfNums str; simp
   rw [this]
end
end Go.Proofs.YtjoghbmedfmioaaGreat

namespace Go.Proofs.YtjoghbmedfmioaaGreat.Poly
open Go.RowKit F8 GF
theorem conv_f {w : World} {A : Option Addr} {p : List F8} (hb : Bytes w A (bs p)) (m c : Nat) (hm : p.length = m) : (convert 34 9 (.slice A m c)).run Tryz.prog w = .ok (.string (str (bs p))) w := by
 have h := conv_str (P := Tryz.prog) hb c 34 9 5 Tryz.underlying34 Tryz.underlying5 Tryz.underlying9
 rw [bs_length, hm] at h; exact h
set_option maxHeartbeats 1000000 in
theorem same_calls (A B : Option Addr) (p q : List F8) (m n c d : Nat) (w : World) (hm : p.length = m) (hn : q.length = n) (hb : Bytes w A (bs p)) (hb2 : Bytes w B (bs q)) :
  Calls Tryz.prog 21 #[.slice A m c, .slice B n d] w fun e w' => e = .returned (.bool (decide (p = q))) ∧ w = w' := by
 have c1 := conv_f hb m c hm
 have c2 := conv_f hb2 n d hn
 have HE : Hid (((str (bs p)).toList == (str (bs q)).toList) = decide (p = q)) := Lib.hid (by
  rw [Bool.eq_iff_iff, beq_iff_eq, decide_eq_true_iff, ByteArray.toList_eq, ByteArray.toList_eq, str_data, str_data]
  constructor
  ·intro h
   refine bs_inj.1 (str_inj (bs_lt p) (bs_lt q) ?_)
   unfold str; rw [h]
  ·intro h; rw [h])
 clear hb hb2
 go_enter Tryz.func21, Tryz.ntmps21
 go_wp2
 go_ret
 exact ⟨GF.ret_bool HE.out, rfl⟩
end Go.Proofs.YtjoghbmedfmioaaGreat.Poly

namespace Go.Proofs.YtjoghbmedfmioaaGreat.Poly
open Go.RowKit F8 GF
def PolyRes (pf : Option Addr) (w w' : World) (e : Ending) (r : List F8) : Prop :=
 ∃ A c, e = .returned (.slice A r.length c) ∧ r.length ≤ c ∧ Own w' w.heap.size 5 (.slice A r.length c) (bv (bs r)) ∧ FldP w' pf ∧ Past w.heap.size (rb w pf) w w'
def PolyRes2 (pf : Option Addr) (w w' : World) (e : Ending) (q r : List F8) (n : Int) : Prop :=
 ∃ A c B d, e = .returned (.tuple #[.slice A q.length c, .slice B r.length d, .int .i64 n]) ∧ q.length ≤ c ∧ r.length ≤ d ∧ Own w' w.heap.size 5 (.slice A q.length c) (bv (bs q)) ∧ Own w' w.heap.size 5 (.slice B r.length d) (bv (bs r)) ∧ FldP w' pf ∧ Past w.heap.size (rb w pf) w w'
def PolyResE (pf : Option Addr) (w w' : World) (e : Ending) (r : List F8) (n : Int) : Prop :=
 ∃ A c, e = .returned (.tuple #[.slice A r.length c, .int .i64 n]) ∧ r.length ≤ c ∧ Own w' w.heap.size 5 (.slice A r.length c) (bv (bs r)) ∧ FldP w' pf ∧ Past w.heap.size (rb w pf) w w'
def Far (pf A : Option Addr) (p : List F8) : Prop := p ≠ [] → ∀ a g, A = some a → pf = some g → a.block ≠ g.block
structure Spec : Prop where
 trimP : ∀ (A : Option Addr) (p : List F8) (m c : Nat) (w : World) (_ : p.length = m) (_ : Bytes w A (bs p)) (_ : m ≤ c) (_ : m ≤ 1000),
  Calls Tryz.prog 188 #[.slice A m c] w fun e w' => Res w w' e (trim p)
 degreeP : ∀ (A : Option Addr) (p : List F8) (m c : Nat) (w : World) (_ : p.length = m) (_ : Bytes w A (bs p)) (_ : m ≤ c) (_ : m ≤ 1000),
  Calls Tryz.prog 141 #[.slice A m c] w fun e w' => e = .returned (.int .i64 ((len p : Int) - 1)) ∧ Below w.heap.size w w'
 mulP : ∀ (A B : Option Addr) (p q : List F8) (m n c d : Nat) (w : World) (_ : p.length = m) (_ : q.length = n) (_ : Bytes w A (bs p)) (_ : Bytes w B (bs q)) (_ : m ≤ c) (_ : n ≤ d) (_ : m ≤ 1000) (_ : n ≤ 1000) (pf : Option Addr) (_ : FldP w pf) (_ : Far pf A p) (_ : Far pf B q),
  Calls Tryz.prog 62 #[.pointer pf, .slice A m c, .slice B n d] w fun e w' => PolyRes pf w w' e (trim (pmul p q))
 divP_zero : ∀ (A B : Option Addr) (p q : List F8) (m n c d : Nat) (w : World) (_ : p.length = m) (_ : q.length = n) (_ : Bytes w A (bs p)) (_ : Bytes w B (bs q)) (_ : m ≤ c) (_ : n ≤ d) (_ : m ≤ 1000) (_ : n ≤ 1000) (pf : Option Addr) (_ : FldP w pf) (_ : Far pf A p) (_ : Far pf B q) (_ : trim q = []),
  Calls Tryz.prog 177 #[.pointer pf, .slice A m c, .slice B n d] w fun e w' => PolyRes2 pf w w' e [] [] 30
 divP : ∀ (A B : Option Addr) (p q : List F8) (m n c d : Nat) (w : World) (_ : p.length = m) (_ : q.length = n) (_ : Bytes w A (bs p)) (_ : Bytes w B (bs q)) (_ : m ≤ c) (_ : n ≤ d) (_ : m ≤ 1000) (_ : n ≤ 1000) (pf : Option Addr) (_ : FldP w pf) (_ : Far pf A p) (_ : Far pf B q) (_ : 0 < len q),
  Calls Tryz.prog 177 #[.pointer pf, .slice A m c, .slice B n d] w fun e w' => ∃ u v, DivBy p q u v ∧ PolyRes2 pf w w' e u v 0
 atP : ∀ (A : Option Addr) (p : List F8) (m c : Nat) (w : World) (_ : p.length = m) (_ : Bytes w A (bs p)) (_ : m ≤ c) (_ : m ≤ 1000) (pf : Option Addr) (_ : FldP w pf) (_ : Far pf A p) (x : F8),
  Calls Tryz.prog 50 #[.pointer pf, .slice A m c, .int .u8 x.n] w fun e w' => e = .returned (.int .u8 (eval p x).n) ∧ FldP w' pf ∧ Past w.heap.size (rb w pf) w w'
 rootsP : ∀ (A : Option Addr) (p : List F8) (m c : Nat) (w : World) (_ : p.length = m) (_ : Bytes w A (bs p)) (_ : m ≤ c) (_ : m ≤ 1000) (pf : Option Addr) (_ : FldP w pf) (_ : Far pf A p),
  Calls Tryz.prog 54 #[.pointer pf, .slice A m c] w fun e w' => PolyRes pf w w' e (trim (roots p))
 throughP_bad : ∀ (A B : Option Addr) (p q : List F8) (m n c d : Nat) (w : World) (_ : p.length = m) (_ : q.length = n) (_ : Bytes w A (bs p)) (_ : Bytes w B (bs q)) (_ : m ≤ c) (_ : n ≤ d) (_ : m ≤ 1000) (_ : n ≤ 1000) (pf : Option Addr) (_ : FldP w pf) (_ : Far pf A p) (_ : Far pf B q) (_ : m ≠ n ∨ ¬ p.Nodup),
  Calls Tryz.prog 176 #[.pointer pf, .slice A m c, .slice B n d] w fun e w' => PolyResE pf w w' e [] 2
 throughP : ∀ (A B : Option Addr) (p q : List F8) (m n c d : Nat) (w : World) (_ : p.length = m) (_ : q.length = n) (_ : Bytes w A (bs p)) (_ : Bytes w B (bs q)) (_ : m ≤ c) (_ : n ≤ d) (_ : m ≤ 1000) (_ : n ≤ 1000) (pf : Option Addr) (_ : FldP w pf) (_ : Far pf A p) (_ : Far pf B q) (_ : m = n) (_ : p.Nodup),
  Calls Tryz.prog 176 #[.pointer pf, .slice A m c, .slice B n d] w fun e w' => ∃ r, Thru p q r ∧ PolyResE pf w w' e r 0
end Go.Proofs.YtjoghbmedfmioaaGreat.Poly

namespace Go.Proofs.YtjoghbmedfmioaaGreat.Poly
open Go.RowKit Go.Shelf F8 GF
attribute [local go_sem] Oper.semAt_some
set_option maxHeartbeats 1000000 in
theorem downward_calls (A : Option Addr) (m c : Nat) (w : World) :
  Calls Tryz.prog 84 #[.slice A m c] w fun e w' => e = .returned (.func (.func 125) #[] #[.pointer (some ⟨w.heap.size, 0, none⟩)]) ∧ w' = w.alloc (.cells #[.slice A m c] 34) := by
 go_enter Tryz.func84, Tryz.ntmps84
 go_wp2
 go_ret
 exact ⟨rfl, rfl⟩
theorem eql_nil (a : Option Addr) (l c : Nat) (w : World) : (binOp .eql 34 (.slice a l c) (.slice none 0 0)).run Tryz.prog w = .ok (.bool a.isNone) w := by
 simp only [binOp]
 simp [run_equal_slice_nil w 34 5 a l c Tryz.underlying34]
theorem len_top {p : List F8} {k : Nat} (hx : ¬ coef p k = 0) (h : Bdd p (k + 1)) : len p = k + 1 := by
 have h1 := len_le_of_bdd h
 have h2 : ¬ len p ≤ k := fun e => hx (bdd_iff.2 e k (Nat.le_refl _))
 omega
set_option maxRecDepth 100000 in
set_option maxHeartbeats 2000000 in
theorem degree_calls (A : Option Addr) (p : List F8) (m c : Nat) (w : World) (hl : p.length = m) (hb : Bytes w A (bs p)) (_ : m ≤ c) (hm : m ≤ 1000000) :
  Calls Tryz.prog 141 #[.slice A m c] w fun e w' => e = .returned (.int .i64 ((len p : Int) - 1)) ∧ Below w.heap.size w w' := by
 refine (callsIn_wide (n := 9)).1 (callsIn_of_wp_marks Tryz.func141 rfl trivial ?_ rfl)
 simp only [Tryz.ntmps141, List.size_toArray, List.length_cons, List.length_nil, Nat.reduceAdd, Nat.reduceSub, Array.replicate_succ, Array.replicate_zero, List.push_toArray, List.append_toArray, List.nil_append, List.cons_append]
 refine wpIn_wide.2 ?_
 go_wp2_with (go_at_call 84; refine (downward_calls _ _ _ _).mono ?_; rintro e w' ⟨rfl, rfl⟩)
 obtain ⟨w1, hw1⟩ : ∃ w1, (w.alloc (.cells #[.int .i64 0] 3)).alloc (.cells #[.slice A m c] 34) = w1 := ⟨_, rfl⟩
 have hB1 : Below w.heap.size w w1 := by rw [← hw1]; exact ((Below.refl _ w).alloc (Nat.le_refl _) _).alloc (by simp) _
 have hr1 : Block w1 w.heap.size 3 #[.int .i64 0] := by rw [← hw1]; exact (Block.new w _ _).alloc _
 have hbx1 : Block w1 (w.heap.size + 1) 34 #[.slice A m c] := by
  rw [← hw1]; have := Block.new (w.alloc (.cells #[.int .i64 0] 3)) 34 #[.slice A m c]; rwa [World.size_alloc] at this
 have hb1 : Bytes w1 A (bs p) := hb.below hB1
 have hsz : w1.heap.size = w.heap.size + 2 := by rw [← hw1]; simp
 rw [hw1]
 clear hw1
 refine wpIn_wide.1 (wpIn_down (n := 9) (by omega) (Bn := w.heap.size + 1) (m := m) (c := c) (A := A) hm rfl
  (fun k q W => q = p ∧ Bdd p k ∧ Bytes W A (bs p) ∧ Block W (w.heap.size + 1) 34 #[.slice A m c] ∧ Block W w.heap.size 3 #[.int .i64 0] ∧ Below w.heap.size w W)
  (fun j W => j = .ret ∧ Block W w.heap.size 3 #[.int .i64 ((len p : Int) - 1)] ∧ Below w.heap.size w W)
  (fun k q W W' ⟨h1, h2, h3, h4, h5, h6⟩ ht => ⟨h1, h2, ht.bytes h3, ht.block h4, ht.block h5, h6.trans (ht.below.mono (by omega))⟩)
  (fun j W W' ⟨h1, h2, h3⟩ ht => ⟨h1, ht.block h2, h3.trans (ht.below.mono (by omega))⟩)
  (fun k q W ⟨h1, h2, h3, h4, h5, h6⟩ => ⟨by rw [h1, hl], by rw [h1]; exact h3, h4.cell 0⟩)
  p ⟨rfl, by rw [← hl]; exact bdd_length p, hb1, hbx1, hr1, hB1⟩
  ?a1 ?assign ?body ?done ?stop)
 case assign =>
  intro l k x W K hK
  gi_wp2
  exact hK
 case body =>
  rintro l k q W hk ⟨rfl, h2, h3, h4, h5, h6⟩ hsW
  have hc5 := h5.cell 0
  have hf5 := h5.frozen 0
  by_cases hx : coef q k = 0
  ·have hx0 : (((coef q k).n : Int) == 0) = true := by rw [hx]; rfl
   have hx1 : (((coef q k).n : Int) != 0) = false := by rw [hx]; rfl
   gi_wp2
   refine ⟨keeps_below (Below.refl _ _), q, rfl, fun i hi => ?_, h3, h4, h5, h6⟩
   rcases Nat.eq_or_lt_of_le hi with rfl | hi
   ·exact hx
   ·exact h2 i hi
  ·have hx0 : (((coef q k).n : Int) == 0) = false := n_beq0 hx
   have hx1 : (((coef q k).n : Int) != 0) = true := by simp [bne, hx0]
   have hlen : len q = k + 1 := len_top hx h2
   gi_wp2
   exact ⟨(KeepsOthers.setCell _ _ _).from _, rfl, by rw [hlen, show (((k + 1 : Nat) : Int) - 1) = (k : Int) by omega]; exact h5.set_ 0 _, h6.setCell (p := ⟨w.heap.size, 0, none⟩) (Nat.le_refl _) _⟩
 case done =>
  rintro q W ⟨rfl, h2, h3, h4, h5, h6⟩ hD
  have hc5 := h5.cell 0
  have hf5 := h5.frozen 0
  go_wp2
  have hK := (KeepsOthers.setCell W ⟨w.heap.size, 0, none⟩ (.int .i64 (-1))).same _ _ hD rfl
  refine ⟨by simp, .inl ⟨_, _, rfl, run_takeDeferred hK, ?_⟩⟩
  have ht : Turn w.heap.size (W.setCell ⟨w.heap.size, 0, none⟩ (.int .i64 (-1))) _ := Turn.put hK rfl (by omega) (.deferred none)
  have hc6 := ht.cell ((h5.set_ 0 (.int .i64 (-1))).cell 0)
  have hlen : len q = 0 := len_zero.2 (bdd_zero.1 h2)
  refine ⟨.int .i64 (-1), ?_, by rw [hlen]; rfl, (h6.setCell (p := ⟨w.heap.size, 0, none⟩) (Nat.le_refl _) _).trans ht.below⟩
  simp [results, Tryz.results141, go_sem, hc6]
 case stop =>
  rintro j W ⟨rfl, h2, h3⟩ hD
  refine wpIn_wide.2 ?_
  go_wp2
  refine ⟨by simp, .inl ⟨_, _, rfl, run_takeDeferred hD, ?_⟩⟩
  have ht : Turn w.heap.size W _ := Turn.put hD rfl (by omega) (.deferred none)
  have hc6 := ht.cell (h2.cell 0)
  refine ⟨.int .i64 ((len p : Int) - 1), ?_, rfl, h3.trans ht.below⟩
  simp [results, Tryz.results141, go_sem, hc6]
theorem trim_take_len (p : List F8) : trim p = p.take (len p) :=
 trim_take p (len p) (len_le p) (fun i h1 _ => bdd_len p i h1) (by
  rcases Nat.eq_zero_or_pos (len p) with h | h
  ·exact .inl h
  ·exact .inr (lead h))
structure Cut (A A2 : Option Addr) : Prop where
 same : ∀ b off, A = some ⟨b, off, none⟩ → A2 = A
 nil : A = none → A2 = none
theorem Cut.bytes {A A2 : Option Addr} {p : List F8} {w : World} (h : Cut A A2) (hb : Bytes w A (bs p)) : Bytes w A2 (bs (trim p)) := by
 by_cases h0 : 0 < p.length
 ·obtain ⟨b, off, e⟩ := where_ hb h0
  rw [h.same b off e, trim_take_len]
  exact bytes_take hb _
 ·have : p = [] := List.eq_nil_of_length_eq_zero (by omega)
  subst this
  exact Bytes.nil _ _
theorem Cut.own {A A2 : Option Addr} {p : List F8} {w : World} {B m c : Nat} {e : TypeId} (h : Cut A A2) (hl : p.length = m) (ho : Own w B e (.slice A m c) (bv (bs p))) : Own w B e (.slice A2 (len p) c) (bv (bs (trim p))) := by
 have hlen : (bv (bs (trim p))).length = len p := by rw [bvs_length]; rfl
 refine ⟨by rw [Nat.mul_one], ?_⟩
 rw [hlen]
 rcases ho.2 with ⟨h1, h2⟩ | ⟨g, cap, cur, h1, h2, h3, h4, h5, h6, h7⟩
 ·injection h1 with h1 h3 h4
  subst h1 h3 h4
  have : p = [] := List.eq_nil_of_length_eq_zero hl
  subst this
  rw [h.nil rfl]
  exact .inl ⟨rfl, rfl⟩
 ·injection h1 with h1 h8 h9
  subst h1 h9
  rw [h.same g 0 rfl]
  have hle : len p ≤ m := by have := len_le p; omega
  rw [bvs_length, hl] at h7 h4
  refine .inr ⟨g, c, cur, rfl, h2, h3, by omega, h5, h6, ?_⟩
  rw [trim_take_len, show bv (bs (p.take (len p))) = (bv (bs p)).take (len p) by simp [bv, bs, List.map_take], ← h7, List.take_take]
  congr 1
  omega
theorem cut_run (A : Option Addr) (m c n : Nat) (hn : n ≤ m) (hc : m ≤ c) :
  ∃ A2, (∀ w, (Instr.slice 34 (.slice A m c) none (some (.int .i64 (n : Int))) none).run Tryz.prog w = .ok (.slice A2 n c) w) ∧ Cut A A2 := by
 refine ⟨if c = 0 then A else A.map (·.add (0 * 1)), fun w => ?_, fun b off e => ?_, fun e => ?_⟩
 ·obtain ⟨i, hi, _, hi2, _⟩ := info_parts info_u8
  simp [Instr.slice, Instr.sliceBounds, Instr.sliceBound, run_underlying Tryz.underlying34, asIntOf, sizeOf, typeInfo, Sem.run_bind, hi]
  intro h; omega
 ·subst e
  split
  ·rfl
  ·simp only [Option.map_some, Nat.zero_mul, addr_add, Nat.add_zero]
 ·subst e
  split <;> rfl
set_option maxHeartbeats 1000000 in
theorem trimmed_calls (A : Option Addr) (p : List F8) (m c : Nat) (w : World) (hl : p.length = m) (hb : Bytes w A (bs p)) (hc : m ≤ c) (hm : m ≤ 1000000) :
  Calls Tryz.prog 98 #[.slice A m c] w fun e w' => ∃ A2, e = .returned (.slice A2 (len p) c) ∧ Cut A A2 ∧ Below w.heap.size w w' := by
 subst hl
 have hle := len_le p
 obtain ⟨A2, hs, hcut⟩ := cut_run A p.length c (len p) hle hc
 obtain ⟨n, hn⟩ : ∃ n, len p = n := ⟨_, rfl⟩
 rw [hn] at hs hle ⊢
 have HN := Lib.hid hn
 clear hn
 go_enter Tryz.func98, Tryz.ntmps98
 go_wp2_with (go_at_call 141; refine (degree_calls _ p _ _ _ rfl hb hc hm).mono ?_; rintro e w' ⟨rfl, hB⟩; rw [HN.out])
 go_ret
 exact ⟨A2, rfl, hcut, hB⟩
def NewRes (pf : Option Addr) (w : World) (e : Ending) (w' : World) : Prop :=
 ∃ g, e = .returned (.pointer (some ⟨g, 0, none⟩)) ∧ (pf = some ⟨g, 0, none⟩ ∧ w = w' ∨ pf = none ∧ g = w.heap.size ∧ w' = w.alloc (.cells (fcells 0 0 0) 81))
theorem orNew_calls (pf : Option Addr) (w : World) (hf : FldP w pf) :
  Calls Tryz.prog 83 #[.pointer pf] w (NewRes pf w) := by
 rcases hf with rfl | ⟨g, rfl, _⟩
 ·go_enter Tryz.func83, Tryz.ntmps83
  go_wp2_with (go_at_call 12; refine (new_calls _).mono ?_; rintro e w' ⟨rfl, rfl⟩)
  go_ret
  exact ⟨_, rfl, .inr ⟨rfl, rfl, rfl⟩⟩
 ·go_enter Tryz.func83, Tryz.ntmps83
  go_wp2
  go_ret
  exact ⟨_, rfl, .inl ⟨rfl, rfl⟩⟩
set_option maxHeartbeats 1000000 in
theorem clone_calls (A : Option Addr) (p : List F8) (m c : Nat) (w : World) (hl : p.length = m) (hb : Bytes w A (bs p)) (_ : m ≤ c) (hm : m ≤ 1000000) :
  Calls Tryz.prog 42 #[.slice A m c] w fun e w' => Res w w' e p := by
 have HB := Lib.hid hb
 cases A with
 | none =>
  have hnil : ∀ w, (binOp .eql 34 (.slice none m c) (.slice none 0 0)).run Tryz.prog w = .ok (.bool true) w := fun w => eql_nil none m c w
  have h0 : p = [] := by
   rcases p with _ | ⟨x, p⟩
   ·rfl
   ·obtain ⟨b, off, e⟩ := where_ hb (by simp)
    cases e
  clear hb
  go_enter Tryz.func42, Tryz.ntmps42
  go_wp2
  go_ret
  subst h0
  exact Res.mk (Own.nil _ _ _) (Below.refl _ _)
 | some a =>
  have hnil : ∀ w, (binOp .eql 34 (.slice (some a) m c) (.slice none 0 0)).run Tryz.prog w = .ok (.bool false) w := fun w => eql_nil (some a) m c w
  have hlv := bvs_length p
  rw [hl] at hlv
  have HL := Lib.hid hlv
  clear hb hl hlv
  go_enter Tryz.func42, Tryz.ntmps42
  go_wp2_with (at_builtin; refine wpList_app _ rfl (.tmp 5) (.tmp 6) _ rfl w.heap.size 5 _ 1 Tryz.underlying34 info_u8 rfl (by omega) (.slice (some ⟨w.heap.size, 0, none⟩) 0 0) [] rfl (Own.lit w w.heap.size 5 #[] 0 (Nat.le_refl _) rfl (by decide)) (some a) m c (bv (bs p)) rfl HL.out (HB.out.alloc _).row (bv_one _) (by simp; omega) (by simp) ?_; intro v1 w1 hown1 hg1 _)
  have hbel : Below w.heap.size w w1 := ((Below.refl _ w).alloc (Nat.le_refl _) _).trans ((Own.lit w w.heap.size 5 #[] 0 (Nat.le_refl _) rfl (by decide)).grew (by simp) hg1)
  go_ret
  exact Res.mk (by simpa using hown1) hbel
def seenC (l : List F8) : Array Value := Array.ofFn (n := 256) fun i => .bool (l.any fun x => x.n == i.val)
theorem zero_seen (w : World) : (zeroValue 202).run Tryz.prog w = .ok (.agg (seenC [])) w := by kernel_rfl
theorem seenC_get (l : List F8) (x : F8) : (seenC l)[x.n]? = some (.bool (l.any fun y => y.n == x.n)) := by
 have := x.h
 simp [seenC, this]
theorem seenC_set (l : List F8) (x : F8) : (seenC l).setIfInBounds x.n (.bool true) = seenC (l ++ [x]) := by
 apply Array.ext
 ·simp [seenC]
 ·intro i h1 h2
  have h3 : i < (seenC l).size := by simpa using h1
  rw [Array.getElem_setIfInBounds h3]
  simp only [seenC, Array.getElem_ofFn, List.any_append, List.any_cons, List.any_nil, Bool.or_false]
  by_cases e : x.n = i
  ·simp [e]
  ·have : (x.n == i) = false := by simpa using e
   rw [if_neg e, this, Bool.or_false]
theorem any_n (l : List F8) (x : F8) : (l.any fun y => y.n == x.n) = decide (x ∈ l) := by
 rw [Bool.eq_iff_iff]
 simp only [List.any_eq_true, beq_iff_eq, decide_eq_true_eq]
 exact ⟨fun ⟨y, hy, e⟩ => by rw [← F8.n_inj.1 e]; exact hy, fun h => ⟨x, h, rfl⟩⟩
theorem nodup_snoc {l : List F8} {x : F8} : (l ++ [x]).Nodup ↔ l.Nodup ∧ x ∉ l := by
 rw [List.nodup_append]
 constructor
 ·rintro ⟨h1, _, h2⟩
  exact ⟨h1, fun hx => h2 x hx x (by simp) rfl⟩
 ·rintro ⟨h1, h2⟩
  exact ⟨h1, by simp, fun a ha b hb e => by simp at hb; subst hb; subst e; exact h2 ha⟩
theorem not_nodup_of_take {p : List F8} {k : Nat} (h : ¬ (p.take k).Nodup) : ¬ p.Nodup := fun hp => h (hp.sublist (List.take_sublist _ _))
set_option maxRecDepth 100000 in
set_option maxHeartbeats 1000000 in
theorem twice_calls (A : Option Addr) (p : List F8) (m c : Nat) (w : World) (hl : p.length = m) (hb : Bytes w A (bs p)) (_ : m ≤ c) (hm : m ≤ 1000000) :
  Calls Tryz.prog 187 #[.slice A m c] w fun e w' => e = .returned (.bool (!decide p.Nodup)) ∧ Below w.heap.size w w' := by
 have hz := zero_seen
 have HB := Lib.hid hb
 clear hb
 go_enter Tryz.func187, Tryz.ntmps187
 go_wp2
 go_loopw [8] (fun i wr => ∃ k : Nat, k ≤ m ∧ i = .int .i64 k ∧ Hid (Block wr w.heap.size 202 (seenC (p.take k))) ∧ Hid ((p.take k).Nodup) ∧ Below w.heap.size w wr) (fun i _ => m - (intOf i).toNat)
 case atStart => exact ⟨0, by omega, rfl, Lib.hid (Block.new w _ _), Lib.hid (by simp), (Below.refl _ w).alloc (Nat.le_refl _) _⟩
 case round =>
  obtain ⟨k, hk, rfl, HS, HN, HW⟩ := hrel
  by_cases hkk : k < m
  ·obtain ⟨b, off, rfl⟩ := where_ HB.out (by omega)
   have hcell := cellAt (HB.out.below HW) k (by omega)
   obtain ⟨x, hx⟩ : ∃ x, coef p k = x := ⟨_, rfl⟩
   rw [hx] at hcell
   have hxb := f8_bounds x
   have ht : p.take (k + 1) = p.take k ++ [x] := by rw [take_succ' p (by omega), ← coef_of_lt (by omega), hx]
   have HT := Lib.hid ht
   have hs := (HS.out.cell x.n).trans (seenC_get _ _)
   rw [any_n] at hs
   have hfz := HS.out.frozen x.n
   clear hx ht
   by_cases hin : x ∈ p.take k
   ·rw [decide_eq_true hin] at hs
    have HNO : Hid (decide p.Nodup = false) := Lib.hid (decide_eq_false (not_nodup_of_take (k := k + 1) (by rw [HT.out, nodup_snoc]; exact fun h => h.2 hin)))
    clear hin
    go_wp2
    go_ret
    exact ⟨by rw [HNO.out]; rfl, HW⟩
   ·rw [decide_eq_false hin] at hs
    have HN2 : Hid ((p.take (k + 1)).Nodup) := Lib.hid (by rw [HT.out, nodup_snoc]; exact ⟨HN.out, hin⟩)
    have HS2 : Hid (Block (wr.setCell ⟨w.heap.size, x.n, none⟩ (.bool true)) w.heap.size 202 (seenC (p.take (k + 1)))) := Lib.hid (by rw [HT.out, ← seenC_set]; exact HS.out.set_ _ _)
    clear hin
    go_wp2
    go_roundw
    case rel => exact ⟨k + 1, by omega, by go_num, HS2, HN2, HW.setCell (p := ⟨w.heap.size, x.n, none⟩) (Nat.le_refl _) _⟩
    case measure => simp [intOf]; omega
  ·obtain rfl : k = m := by omega
   have HY : Hid (decide p.Nodup = true) := Lib.hid (decide_eq_true (by have := HN.out; rwa [List.take_of_length_le (by omega)] at this))
   clear HN hl hkk
   go_wp2
   go_ret
   exact ⟨by rw [HY.out]; rfl, HW⟩
end Go.Proofs.YtjoghbmedfmioaaGreat.Poly

namespace Go.Proofs.YtjoghbmedfmioaaGreat.Poly
open F8
theorem DivBy.len_r {a b q r : List F8} (h : DivBy a b q r) : r.length < len b := by
 have : r.length = len r := by unfold len; rw [h.tr]
 rw [this]; exact h.lt
theorem DivBy.at_root {a q r : List F8} {x : F8} (h : DivBy a [x, 1] q r) : eval a x = eval r x := by
 rw [eval_congr x h.eqv, eval_padd, eval_pmul, eval_root, add_self, mul_zero, zero_add]
theorem DivBy.rest {a q r : List F8} {x : F8} (h : DivBy a [x, 1] q r) : r = [] ∧ eval a x = 0 ∨ ∃ y, r = [y] ∧ y ≠ 0 ∧ eval a x = y := by
 have h1 := h.len_r
 rw [len_lin] at h1
 have h2 := h.at_root
 cases r with
 | nil => exact .inl ⟨rfl, h2⟩
 | cons y r =>
  cases r with
  | nil =>
   refine .inr ⟨y, rfl, fun e => ?_, ?_⟩
   ·have := h.tr
    rw [e, trim_cons_of trim_nil, if_pos rfl] at this
    cases this
   ·rw [h2]; show y + x * 0 = y; rw [mul_zero, add_zero]
  | cons z r => simp only [List.length_cons] at h1; omega
theorem roots_one (x : F8) : trim (roots [x]) = [x, 1] := by
 have : trim (roots [x]) = trim [x, 1] := trim_congr (pmul_one [x, 1])
 rw [this]; exact trim_snoc [x] 1 one_ne_zero
end Go.Proofs.YtjoghbmedfmioaaGreat.Poly
