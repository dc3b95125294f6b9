/- Of the program, joined: MatRows, MatCode2, MatSame, WcInt, MatMul1. -/
import Derived.Test.YtofihklinkpbiaaGreatPl17
import Derived.Test.YtofihklinkpbiaaGreatPl03
import Derived.Test.YtofihklinkpbiaaGreatPl04
import Derived.Laws.Cover3
namespace Go.Proofs.YtofihklinkpbiaaGreat.Mat
open Go.RowKit Go.Shelf F8 Poly
attribute [local go_sem] Oper.semAt_some
theorem Turn.drewN {B : Nat} {W W' : World} (h : Turn B W W') (n : Nat) : Turn B W (W'.drewN n) := ⟨Below.drewN' h.below n, h.cells⟩
structure Vis (W : World) (Bat Bm : Nat) (Aat : Option Addr) (na ca : Nat) (ats : List Nat) (R : Int) (c : Nat) (A : Option Addr) (N cap : Nat) : Prop where
 at_ : Block W Bat 38 #[.slice Aat na ca]
 m_ : Block W Bm 74 #[.int .i64 R, .int .i64 c, .slice A N cap]
 row : Row W Aat (iv ats)
section
variable {W W' : World} {Bat Bm : Nat} {Aat : Option Addr} {na ca : Nat} {ats : List Nat} {R : Int} {c : Nat} {A : Option Addr} {N cap : Nat}
theorem Vis.turn {B : Nat} (h : Vis W Bat Bm Aat na ca ats R c A N cap) (t : Turn B W W') : Vis W' Bat Bm Aat na ca ats R c A N cap := ⟨t.block h.at_, t.block h.m_, t.row h.row⟩
theorem Vis.keep (h : Vis W Bat Bm Aat na ca ats R c A N cap) (hk : ∀ k, k < W.heap.size → k = Bat ∨ k = Bm ∨ (∃ a, Aat = some a ∧ k = a.block) → W'.heap[k]? = W.heap[k]?) : Vis W' Bat Bm Aat na ca ats R c A N cap := by
 refine ⟨(hk _ h.at_.lt (.inl rfl)).trans h.at_, (hk _ h.m_.lt (.inr (.inl rfl))).trans h.m_, fun k u hu => ?_⟩
 obtain ⟨b, off, rfl, hc⟩ := h.row k u hu
 exact ⟨b, off, rfl, (World.cell?_of_block (hk b (cell_lt hc) (.inr (.inr ⟨_, rfl, rfl⟩)))).trans hc⟩
theorem cells3 {w : World} {g : Nat} {t : TypeId} {x y z : Value} (h : Block w g t #[x, y, z]) : w.cell? ⟨g, 0, none⟩ = some x ∧ w.cell? ⟨g, 1, none⟩ = some y ∧ w.cell? ⟨g, 2, none⟩ = some z :=
 ⟨h.cell 0, h.cell 1, h.cell 2⟩
end
set_option maxRecDepth 100000 in
set_option maxHeartbeats 2000000 in
theorem rows1_in (n : Nat) (hn : 1 ≤ n) (l D Bat Bm na ca c N cap : Nat) (Aat A : Option Addr) (ats : List Nat) (R : Int) (pos : Nat → Nat) (hna : ats.length = na) (hna2 : na ≤ 1000000) (hpos : ∀ k, k < na → ats[k]? = some (pos k))
  (hN : N ≤ 140737488355328) (hcap : N ≤ cap) (hc : c ≤ 1000000) (hin : ∀ k, k < na → (pos k + 1) * c ≤ N ∧ pos k ≤ 65536)
  (J : Nat → World → Prop) (Jx : World → Prop)
  (hJ : ∀ k W, J k W → Vis W Bat Bm Aat na ca ats R c A N cap ∧ D ≤ W.heap.size)
  (hT : ∀ k W W', J k W → Turn D W W' → J k W')
  (hY : ∀ k W, k < na → J k W → YieldAt Fence.wide (n - 1) Tryz.prog l #[.int .i64 (pos k : Nat), .slice (rowA A (pos k * c) c) c c] W fun e W' =>
   (e = .returned (.bool true) ∧ J (k + 1) W') ∨ (e = .returned (.bool false) ∧ Jx W'))
  (W : World) (h0 : J 0 W) :
  CallsIn Fence.wide n Tryz.prog 171 #[.func (.yield l) #[] #[], .pointer (some ⟨Bat, 0, none⟩), .pointer (some ⟨Bm, 0, none⟩)] W fun e W' => (∃ v, e = .returned v) ∧ (J na W' ∨ Jx W') := by
 refine callsIn_of_wp Tryz.func171 rfl trivial ?_ rfl
 simp only [Tryz.ntmps171, List.size_toArray, List.length_cons, List.length_nil, Nat.reduceAdd, Nat.reduceSub, Array.replicate_succ, Array.replicate_zero, List.push_toArray, List.append_toArray, List.nil_append, List.cons_append]
 have hb0 := (hJ _ _ h0).1.at_.cell 0
 gi_wp2
 gi_loopw [8] (fun i wr => ∃ k : Nat, k ≤ na ∧ i = .int .i64 k ∧ J k wr) (fun i _ => na - (intOf i).toNat)
 case atStart => exact ⟨0, Nat.zero_le _, rfl, h0⟩
 case round =>
  obtain ⟨k, hk, rfl, hj⟩ := hrel
  obtain ⟨hv, hsz⟩ := hJ _ _ hj
  by_cases hkk : k < na
  ·obtain ⟨b, off, rfl, hcell⟩ := hv.row k (.int .i64 (pos k : Nat)) (by simp [iv, hpos k hkk])
   obtain ⟨l0, l1, l2⟩ := cells3 hv.m_
   have hp := hin k hkk
   obtain ⟨p, hpk⟩ : ∃ p, pos k = p := ⟨_, rfl⟩
   have hYk := hY k
   rw [hpk] at hcell hp hYk
   clear hpk
   gi_wp2_with fail
   refine ⟨trivial, (callsIn_wide.2 (rowAt_calls R A N cap p c hN hp.1 hcap hc hp.2 _)).mono ?_⟩
   rintro e W2 ⟨rfl, m, rfl⟩
   have ht : Turn D wr ((wr.alloc (.cells #[.int .i64 R, .int .i64 c, .slice A N cap] 74)).drewN m) := Turn.drewN (Turn.alloc hsz _) m
   obtain ⟨fn, tmps, assign, body, hy, hR⟩ := hYk _ hkk (hT _ _ _ hj ht)
   gi_wp2
   refine hR.mono ?_
   rintro e W3 (⟨rfl, hJ3⟩ | ⟨rfl, hJx3⟩)
   ·gi_wp2
    go_roundw
    case rel => exact ⟨k + 1, by omega, by go_num, hJ3⟩
    case measure => simp [intOf]; omega
   ·gi_wp2
    refine bodyPost_ret (results_none rfl _ _ _) rfl ?_
    exact ⟨⟨_, rfl⟩, .inr hJx3⟩
  ·obtain rfl : k = na := by omega
   gi_wp2
   go_end0
   exact ⟨⟨_, rfl⟩, .inl hj⟩
def RowPost (B : Nat) (I : World → Prop) (Ix : Code → World → Prop) (W : World) : Exit → Act → World → Prop
 | .normal, _, W' => KeepsFrom B W W' ∧ I W'
 | .ret, _, W' => KeepsFrom B W W' ∧ Ix .ret W'
 | .exit id, _, W' => KeepsFrom B W W' ∧ Ix (.exit id) W'
 | _, _, _ => False
set_option maxRecDepth 100000 in
set_option maxHeartbeats 2000000 in
theorem wpIn_rows {n : Nat} (h1 : 3 ≤ n) {g : Operand} {s1 s2 : Tmp} {assign body : Code} {Q : Exit → Act → World → Prop} {a : Act} {w : World} {Bat Bm na ca c N cap : Nat} {Aat A : Option Addr} {ats : List Nat} {R : Int} (pos : Nat → Nat) (hna : ats.length = na) (hna2 : na ≤ 1000000) (hpos : ∀ k, k < na → ats[k]? = some (pos k))
  (hN : N ≤ 140737488355328) (hcap : N ≤ cap) (hc : c ≤ 1000000) (hin : ∀ k, k < na → (pos k + 1) * c ≤ N ∧ pos k ≤ 65536)
  (hg : a.eval g = .func (.func 171) #[] #[.pointer (some ⟨Bat, 0, none⟩), .pointer (some ⟨Bm, 0, none⟩)])
  (I : Nat → World → Prop) (Ix : Code → World → Prop)
  (hI : ∀ k W W', I k W → Turn w.heap.size W W' → I k W') (hIx : ∀ c W W', Ix c W → Turn w.heap.size W W' → Ix c W')
  (hrd : ∀ k W, I k W → Vis W Bat Bm Aat na ca ats R c A N cap)
  (h0 : I 0 w) (a₁ : Nat → Act)
  (hassign : ∀ (l k : Nat) (W : World) (K : Act → World → Prop), k < na → K (a₁ k) W →
   assign.wpIn (Fence.wide.inRound l) (n - 1 - 1) Tryz.prog (Exit.then K (fun _ _ _ => False)) { tmps := (a.tmps.setIfInBounds s1 (.int .i64 (pos k : Nat))).setIfInBounds s2 (.slice (rowA A (pos k * c) c) c c), defers := [] } W)
  (hbody : ∀ (l k : Nat) (W : World), k < na → I k W → w.heap.size ≤ W.heap.size → body.wpIn (Fence.wide.inRound l) (n - 1 - 1) Tryz.prog (RowPost w.heap.size (I (k + 1)) Ix W) (a₁ k) W)
  (hdone : ∀ (W : World), I na W → W.heap[w.heap.size]? = some (.deferred (some [])) → Q .normal { a with defers := { target := .collected w.heap.size, args := #[] } :: a.defers } W)
  (hstop : ∀ (c : Code) (W : World), Ix c W → W.heap[w.heap.size]? = some (.deferred (some [])) → c.wpIn Fence.wide n Tryz.prog Q { a with defers := { target := .collected w.heap.size, args := #[] } :: a.defers } W) :
  (Code.rangeFunc g #[s1, s2] assign body).wpIn Fence.wide n Tryz.prog Q a w := by
 refine wpIn_rangeFunc fun fn hfn => ?_
 obtain ⟨D, hD⟩ : ∃ D, D = w.heap.size := ⟨_, rfl⟩
 obtain ⟨R0, hR⟩ : ∃ R : LoopState → Option Code → Obj, R = fun st j => .loop { state := st, pending := j, fn, tmps := a.tmps, params := #[s1, s2], assign, body, defers := D } := ⟨_, rfl⟩
 have hRc : ∀ st j, (R0 st j).isCells = false := by intro st j; rw [hR]; rfl
 let Bk : LoopState → Option Code → World → Prop := fun st j W => W.heap[D + 1]? = some (R0 st j) ∧ W.heap[D]? = some (.deferred (some []))
 have bk_put : ∀ {st j st' j'} {W : World}, Bk st j W → Bk st' j' (W.putObj (D + 1) (R0 st' j')) := fun {st j st' j' W} h =>
  ⟨World.putObj_heap_same (Array.getElem?_eq_some_iff.1 h.1).1, (World.putObj_heap_other (by omega)).trans h.2⟩
 have tn_put : ∀ {st j st' j'} {W : World}, Bk st j W → Turn D W (W.putObj (D + 1) (R0 st' j')) := fun {st j st' j' W} h => Turn.put h.1 (hRc _ _) (by omega) _
 have bk_keep : ∀ {st j} {W W' : World}, Bk st j W → KeepsFrom D W W' → Bk st j W' := fun {st j W W'} h k => ⟨k.same _ _ (by omega) h.1 (hRc _ _), k.same _ _ (Nat.le_refl _) h.2 rfl⟩
 have ends : ∀ {W : World} (j : Option Code), Bk .busy none W → (Instr.endRound (D + 1) j).run Tryz.prog W = .ok (.bool j.isNone) (W.putObj (D + 1) (R0 (if j.isNone then .ready else .done) j)) := by
  intro W j h
  have h2 := h.1
  rw [hR] at h2 ⊢
  exact run_endRound j h2
 have out : ∀ {W : World} {st j}, st ≠ .busy → Bk st j W → (Instr.endLoop (D + 1)).run Tryz.prog W = .ok j (W.putObj (D + 1) (R0 .exhausted j)) := by
  intro W st j hst h
  have h2 := h.1
  rw [hR] at h2 ⊢
  exact run_endLoop h2 hst
 have bk_turn : ∀ {st j} {W W' : World}, Bk st j W → KeepsFrom D W W' → Bk st j W' := bk_keep
 rw [← hD] at hI hIx hbody hdone hstop
 obtain ⟨W1, hW1⟩ : ∃ W1, (w.alloc (.deferred (some []))).alloc (R0 .ready none) = W1 := ⟨_, rfl⟩
 have t1 : Turn D w W1 := by
  rw [← hW1]
  exact (Turn.alloc (by omega) _).trans (Turn.alloc (by simp; omega) _)
 have b1 : Bk .ready none W1 := by
  have e1 := World.alloc_heap_new (w.alloc (.deferred (some []))) (R0 .ready none)
  have e2 := (Below.heap_alloc (w.alloc (.deferred (some []))) (R0 .ready none) w.heap.size (by simp)).trans (World.alloc_heap_new w _)
  rw [World.size_alloc, hW1, ← hD] at e1
  rw [hW1, ← hD] at e2
  exact ⟨e1, e2⟩
 refine ⟨D + 1, [{ target := .collected D, args := #[] }], W1, { target := .fn (.func 171) #[.pointer (some ⟨Bat, 0, none⟩), .pointer (some ⟨Bm, 0, none⟩)], args := #[.func (.yield (D + 1)) #[] #[]] }, W1, 171,
  #[.func (.yield (D + 1)) #[] #[]] ++ #[.pointer (some ⟨Bat, 0, none⟩), .pointer (some ⟨Bm, 0, none⟩)], W1, ?_, ?_, fun _ _ => trivial, ?_, (fun h => by cases h), ?_⟩
 ·rw [← hW1, hR, hD]; exact run_enterLoop_outer _ _ _ _ _
 ·simp only [resolve, hg]; simp [go_sem]
 ·simp [invoke, go_sem]
 ·refine (rows1_in (n - 1) (by omega) (D + 1) (D + 2) Bat Bm na ca c N cap Aat A ats R pos hna hna2 hpos hN hcap hc hin (fun k W => I k W ∧ Bk .ready none W ∧ D + 2 ≤ W.heap.size) (fun W => ∃ j, Ix j W ∧ Bk .done (some j) W ∧ D ≤ W.heap.size)
   (fun k W h => ⟨hrd k W h.1, h.2.2⟩) (fun k W W' h t => ⟨hI k W W' h.1 ⟨t.below.mono (by omega), t.cells⟩, ⟨(t.below.block _ (by omega)).trans h.2.1.1, (t.below.block _ (by omega)).trans h.2.1.2⟩, by have := t.size; omega⟩) ?_ W1 ⟨hI _ _ _ h0 t1, b1, by rw [← hW1]; simp; omega⟩).mono ?_
  ·
   rintro k W hk ⟨hi, hb, hsz⟩
   have hy := run_yield (P := Tryz.prog) (args := #[.int .i64 (pos k : Nat), .slice (rowA A (pos k * c) c) c c]) (l := D + 1) (by have h2 := hb.1; rw [hR] at h2; exact h2) rfl
   have hbr := run_beginRound (P := Tryz.prog) (l := D + 1) (by have h2 := hb.1; rw [hR] at h2; exact h2) rfl
   refine ⟨fn, _, assign, body, hy, roundIn_of_wpIn hfn ?_⟩
   clear hy
   dsimp only
   rw [zip2]
   refine hassign _ k W _ hk ?_
   refine ⟨_, hbr, ?_⟩
   clear hbr
   have hb2 : Bk .busy none (W.putObj (D + 1) (R0 .busy none)) := bk_put hb
   have hi2 := hI _ _ _ hi (tn_put (st' := .busy) (j' := none) hb)
   have hwp := hbody (D + 1) k (W.putObj (D + 1) (R0 .busy none)) hk hi2 (by simp; omega)
   rw [hR] at hwp
   refine wpIn_mono hwp ?_
   rintro e a3 W3 hp
   have fin : ∀ (j : Option Code), KeepsFrom D (W.putObj (D + 1) (R0 .busy none)) W3 → (Instr.endRound (D + 1) j).run Tryz.prog W3 = .ok (.bool j.isNone) (W3.putObj (D + 1) (R0 (if j.isNone then .ready else .done) j)) ∧
     Bk (if j.isNone then .ready else .done) j (W3.putObj (D + 1) (R0 (if j.isNone then .ready else .done) j)) ∧ Turn D W3 (W3.putObj (D + 1) (R0 (if j.isNone then .ready else .done) j)) ∧ D + 2 ≤ (W3.putObj (D + 1) (R0 (if j.isNone then .ready else .done) j)).heap.size := fun j hkf => by
    have hb3 := bk_keep hb2 hkf
    refine ⟨ends j hb3, bk_put hb3, tn_put hb3, ?_⟩
    have := hkf.size
    simp at this ⊢
    omega
   have key : ∀ {W4 : World}, KeepsFrom D (W.putObj (D + 1) ((fun st j => Obj.loop { state := st, pending := j, fn, tmps := a.tmps, params := #[s1, s2], assign, body, defers := D }) .busy none)) W4 → KeepsFrom D (W.putObj (D + 1) (R0 .busy none)) W4 := by
    intro W4 h; rw [hR]; exact h
   cases e with
   | normal =>
    obtain ⟨hkf, hq⟩ := hp
    obtain ⟨f1, f2, f3, f4⟩ := fin none (key hkf)
    exact ⟨_, _, f1, .inl ⟨rfl, hI _ _ _ hq f3, f2, f4⟩⟩
   | ret =>
    obtain ⟨hkf, hq⟩ := hp
    obtain ⟨f1, f2, f3, f4⟩ := fin (some .ret) (key hkf)
    exact ⟨_, _, f1, .inr ⟨rfl, .ret, hIx _ _ _ hq f3, f2, by omega⟩⟩
   | exit id =>
    obtain ⟨hkf, hq⟩ := hp
    obtain ⟨f1, f2, f3, f4⟩ := fin (some (.exit id)) (key hkf)
    exact ⟨_, _, f1, .inr ⟨rfl, .exit id, hIx _ _ _ hq f3, f2, by omega⟩⟩
   | goto t => exact hp.elim
   | panic ch => exact hp.elim
   | outgrown => exact hp.elim
  ·rintro e W2 ⟨⟨v, rfl⟩, ⟨hi, hb, _⟩ | ⟨j, hi, hb, _⟩⟩
   ·exact ⟨none, _, out (by simp) hb, hdone _ (hI _ _ _ hi (tn_put hb)) (bk_put (st' := .exhausted) (j' := none) hb).2⟩
   ·exact ⟨some j, _, out (by simp) hb, hstop j _ (hIx _ _ _ hi (tn_put hb)) (bk_put (st' := .exhausted) (j' := some j) hb).2⟩
end Go.Proofs.YtofihklinkpbiaaGreat.Mat

namespace Go.Proofs.YtofihklinkpbiaaGreat.Mat
open Go.RowKit Go.Shelf F8 Poly GF
attribute [local go_sem] Oper.semAt_some
theorem block_of_own {w : World} {B g n c : Nat} {e : TypeId} {xs : List Value} (h : Own w B e (.slice (some ⟨g, 0, none⟩) n c) xs) : ∃ cs, w.heap[g]? = some (.cells cs e (0, 0)) := by
 rcases h.2 with ⟨h1, _⟩ | ⟨g', cap, cur, h1, h2, h3, _⟩
 ·cases h1
 ·injection h1 with h1
  simp only [Option.some.injEq, Addr.mk.injEq] at h1
  obtain ⟨rfl, _⟩ := h1
  exact ⟨_, h3⟩
def MatRes (w w' : World) (e : Ending) (r c : Nat) (s : List F8) : Prop :=
 ∃ A cap, e = .returned (.agg #[.int .i64 r, .int .i64 c, .slice A s.length cap]) ∧ s.length ≤ cap ∧ Own w' w.heap.size 5 (.slice A s.length cap) (bv (bs s)) ∧ Below w.heap.size w w'
def MatResE (w w' : World) (e : Ending) (r c : Nat) (s : List F8) (n : Int) : Prop :=
 ∃ A cap, e = .returned (.tuple #[.agg #[.int .i64 r, .int .i64 c, .slice A s.length cap], .int .i64 n]) ∧ s.length ≤ cap ∧ Own w' w.heap.size 5 (.slice A s.length cap) (bv (bs s)) ∧ Below w.heap.size w w'
def MatResF (pf : Option Addr) (w w' : World) (e : Ending) (r c : Nat) (s : List F8) (n : Int) : Prop :=
 ∃ A cap, e = .returned (.tuple #[.agg #[.int .i64 r, .int .i64 c, .slice A s.length cap], .int .i64 n]) ∧ s.length ≤ cap ∧ Own w' w.heap.size 5 (.slice A s.length cap) (bv (bs s)) ∧ FldP w' pf ∧ Past w.heap.size (rb w pf) w w'
def set3 (w : World) (g : Nat) (x y z : Value) : World := ((w.setCell ⟨g, 0, none⟩ x).setCell ⟨g, 1, none⟩ y).setCell ⟨g, 2, none⟩ z
theorem set3_size (w : World) (g : Nat) (x y z : Value) : (set3 w g x y z).heap.size = w.heap.size := by simp [set3, World.setCell]
theorem own_set3 {w : World} {B g : Nat} {e : TypeId} {v : Value} {xs : List Value} (h : Own w B e v xs) (hv : v.ownBlock ≠ some g) (x y z : Value) : Own (set3 w g x y z) B e v xs :=
 ((h.far (p := ⟨g, 0, none⟩) hv x).far (p := ⟨g, 1, none⟩) hv y).far (p := ⟨g, 2, none⟩) hv z
theorem below_set3 {B g : Nat} {a w : World} (h : Below B a w) (hg : B ≤ g) (x y z : Value) : Below B a (set3 w g x y z) :=
 ((h.setCell (p := ⟨g, 0, none⟩) hg x).setCell (p := ⟨g, 1, none⟩) hg y).setCell (p := ⟨g, 2, none⟩) hg z
theorem past_set3 {B g k : Nat} {a w : World} (h : Past B k a w) (hg : g = k ∨ B ≤ g) (x y z : Value) : Past B k a (set3 w g x y z) :=
 ((h.setCell (p := ⟨g, 0, none⟩) hg x).setCell (p := ⟨g, 1, none⟩) hg y).setCell (p := ⟨g, 2, none⟩) hg z
theorem block_set3 {w : World} {g k : Nat} {t : TypeId} {cs : Array Value} (h : Block w k t cs) (hk : k ≠ g) (x y z : Value) : Block (set3 w g x y z) k t cs :=
 ((h.far (p := ⟨g, 0, none⟩) hk x).far (p := ⟨g, 1, none⟩) hk y).far (p := ⟨g, 2, none⟩) hk z
theorem fld_set3 {w : World} {g k : Nat} (h : Fld w k) (hk : k ≠ g) (x y z : Value) : Fld (set3 w g x y z) k := h.imp (fun h => block_set3 h hk x y z) (fun h => block_set3 h hk x y z)
theorem block_set3_self {w : World} {g : Nat} {t : TypeId} {x0 y0 z0 : Value} (h : Block w g t #[x0, y0, z0]) (x y z : Value) : Block (set3 w g x y z) g t #[x, y, z] := by
 have := ((h.set_ 0 x).set_ 1 y).set_ 2 z
 simpa [set3] using this
def ZeroRes (r c n : Nat) (w : World) (e : Ending) (w' : World) : Prop :=
 ∃ g, e = .returned (.agg #[.int .i64 r, .int .i64 c, .slice (some ⟨g, 0, none⟩) n n]) ∧ w.heap.size ≤ g ∧ g < w'.heap.size ∧ Own w' w.heap.size 5 (.slice (some ⟨g, 0, none⟩) n n) (bv (bs (List.replicate n 0))) ∧ Below w.heap.size w w'
theorem zeros_calls (r c n : Nat) (hn : r * c = n) (h : n ≤ 1000000000) (w : World) :
  Calls Tryz.prog 94 #[.int .i64 r, .int .i64 c] w (ZeroRes r c n w) := by
 have HN := Lib.hid hn
 obtain ⟨w1, hw1⟩ : ∃ w1, w.alloc (.cells #[.int .i64 0, .int .i64 0, .slice none 0 0] 74) = w1 := ⟨_, rfl⟩
 obtain ⟨w2, hmk, hO, hB⟩ := make_run w1 n h
 have hb1 : Block w1 w.heap.size 74 #[.int .i64 0, .int .i64 0, .slice none 0 0] := by rw [← hw1]; exact Block.new _ _ _
 have hs1 : w1.heap.size = w.heap.size + 1 := by rw [← hw1]; simp
 have hb2 := hb1.below hB hb1.lt
 obtain ⟨l0, l1, l2⟩ := cells3 hb2
 have f0 := hb2.frozen 0
 have f1 := hb2.frozen 1
 have f2 := hb2.frozen 2
 clear hn
 have hB0 : Below w.heap.size w w2 := by rw [← hw1] at hB; exact ((Below.refl _ w).alloc (Nat.le_refl _) _).trans (hB.mono (by simp))
 have hO' := hO.more (B' := w.heap.size) (by omega)
 have HS := Lib.hid hs1
 have hlt := (Own.blk hO).2
 clear hs1 hb1 hb2
 go_enter Tryz.func94, Tryz.ntmps94
 go_wp2_with (go_at_call 92; refine (area_nat r c (by rw [HN.out]; omega) _).mono ?_; rintro e w' ⟨rfl, rfl⟩; rw [HN.out])
 refine bodyPost_ret (v := .agg #[.int .i64 r, .int .i64 c, .slice (some ⟨w1.heap.size, 0, none⟩) n n]) (by simp [results, Tryz.results94, go_sem, l0, l1, l2]) rfl ?_
 exact ⟨_, rfl, by have := HS.out; omega, by have := set3_size w2 w.heap.size (.int .i64 r) (.int .i64 c) (.slice (some ⟨w1.heap.size, 0, none⟩) n n); unfold set3 at this; omega, own_set3 hO' (by have := HS.out; simp [Value.ownBlock]; omega) _ _ _, below_set3 hB0 (Nat.le_refl _) _ _ _⟩
theorem made_ints (n : Nat) : (madeCells (Value.int .i64 0).cells (n * 1)).toList = iv (List.replicate n 0) := by
 apply List.ext_getElem
 ·simp [madeCells, iv]
 ·intro i h1 h2
  simp [madeCells, iv, Value.cells, Nat.mod_one]
theorem make_ints (w : World) (n : Nat) (hn : n ≤ 1000000000) :
  ∃ w', (Instr.makeSlice 38 (.int .i64 (n : Int)) (.int .i64 (n : Int))).run Tryz.prog w = .ok (.slice (some ⟨w.heap.size, 0, none⟩) n n) w' ∧ Own w' w.heap.size 3 (.slice (some ⟨w.heap.size, 0, none⟩) n n) (iv (List.replicate n 0)) ∧ Below w.heap.size w w' := by
 obtain ⟨i0, hi, hi1, hi2, hi3⟩ := info_parts info_int
 obtain ⟨w1, hmk, ho, hg⟩ := run_make_full (P := Tryz.prog) w w.heap.size 38 3 i0 _ 1 Tryz.underlying38 hi hi1 hi2 .i64 .i64 n (by rw [hi3]; omega) (by simp only [maxLen]; omega) (Nat.le_refl _)
 rw [made_ints] at ho
 refine ⟨w1, hmk, ?_, (Below.refl w.heap.size w).grown hg (Nat.le_refl _) (fun _ h => by cases h)⟩
 unfold Own; rw [iv_length, List.length_replicate]; exact ho
def UpRes (n : Nat) (w : World) (e : Ending) (w' : World) : Prop :=
 ∃ g, e = .returned (.slice (some ⟨g, 0, none⟩) n n) ∧ w.heap.size ≤ g ∧ g < w'.heap.size ∧ Own w' w.heap.size 3 (.slice (some ⟨g, 0, none⟩) n n) (iv (List.range n)) ∧ Below w.heap.size w w'
theorem Own.row' {w : World} {B n c : Nat} {e : TypeId} {A : Option Addr} {xs : List Value} (h : Own w B e (.slice A n c) xs) : Row w A xs := by
 obtain ⟨A', c', e1, hr, _⟩ := h.form
 injection e1 with e2 _ _
 subst e2
 exact hr
theorem own_int {w : World} {B g n c k : Nat} {e : TypeId} {l : List Nat} (h : Own w B e (.slice (some ⟨g, 0, none⟩) n c) (iv l)) (hl : l.length = n) (hk : k < n) : w.cell? ⟨g, k, none⟩ = some (.int .i64 (l.getD k 0 : Nat)) := by
 have hll : (iv l).length = n := by rw [iv_length]; exact hl
 rw [Own.cellAt h hll k (by omega)]
 have hk' : k < l.length := by omega
 simp [iv, List.getD_eq_getElem?_getD, List.getElem?_eq_getElem hk']
set_option maxRecDepth 100000 in
set_option maxHeartbeats 1000000 in
theorem upTo_calls (n : Nat) (h : n ≤ 1000000) (w : World) :
  Calls Tryz.prog 139 #[.int .i64 n] w (UpRes n w) := by
 obtain ⟨w1, hmk, hO, hB⟩ := make_ints w n (by omega)
 have HO := Lib.hid hO
 have HB := Lib.hid hB
 have hlt := (Own.blk hO).2
 clear hO hB
 go_enter Tryz.func139, Tryz.ntmps139
 go_wp2
 go_loopw [9] (fun i wr => ∃ (k : Nat) (l : List Nat), k ≤ n ∧ i = .int .i64 k ∧ Hid (l.length = n ∧ ∀ j, j < k → l[j]? = some j) ∧ Hid (Own wr w.heap.size 3 (.slice (some ⟨w.heap.size, 0, none⟩) n n) (iv l)) ∧ Hid (Below w.heap.size w wr)) (fun i _ => n - (intOf i).toNat)
 case atStart => exact ⟨0, _, Nat.zero_le _, rfl, Lib.hid ⟨List.length_replicate .., fun j hj => by omega⟩, HO, HB⟩
 case round =>
  obtain ⟨k, l, hk, rfl, HL, HOr, HBr⟩ := hrel
  by_cases hkk : k < n
  ·have hll : (iv l).length = n := by rw [iv_length]; exact HL.out.1
   have hc := own_int HOr.out HL.out.1 hkk
   have hf := Own.frozenAt HOr.out hll k
   have HO2 : Hid (Own (wr.setCell ⟨w.heap.size, k, none⟩ (.int .i64 k)) w.heap.size 3 (.slice (some ⟨w.heap.size, 0, none⟩) n n) (iv (l.set k k))) := Lib.hid (by rw [← iv_set]; exact Own.set_ HOr.out hll k _)
   have HL2 : Hid ((l.set k k).length = n ∧ ∀ j, j < k + 1 → (l.set k k)[j]? = some j) := Lib.hid ⟨by rw [List.length_set]; exact HL.out.1, fun j hj => by
    rw [List.getElem?_set]
    by_cases e : k = j
    ·rw [if_pos e, if_pos (by have := HL.out.1; omega), e]
    ·rw [if_neg e]; exact HL.out.2 j (by omega)⟩
   clear hll
   go_wp2
   go_roundw
   case rel => exact ⟨k + 1, _, by omega, by go_num, HL2, HO2, Lib.hid (HBr.out.setCell (p := ⟨w.heap.size, k, none⟩) (Nat.le_refl _) _)⟩
   case measure => simp [intOf]; omega
  ·obtain rfl : k = n := by omega
   have HR : Hid (l = List.range k) := Lib.hid (List.ext_getElem? fun j => by
    by_cases e : j < k
    ·rw [HL.out.2 j e, List.getElem?_range e]
    ·rw [List.getElem?_eq_none (by have := HL.out.1; omega), List.getElem?_eq_none (by simp; omega)])
   go_wp2
   go_ret
   have hz := HBr.out.size
   exact ⟨w.heap.size, rfl, Nat.le_refl _, (Own.blk HOr.out).2, by rw [← HR.out]; exact HOr.out, HBr.out⟩
theorem rows_calls (R : Int) (c N cap na ca : Nat) (A Aat : Option Addr) (w : World) :
  Calls Tryz.prog 138 #[.agg #[.int .i64 R, .int .i64 c, .slice A N cap], .slice Aat na ca] w fun e w' => e = .returned (.func (.func 171) #[] #[.pointer (some ⟨w.heap.size + 1, 0, none⟩), .pointer (some ⟨w.heap.size, 0, none⟩)]) ∧ w' = (w.alloc (.cells #[.int .i64 R, .int .i64 c, .slice A N cap] 74)).alloc (.cells #[.slice Aat na ca] 38) := by
 have hmf : ∀ (fn : Fn) (first cap : Array Value) (w : World), (Instr.makeFunc fn first cap).run Tryz.prog w = .ok (.func fn first cap) w := fun _ _ _ _ => rfl
 go_enter Tryz.func138, Tryz.ntmps138
 go_wp2
 go_ret
 exact ⟨rfl, rfl⟩
def RowsRes (Aat : Option Addr) (na ca : Nat) (ats : List Nat) (R : Int) (c : Nat) (A : Option Addr) (N cap : Nat) (w : World) (e : Ending) (w' : World) : Prop :=
 ∃ Bat Bm, e = .returned (.func (.func 171) #[] #[.pointer (some ⟨Bat, 0, none⟩), .pointer (some ⟨Bm, 0, none⟩)]) ∧ w.heap.size ≤ Bat ∧ w.heap.size ≤ Bm ∧ Vis w' Bat Bm Aat na ca ats R c A N cap ∧ Below w.heap.size w w'
theorem rows_any (R : Int) (c N cap na ca : Nat) (A Aat : Option Addr) (ats : List Nat) (w : World) (hr : Row w Aat (iv ats)) :
  Calls Tryz.prog 138 #[.agg #[.int .i64 R, .int .i64 c, .slice A N cap], .slice Aat na ca] w (RowsRes Aat na ca ats R c A N cap w) := by
 refine (rows_calls R c N cap na ca A Aat w).mono ?_
 rintro e w' ⟨rfl, rfl⟩
 have hb := Block.new (w.alloc (.cells #[.int .i64 R, .int .i64 c, .slice A N cap] 74)) 38 #[.slice Aat na ca]
 rw [World.size_alloc] at hb
 exact ⟨_, _, rfl, by omega, Nat.le_refl _, ⟨hb, (Block.new _ _ _).alloc _, (hr.alloc _).alloc _⟩, ((Below.refl _ _).alloc (Nat.le_refl _) _).alloc (by simp) _⟩
def AllRes (r c : Nat) (A : Option Addr) (N cap : Nat) (w : World) (e : Ending) (w' : World) : Prop :=
 ∃ Bat Bm gi, e = .returned (.func (.func 171) #[] #[.pointer (some ⟨Bat, 0, none⟩), .pointer (some ⟨Bm, 0, none⟩)]) ∧ w.heap.size ≤ Bat ∧ w.heap.size ≤ Bm ∧ w.heap.size ≤ gi ∧ Vis w' Bat Bm (some ⟨gi, 0, none⟩) r r (List.range r) r c A N cap ∧ Below w.heap.size w w' ∧ gi < w'.heap.size
set_option maxHeartbeats 1000000 in
theorem all_calls (r c N cap : Nat) (A : Option Addr) (h : r ≤ 1000000) (w : World) :
  Calls Tryz.prog 95 #[.agg #[.int .i64 r, .int .i64 c, .slice A N cap]] w (AllRes r c A N cap w) := by
 go_enter Tryz.func95, Tryz.ntmps95
 go_wp2
 go_region_with (first
  | (go_at_call 139; refine (upTo_calls r h _).mono ?_; rintro e w1 ⟨g, rfl, h1, h2, h3, h4⟩; obtain ⟨l0, l1, l2⟩ := cells3 (Block.below (Block.drew (Block.new w 74 #[.int .i64 r, .int .i64 c, .slice A N cap])) h4 (by simp)))
  | (go_at_call 138; refine (rows_any r c N cap r r A (some ⟨g, 0, none⟩) (List.range r) _ (Own.row' h3)).mono ?_; rintro e w2 ⟨Bat, Bm, rfl, k1, k2, k3, k4⟩))
 all_goals
  go_wp2
  go_ret
  simp only [World.size_drew, World.size_alloc] at h1 h3 h4
  have hz := h4.size
  exact ⟨Bat, Bm, g, rfl, by omega, by omega, by omega, k3, ((Below.drewN' ((Below.refl w.heap.size w).alloc (Nat.le_refl _) _) 1).trans (h4.mono (by simp))).trans (k4.mono (by simp at hz; omega)), by have := k4.size; omega⟩
end Go.Proofs.YtofihklinkpbiaaGreat.Mat
namespace Go.Proofs.YtofihklinkpbiaaGreat.Mat
open Go.RowKit Go.Shelf F8 Poly GF
structure But (B : Nat) (S : Nat → Prop) (w w' : World) : Prop where
 os : w'.os = w.os
 tape : w'.tape = w.tape
 output : w'.output = w.output
 size : w.heap.size ≤ w'.heap.size
 block : ∀ k, k < B → ¬ S k → w'.heap[k]? = w.heap[k]?
section
variable {B : Nat} {S : Nat → Prop} {a w w' : World}
theorem But.refl (B : Nat) (S : Nat → Prop) (w : World) : But B S w w := ⟨rfl, rfl, rfl, Nat.le_refl _, fun _ _ _ => rfl⟩
theorem But.trans (h : But B S a w) (k : But B S w w') : But B S a w' :=
 ⟨k.os.trans h.os, k.tape.trans h.tape, k.output.trans h.output, Nat.le_trans h.size k.size, fun i hi hn => (k.block i hi hn).trans (h.block i hi hn)⟩
theorem But.of_past {g : Nat} (h : Past B g a w) (hg : S g) : But B S a w := ⟨h.os, h.tape, h.output, h.size, fun i hi hn => h.block i hi (fun e => hn (e ▸ hg))⟩
theorem But.of_below (h : Below B a w) : But B S a w := ⟨h.os, h.tape, h.output, h.size, fun i hi _ => h.block i hi⟩
theorem But.mono {B' : Nat} {S' : Nat → Prop} (h : But B S a w) (hB : B' ≤ B) (hS : ∀ k, k < B' → S k → S' k) : But B' S' a w := ⟨h.os, h.tape, h.output, h.size, fun i hi hn => h.block i (by omega) (fun e => hn (hS i hi e))⟩
theorem But.drew (h : But B S a w) : But B S a w.drew := ⟨h.os, h.tape, h.output, h.size, h.block⟩
theorem But.drewN (h : But B S a w) (n : Nat) : But B S a (w.drewN n) := ⟨h.os, h.tape, h.output, h.size, h.block⟩
theorem But.setCell (h : But B S a w) {p : Addr} (hp : S p.block ∨ B ≤ p.block) (u : Value) : But B S a (w.setCell p u) :=
 h.trans ⟨rfl, rfl, rfl, by simp [World.setCell], fun k hk hn => Below.heap_setCell _ _ _ _ (by rintro rfl; rcases hp with hp | hp; exact hn hp; omega)⟩
theorem But.blk {g : Nat} {t : TypeId} {cs : Array Value} (h : But B S w w') (hb : Block w g t cs) (hB : g < B) (hg : ¬ S g) : Block w' g t cs := (h.block g hB hg).trans hb
theorem But.cell (h : But B S w w') (p : Addr) (hB : p.block < B) (hg : ¬ S p.block) : w'.cell? p = w.cell? p := World.cell?_of_block (h.block _ hB hg)
theorem But.own {B0 : Nat} {e : TypeId} {v : Value} {xs : List Value} (h : But w.heap.size S w w') (ho : Own w B0 e v xs) (hS : ∀ b, v.ownBlock = some b → ¬ S b) : Own w' B0 e v xs := by
 refine ⟨ho.1, ?_⟩
 rcases ho.2 with hn | ⟨g, cap, cur, h1, h2, h3, h4⟩
 ·exact .inl hn
 ·refine .inr ⟨g, cap, cur, h1, h2, ?_, h4⟩
  have hlt : g < w.heap.size := (Array.getElem?_eq_some_iff.1 h3).1
  exact (h.block g hlt (hS g (by rw [h1]; rfl))).trans h3
end
theorem But.past {B g : Nat} {a w : World} (h : But B (· = g) a w) : Past B g a w := ⟨h.os, h.tape, h.output, h.size, fun k hk hn => h.block k hk hn⟩
theorem past_cell {B g : Nat} {w w' : World} (h : Past B g w w') (p : Addr) (hb : p.block < B) (hn : p.block ≠ g) : w'.cell? p = w.cell? p := World.cell?_of_block (h.block _ hb hn)
theorem own_ne {w : World} {g B : Nat} {e t : TypeId} {v : Value} {xs : List Value} {cs : Array Value} (h : Own w B e v xs) (hb : Block w g t cs) (hne : e ≠ t) : v.ownBlock ≠ some g := by
 rcases h.2 with ⟨rfl, _⟩ | ⟨b, cap, cur, rfl, _, hh, _⟩
 ·simp [Value.ownBlock]
 ·intro e1
  obtain rfl : b = g := by simpa [Value.ownBlock] using e1
  unfold Block at hb
  rw [hh] at hb
  simp only [Option.some.injEq, Obj.cells.injEq] at hb
  exact hne hb.2.1
theorem block_ne {w : World} {g k : Nat} {t u : TypeId} {cs ds : Array Value} (h : Block w g t cs) (hb : Block w k u ds) (hne : t ≠ u) : g ≠ k := by
 rintro rfl
 unfold Block at h hb
 rw [h] at hb
 simp only [Option.some.injEq, Obj.cells.injEq] at hb
 exact hne hb.2.1
theorem own_keep {w w' : World} {g B : Nat} {e : TypeId} {v : Value} {xs : List Value} (h : Own w B e v xs) (he : e ≠ 98) (hf : Fld w g) (hp : Past w.heap.size g w w') : Own w' B e v xs := by
 refine h.grown (row := some g) ⟨hp.os, hp.tape, hp.output, hp.size, fun k hk hn => hp.block k hk (fun e => hn (by rw [e]))⟩ (.inr ?_)
 rcases hf with hb | hb
 ·exact own_ne h hb he
 ·exact own_ne h hb he
theorem own_block {w : World} {B0 : Nat} {e : TypeId} {A : Option Addr} {xs : List Value} {n c : Nat} (h : Own w B0 e (.slice A n c) xs) : ∀ a, A = some a → B0 ≤ a.block ∧ a.block < w.heap.size := by
 intro a ha; subst ha; exact h.lt a.block rfl
theorem own_cell {w : World} {B g M C k : Nat} {s : List F8} (h : Own w B 5 (.slice (some ⟨g, 0, none⟩) M C) (bv (bs s))) (hs : s.length = M) (hk : k < M) : w.cell? ⟨g, k, none⟩ = some (.int .u8 ((coef s k).n : Int)) := by
 have hl : (bv (bs s)).length = M := by rw [bvs_length, hs]
 rw [Own.cellAt h hl k (by omega), coef_of_lt (by omega)]
 simp [bv, bs]
theorem own_set {w : World} {B g M C k : Nat} {s : List F8} {x : F8} (h : Own w B 5 (.slice (some ⟨g, 0, none⟩) M C) (bv (bs s))) (hs : s.length = M) : Own (w.setCell ⟨g, k, none⟩ (.int .u8 (x.n : Int))) B 5 (.slice (some ⟨g, 0, none⟩) M C) (bv (bs (s.set k x))) := by
 have hl : (bv (bs s)).length = M := by rw [bvs_length, hs]
 have := Own.set_ h hl k (.int .u8 (x.n : Int))
 rwa [show (bv (bs s)).set k (.int .u8 (x.n : Int)) = bv (bs (s.set k x)) by simp [bv, bs, List.map_set]] at this
theorem own_frozen {w : World} {B g M C : Nat} {s : List F8} (h : Own w B 5 (.slice (some ⟨g, 0, none⟩) M C) (bv (bs s))) (hs : s.length = M) (k : Nat) : w.frozen? ⟨g, k, none⟩ = false := Own.frozenAt h (by rw [bvs_length, hs]) k
theorem Fld.ne_own {w : World} {gf g B M C : Nat} {e : TypeId} {xs : List Value} (hf : Fld w gf) (he : e ≠ 98) (h : Own w B e (.slice (some ⟨g, 0, none⟩) M C) xs) : gf ≠ g := by
 rintro rfl
 rcases hf with hb | hb <;> exact own_ne h hb he rfl
theorem Fld.ne_block {w : World} {gf g : Nat} {t : TypeId} {cs : Array Value} (hf : Fld w gf) (hb : Block w g t cs) (he : t ≠ 98) : gf ≠ g := by
 rcases hf with h | h <;> exact block_ne h hb (Ne.symm he)
theorem mul_f (gf : Nat) (x y : F8) (w : World) (hf : Fld w gf) :
  Calls Tryz.prog 96 #[.pointer (some ⟨gf, 0, none⟩), .int .u8 x.n, .int .u8 y.n] w fun e w' => e = .returned (.int .u8 (x * y).n) ∧ Fld w' gf ∧ Past w.heap.size gf w w' :=
 (mul_calls (some ⟨gf, 0, none⟩) x.n y.n x.h y.h w (FldP.of hf)).mono fun _ _ ⟨h1, h2, h3⟩ => ⟨h1, h2.fld, h3⟩
theorem div_f (gf : Nat) (x y : F8) (h0 : y ≠ 0) (w : World) (hf : Fld w gf) :
  Calls Tryz.prog 59 #[.pointer (some ⟨gf, 0, none⟩), .int .u8 x.n, .int .u8 y.n] w fun e w' => e = .returned (.tuple #[.int .u8 (x / y).n, .bool true]) ∧ Fld w' gf ∧ Past w.heap.size gf w w' :=
 (div_calls (some ⟨gf, 0, none⟩) x.n y.n x.h y.h (n_ne_zero.2 h0) w (FldP.of hf)).mono fun _ _ ⟨h1, h2, h3⟩ => ⟨h1, h2.fld, h3⟩
theorem add_still (x y : F8) (w : World) : Calls Tryz.prog 44 #[.int .u8 x.n, .int .u8 y.n] w fun e w' => e = .returned (.int .u8 (x + y).n) ∧ w' = w :=
 (add_calls x.n y.n x.h y.h w).mono fun _ _ h => ⟨h.1, h.2.symm⟩
def IsF (w0 w : World) (pf : Option Addr) (g : Nat) : Prop := (pf = none ∧ w.heap.size ≤ g) ∨ (pf = some ⟨g, 0, none⟩ ∧ g < w0.heap.size)
theorem IsF.ne {w0 w : World} {pf : Option Addr} {g k : Nat} (h : IsF w0 w pf g) (h1 : w0.heap.size ≤ k) (h2 : k < w.heap.size) : k ≠ g := by
 rcases h with ⟨_, h⟩ | ⟨_, h⟩ <;> omega
theorem IsF.past {w0 w a b : World} {pf : Option Addr} {g : Nat} (h : IsF w0 w pf g) (hw : w0.heap.size ≤ w.heap.size) (hp : Past w0.heap.size g a b) : Past w0.heap.size (rb w0 pf) a b := by
 rcases h with ⟨rfl, h⟩ | ⟨rfl, h⟩
 ·exact Past.of_below (hp.below (by omega)) _
 ·exact hp
theorem IsF.fldP {w0 w w' : World} {pf : Option Addr} {g : Nat} (h : IsF w0 w pf g) (hf : Fld w' g) : FldP w' pf := by
 rcases h with ⟨rfl, h⟩ | ⟨rfl, h⟩
 ·exact .inl rfl
 ·exact FldP.of hf
def NewF (w0 : World) (pf : Option Addr) (w : World) (e : Ending) (w' : World) : Prop :=
 ∃ g, e = .returned (.pointer (some ⟨g, 0, none⟩)) ∧ IsF w0 w pf g ∧ Fld w' g ∧ Below w.heap.size w w'
theorem orNew_f (pf : Option Addr) (w0 w : World) (hf : FldP w0 pf) (hb : Below w0.heap.size w0 w) : Calls Tryz.prog 93 #[.pointer pf] w (NewF w0 pf w) := by
 have hfw : FldP w pf := hf.below hb
 rcases hfw with rfl | ⟨g, rfl, hg⟩
 ·go_enter Tryz.func93, Tryz.ntmps93
  go_wp2_with (go_at_call 15; refine (new_calls _).mono ?_; rintro e w' ⟨rfl, rfl⟩)
  go_ret
  exact ⟨w.heap.size, rfl, .inl ⟨rfl, Nat.le_refl _⟩, Fld.new w, (Below.refl _ _).alloc (Nat.le_refl _) _⟩
 ·have hlt := hf.fld.lt
  go_enter Tryz.func93, Tryz.ntmps93
  go_wp2
  go_ret
  exact ⟨g, rfl, .inr ⟨rfl, hlt⟩, hg, Below.refl _ _⟩
theorem set3_other {w : World} {g k : Nat} {o : Obj} (h : w.heap[k]? = some o) (hk : k ≠ g) (x y z : Value) : (set3 w g x y z).heap[k]? = some o := by
 unfold set3
 rw [Below.heap_setCell _ _ _ _ (by simpa using hk), Below.heap_setCell _ _ _ _ (by simpa using hk), Below.heap_setCell _ _ _ _ (by simpa using hk)]; exact h
def Laid (v : Value) (w : World) (e : Ending) (w' : World) : Prop := e = .returned v ∧ Turn w.heap.size w w'
theorem rowAt_wide (R : Int) (A : Option Addr) (N cap i c : Nat) (hN : N ≤ 140737488355328) (hi : (i + 1) * c ≤ N) (hc : N ≤ cap) (hc16 : c ≤ 1000000) (hi16 : i ≤ 65536) (w : World) :
  Calls Tryz.prog 142 #[.agg #[.int .i64 R, .int .i64 c, .slice A N cap], .int .i64 i] w (Laid (.slice (rowA A (i * c) c) c c) w) := by
 refine (rowAt_calls R A N cap i c hN hi hc hc16 hi16 w).mono ?_
 rintro e w' ⟨rfl, n, rfl⟩
 exact ⟨rfl, Turn.drewN (Turn.alloc (Nat.le_refl _) _) n⟩
theorem rowAt_laid (R : Int) (A : Option Addr) (N cap i c : Nat) (hN : N ≤ 140737488355328) (hi : (i + 1) * c ≤ N) (hc : N ≤ cap) (hc16 : c ≤ 65536) (hi16 : i ≤ 65536) (w : World) :
  Calls Tryz.prog 142 #[.agg #[.int .i64 R, .int .i64 c, .slice A N cap], .int .i64 i] w (Laid (.slice (rowA A (i * c) c) c c) w) := rowAt_wide R A N cap i c hN hi hc (by omega) hi16 w
theorem keeps_turn {l : Nat} {W W' : World} (h : Turn W.heap.size W W') : KeepsFrom l W W' := keeps_below h.below
end Go.Proofs.YtofihklinkpbiaaGreat.Mat

namespace Go.Proofs.YtofihklinkpbiaaGreat.Mat
open Go.RowKit Go.Shelf F8 Poly GF
theorem eql_nil (a : Option Addr) (l c : Nat) (w : World) : (binOp .eql 22 (.slice a l c) (.slice none 0 0)).run Tryz.prog w = .ok (.bool a.isNone) w := by
 simp only [binOp]
 simp [run_equal_slice_nil w 22 5 a l c Tryz.underlying22]
def RowRes (n : Nat) (s : List F8) (w : World) (e : Ending) (w' : World) : Prop :=
 ∃ A c, e = .returned (.slice A n c) ∧ n ≤ c ∧ Own w' w.heap.size 5 (.slice A n c) (bv (bs s)) ∧ Below w.heap.size w w'
set_option maxHeartbeats 1000000 in
theorem clone_calls (A : Option Addr) (s : List F8) (n c : Nat) (w : World) (hl : s.length = n) (hn : n ≤ 1000000000) (hb : Bytes w A (bs s)) :
  Calls Tryz.prog 99 #[.slice A n c] w (RowRes n s w) := by
 have hq := eql_nil A n c
 have HB := Lib.hid hb
 have HL := Lib.hid hl
 rcases A with _ | a
 ·have hs : s = [] := by
   rcases s with _ | ⟨x, s⟩
   ·rfl
   ·obtain ⟨b, off, h, _⟩ := hb.row 0 _ rfl; cases h
  subst hs
  obtain rfl : n = 0 := by simpa using hl.symm
  clear hb hl HB HL
  go_enter Tryz.func99, Tryz.ntmps99
  go_wp2
  go_ret
  exact ⟨none, 0, rfl, Nat.le_refl _, Own.nil _ _ _, Below.refl _ _⟩
 ·have hO := Own.lit w w.heap.size 5 #[] 0 (Nat.le_refl _) rfl (by decide)
  have HO := Lib.hid hO
  clear hb hl hO
  go_enter Tryz.func99, Tryz.ntmps99
  go_wp2_with (at_builtin; refine wpList_app _ rfl (.tmp 5) (.tmp 6) 22 rfl w.heap.size 5 (.int .u8 0) 1 Tryz.underlying22 info_u8 rfl (by decide) (.slice (some ⟨w.heap.size, 0, none⟩) 0 0) [] rfl HO.out (some a) n c (bv (bs s)) rfl (by rw [bvs_length, HL.out]) (HB.out.alloc _).row (bv_one _) (by simp; omega) (by simp) ?_; intro v' w1 hO1 hg _; (obtain ⟨A1, c1, rfl, hc1⟩ := Own.shape (p := s) (by rw [List.nil_append] at hO1; exact hO1)); have HO1 := Lib.hid hO1; clear hO1)
  have hB := ((Below.refl w.heap.size w).alloc (Nat.le_refl _) (.cells #[] 5)).grown hg (by simp) (fun k hk => by simp [Value.ownBlock] at hk; omega)
  go_ret
  have hO1 := HO1.out
  rw [List.nil_append, HL.out] at hO1
  rw [HL.out] at hc1
  exact ⟨A1, c1, by rw [HL.out]; rfl, hc1, hO1, hB⟩
end Go.Proofs.YtofihklinkpbiaaGreat.Mat

namespace Go.Proofs.YtofihklinkpbiaaGreat.Wl
open Go.RowKit Go.Shelf F8 Poly GF Rd
attribute [local go_sem] Oper.semAt_some
theorem Sym.At.frozen {S : Sym} {T N : Value} {w : World} (h : S.At T N w) (i : Nat) : w.frozen? ⟨S.s, i, none⟩ = false := h.blk.frozen i
def RInt (S : Sym) (w : World) (e : Ending) (w' : World) : Prop := ∃ T N, e = .returned (.tuple #[]) ∧ S.At T N w' ∧ S.Made T N w' ∧ Past S.B0 S.g w w'
set_option maxRecDepth 100000 in
set_option maxHeartbeats 4000000 in
theorem interpolate_made {S : Sym} {T N : Value} {w : World} (h : S.At T N w) (ok : S.Ok) (hm : S.Made T N w) :
  Calls Tryz.prog 190 #[.pointer (some ⟨S.s, 0, none⟩)] w (RInt S w) := by
 have HM := Lib.hid hm
 obtain ⟨th, A, c, A2, c2, h1, h2, h3⟩ := hm
 have hrl : (trim (roots S.pts)).length = S.m + 1 := by rw [trim_length, len_roots, ok.pl_]
 obtain ⟨b0, o0, hA2⟩ := where_ h3.by_ (by omega)
 have hN := h3.v_
 rw [hA2] at hN
 have hq := Mat.eql_nil (some ⟨b0, o0, none⟩) (trim (roots S.pts)).length c2 w
 obtain ⟨l, hl⟩ : ∃ l, (trim (roots S.pts)).length = l := ⟨_, rfl⟩
 rw [hl] at hN hq
 subst hN
 have HS := Lib.hid h
 have d5 := h.cells.2.2.2.2.2
 clear h1 h2 h3 hrl hA2 hl h
 go_enter Tryz.func190, Tryz.ntmps190
 go_wp2
 go_end0
 exact ⟨_, _, rfl, HS.out, HM.out, Past.refl _ _ _⟩
set_option maxRecDepth 100000 in
set_option maxHeartbeats 8000000 in
theorem interpolate_new (PS : Poly.Spec) {S : Sym} {w : World} (h : S.At (.slice none 0 0) (.slice none 0 0) w) (ok : S.Ok) :
  Calls Tryz.prog 190 #[.pointer (some ⟨S.s, 0, none⟩)] w (RInt S w) := by
 have hq := Mat.eql_nil none 0 0 w
 have hpl := ok.pl_
 have HT := Lib.hid (PS.throughP S.X S.Y S.pts S.ys S.m S.m S.c1 S.e w.drew hpl ok.yl h.bx.drew h.by_.drew ok.mc ok.me (by have := ok.m2; omega) (by have := ok.m2; omega) (some ⟨S.g, 0, none⟩) h.cd.fld (h.farx ok) (h.fary ok) rfl ok.nd)
 have HS0 := Lib.hid h
 have HS := Lib.hid (h.below (Below.refl _ w).drew)
 have e5 := h.cells.2.2.2.2.2
 have d0 := HS.out.cells.1
 have d2 := HS.out.cells.2.2.1
 have d3 := HS.out.cells.2.2.2.1
 have d4 := HS.out.cells.2.2.2.2.1
 have df := HS.out.frozen 4
 clear h hpl
 go_enter Tryz.func190, Tryz.ntmps190
 go_wp2_with fail
 go_region_held (fun wz => wz.cell? ⟨S.s, 0, none⟩ = some (.pointer (some ⟨S.b, 0, none⟩)) ∧ wz.cell? ⟨S.s, 2, none⟩ = some (.slice S.X S.m S.c1) ∧ wz.cell? ⟨S.s, 3, none⟩ = some (.slice S.Y S.m S.e)) (first | exact ⟨d0, d2, d3⟩ | exact ⟨(HS.out.put4 ok _).cells.1, (HS.out.put4 ok _).cells.2.2.1, (HS.out.put4 ok _).cells.2.2.2.1⟩)
  ((first
   | (go_at_call 160; (with_reducible refine (field_calls HS.out.cd).mono ?_); rintro e w1 ⟨rfl, rfl⟩)
   | (go_at_call 78; (with_reducible refine HT.out.mono ?_); rintro e w4 ⟨r, ht, A4, c4, rfl, hc4, hO4, hF4, hP4⟩; have hp4 : Past w.drew.heap.size S.g w.drew w4 := hP4; have HS1 := HS; replace HS := Lib.hid (HS1.out.past ok hF4 hp4); have d0 := HS.out.cells.1; have d2 := HS.out.cells.2.2.1; have d3 := HS.out.cells.2.2.2.1; have d4 := HS.out.cells.2.2.2.2.1; have df := HS.out.frozen 4)))
 obtain ⟨w5, hw5⟩ : ∃ w5, w4.setCell ⟨S.s, 4, none⟩ (.slice A4 r.length c4) = w5 := ⟨_, rfl⟩
 have hsl : S.s < w.heap.size := HS0.out.blk.lt
 have HO4 : Hid (Own w5 w.heap.size 5 (.slice A4 r.length c4) (bv (bs r))) := Lib.hid (by
  rw [← hw5]
  refine Own.far (p := ⟨S.s, 4, none⟩) hO4 ?_ _
  intro e
  have : w.drew.heap.size ≤ S.s := (hO4.lt S.s e).1
  exact absurd hsl (Nat.not_lt.2 this))
 have HS5 : Hid (S.At (.slice A4 r.length c4) (.slice none 0 0) w5) := Lib.hid (by rw [← hw5]; exact HS.out.put4 ok _)
 have hB0 : S.B0 ≤ w.heap.size := by have := ok.sB; omega
 have HP5 : Hid (Past S.B0 S.g w w5) := Lib.hid (by rw [← hw5]; exact (((Past.refl S.B0 S.g w).drew).trans (hp4.mono hB0)).setCell (p := ⟨S.s, 4, none⟩) (.inr ok.sB) _)
 have HThr := Lib.hid ht
 have HH := Lib.hid (Sym.has_own ok HO4.out hc4 hsl)
 rw [hw5]
 have HR := Lib.hid (PS.rootsP S.X S.pts S.m S.c1 w5.drew ok.pl_ HS5.out.bx.drew ok.mc (by have := ok.m2; omega) (some ⟨S.g, 0, none⟩) HS5.out.cd.fld (HS5.out.farx ok))
 have hrl : (trim (roots S.pts)).length = S.m + 1 := by rw [trim_length, len_roots, ok.pl_]
 have hrt : trim (trim (roots S.pts)) = trim (roots S.pts) := trim_trim _
 obtain ⟨nt, hnt⟩ : ∃ nt, trim (roots S.pts) = nt := ⟨_, rfl⟩
 rw [hnt] at HR
 have HNT := Lib.hid hnt
 replace HS := Lib.hid (HS5.out.below (Below.refl _ w5).drew)
 have g0 := HS.out.cells.1
 have g2 := HS.out.cells.2.2.1
 have g5 := HS.out.cells.2.2.2.2.2
 have gf := HS.out.frozen 5
 clear hw5 ht hO4 hc4 hF4 hP4 hp4 HS1 d0 d2 d3 d4 df HT hq hnt hrt hrl e5
 go_wp2_with fail
 go_region_held (fun wz => wz.cell? ⟨S.s, 0, none⟩ = some (.pointer (some ⟨S.b, 0, none⟩)) ∧ wz.cell? ⟨S.s, 2, none⟩ = some (.slice S.X S.m S.c1)) (first | exact ⟨g0, g2⟩ | exact ⟨(HS.out.put5 ok _).cells.1, (HS.out.put5 ok _).cells.2.2.1⟩)
  ((first
   | (go_at_call 160; (with_reducible refine (field_calls HS.out.cd).mono ?_); rintro e w1 ⟨rfl, rfl⟩)
   | (go_at_call 47; (with_reducible refine HR.out.mono ?_); rintro e w6 ⟨A6, c6, rfl, hc6, hO6, hF6, hP6⟩; have hp6 : Past w5.drew.heap.size S.g w5.drew w6 := hP6; have HS1 := HS; replace HS := Lib.hid (HS1.out.past ok hF6 hp6); have g0 := HS.out.cells.1; have g2 := HS.out.cells.2.2.1; have g5 := HS.out.cells.2.2.2.2.2; have gf := HS.out.frozen 5)))
 all_goals
  have hsl5 : S.s < w5.heap.size := HS5.out.blk.lt
  have hH6 : S.Has w6 (.slice A4 r.length c4) r A4 c4 := HH.out.past (((Past.refl w5.heap.size S.g w5).drew).trans hp6)
  have hpt : Past w6.heap.size S.s w6 (w6.setCell ⟨S.s, 5, none⟩ (.slice A6 nt.length c6)) := (Past.refl _ _ _).setCell (p := ⟨S.s, 5, none⟩) (.inl rfl) _
  have hO7 : Own (w6.setCell ⟨S.s, 5, none⟩ (.slice A6 nt.length c6)) w5.heap.size 5 (.slice A6 nt.length c6) (bv (bs nt)) := by
   refine Own.far (p := ⟨S.s, 5, none⟩) hO6 ?_ _
   intro e
   have : w5.drew.heap.size ≤ S.s := (hO6.lt S.s e).1
   exact absurd hsl5 (Nat.not_lt.2 this)
  have hX : RInt S w (.returned (.tuple #[])) (w6.setCell ⟨S.s, 5, none⟩ (.slice A6 nt.length c6)) :=
   ⟨_, _, rfl, HS.out.put5 ok _, ⟨r, A4, c4, A6, c6, hH6.turn hpt, HThr.out, by rw [HNT.out]; exact Sym.has_own ok hO7 hc6 hsl5⟩, ((HP5.out.drew).trans (hp6.mono (Nat.le_trans hB0 HP5.out.size))).setCell (p := ⟨S.s, 5, none⟩) (.inr ok.sB) _⟩
  clear hH6 hpt hO7
  go_wp2
  go_end0
  exact hX
theorem interpolate_calls (PS : Poly.Spec) {S : Sym} {T N : Value} {w : World} (h : S.At T N w) (ok : S.Ok) (hst : S.St T N w) :
  Calls Tryz.prog 190 #[.pointer (some ⟨S.s, 0, none⟩)] w (RInt S w) := by
 rcases hst with ⟨rfl, rfl⟩ | hm
 ·exact interpolate_new PS h ok
 ·exact interpolate_made h ok hm
end Go.Proofs.YtofihklinkpbiaaGreat.Wl

namespace Go.Proofs.YtofihklinkpbiaaGreat.Mat
open Go.RowKit Go.Shelf F8 Poly GF
attribute [local go_sem] Oper.semAt_some
def mc (gf : Nat) (met : Nat → Nat) (tab : Nat → Option Addr) (i : Nat) : Value :=
 if i = 0 then .pointer (some ⟨gf, 0, none⟩) else if i < 257 then .int .i64 (met (i - 1) : Nat) else .pointer (tab (i - 257))
def mcells (gf : Nat) (met : Nat → Nat) (tab : Nat → Option Addr) : Array Value := Array.ofFn (n := 513) fun i => mc gf met tab i
theorem mcells_get (gf : Nat) (met : Nat → Nat) (tab : Nat → Option Addr) (i : Nat) (hi : i < 513) : (mcells gf met tab)[i]? = some (mc gf met tab i) := by
 unfold mcells; rw [Array.getElem?_ofFn, dif_pos hi]
theorem mcells_set (gf : Nat) (met met' : Nat → Nat) (tab tab' : Nat → Option Addr) (j : Nat) (v : Value) (hv : ∀ i, i < 513 → mc gf met' tab' i = if i = j then v else mc gf met tab i) : (mcells gf met tab).setIfInBounds j v = mcells gf met' tab' := by
 apply Array.ext
 ·simp [mcells]
 ·intro i h1 h2
  have hi : i < 513 := by simpa [mcells] using h2
  rw [Array.getElem_setIfInBounds (by simpa [mcells] using hi)]
  simp only [mcells, Array.getElem_ofFn]
  rw [hv i hi]
  by_cases h : j = i
  ·rw [if_pos h, if_pos h.symm]
  ·rw [if_neg h, if_neg (fun e => h e.symm)]
def upd {α : Type} (f : Nat → α) (k : Nat) (x : α) (i : Nat) : α := if i = k then x else f i
theorem mcells_met (gf : Nat) (met : Nat → Nat) (tab : Nat → Option Addr) (k x : Nat) (hk : k < 256) : (mcells gf met tab).setIfInBounds (1 + k) (.int .i64 (x : Nat)) = mcells gf (upd met k x) tab :=
 mcells_set _ _ _ _ _ _ _ fun i _ => by
  unfold mc upd
  by_cases e : i = 1 + k
  ·rw [if_pos e, if_neg (by omega), if_pos (by omega), if_pos (by omega)]
  ·rw [if_neg e]
   by_cases e0 : i = 0
   ·rw [if_pos e0, if_pos e0]
   ·rw [if_neg e0, if_neg e0]
    by_cases e1 : i < 257
    ·rw [if_pos e1, if_pos e1, if_neg (by omega)]
    ·rw [if_neg e1, if_neg e1]
theorem mcells_tab (gf : Nat) (met : Nat → Nat) (tab : Nat → Option Addr) (k : Nat) (x : Option Addr) (hk : k < 256) : (mcells gf met tab).setIfInBounds (257 + k) (.pointer x) = mcells gf met (upd tab k x) :=
 mcells_set _ _ _ _ _ _ _ fun i _ => by
  unfold mc upd
  by_cases e : i = 257 + k
  ·rw [if_pos e, if_neg (by omega), if_neg (by omega), if_pos (by omega)]
  ·rw [if_neg e]
   by_cases e0 : i = 0
   ·rw [if_pos e0, if_pos e0]
   ·rw [if_neg e0, if_neg e0]
    by_cases e1 : i < 257
    ·rw [if_pos e1, if_pos e1]
    ·rw [if_neg e1, if_neg e1, if_neg (by omega)]
def tc (f k i : Nat) : Value := .int .u8 ((if i < k then gm i f else 0 : Nat) : Int)
def tcells (f k : Nat) : Array Value := Array.ofFn (n := 256) fun i => tc f k i
theorem tcells_get (f k i : Nat) (hi : i < 256) : (tcells f k)[i]? = some (tc f k i) := by unfold tcells; rw [Array.getElem?_ofFn, dif_pos hi]
theorem tcells_set (f k : Nat) : (tcells f k).setIfInBounds k (.int .u8 (gm k f : Nat)) = tcells f (k + 1) := by
 apply Array.ext
 ·simp [tcells]
 ·intro i h1 h2
  have hi : i < 256 := by simpa [tcells] using h2
  rw [Array.getElem_setIfInBounds (by simpa [tcells] using hi)]
  simp only [tcells, Array.getElem_ofFn]
  unfold tc
  by_cases h : k = i
  ·subst h; rw [if_pos rfl, if_pos (by omega)]
  ·rw [if_neg h]
   by_cases h2 : i < k
   ·rw [if_pos h2, if_pos (by omega)]
   ·rw [if_neg h2, if_neg (by omega)]
theorem zero_table (w : World) : (zeroValue 96).run Tryz.prog w = .ok (.agg (tcells 0 0)) w := by kernel_rfl
theorem tcells_zero (f : Nat) : tcells 0 0 = tcells f 0 := by
 unfold tcells tc; simp
structure MulSt (w : World) (qm gf : Nat) : Prop where
 ex : ∃ met tab, Block w qm 203 (mcells gf met tab) ∧ (∀ f, met f ≤ 1099511627776) ∧ ∀ f, tab f = none ∨ ∃ t, tab f = some ⟨t, 0, none⟩ ∧ Block w t 96 (tcells f 256)
theorem MulSt.lt {w : World} {qm gf : Nat} (h : MulSt w qm gf) : qm < w.heap.size := by obtain ⟨met, tab, h, _⟩ := h.ex; exact h.lt
theorem MulSt.keep {w w' : World} {qm gf : Nat} (h : MulSt w qm gf) (hk : ∀ (k : Nat) (t : TypeId) (cs : Array Value), w.heap[k]? = some (Obj.cells cs t (0, 0)) → t = 203 ∨ t = 96 → w'.heap[k]? = w.heap[k]?) : MulSt w' qm gf := by
 obtain ⟨met, tab, h1, h2, h3⟩ := h.ex
 refine ⟨met, tab, (hk _ _ _ h1 (.inl rfl)).trans h1, h2, fun f => ?_⟩
 rcases h3 f with h | ⟨t, h, hb⟩
 ·exact .inl h
 ·exact .inr ⟨t, h, (hk _ _ _ hb (.inr rfl)).trans hb⟩
theorem MulSt.below {w w' : World} {qm gf : Nat} (h : MulSt w qm gf) (hb : Below w.heap.size w w') : MulSt w' qm gf :=
 h.keep fun _ _ _ hk _ => hb.block _ (Array.getElem?_eq_some_iff.1 hk).1
theorem MulSt.turn {B : Nat} {w w' : World} {qm gf : Nat} (h : MulSt w qm gf) (t : Turn B w w') : MulSt w' qm gf :=
 h.keep fun _ _ _ hk _ => (t.cells _ _ _ _ hk).trans hk.symm
theorem MulSt.past {w w' : World} {qm gf g : Nat} (h : MulSt w qm gf) (hf : Fld w g) (hp : Past w.heap.size g w w') : MulSt w' qm gf :=
 h.keep fun _ t cs hk ht => hp.block _ (Array.getElem?_eq_some_iff.1 hk).1 (fun e => by
  subst e
  exact Fld.ne_block hf hk (by rcases ht with rfl | rfl <;> decide) rfl)
theorem MulSt.store {w : World} {qm gf g B n c : Nat} {xs : List Value} (h : MulSt w qm gf) (ho : Own w B 5 (.slice (some ⟨g, 0, none⟩) n c) xs) (k : Nat) (u : Value) : MulSt (w.setCell ⟨g, k, none⟩ u) qm gf :=
 h.keep fun _ t cs hk ht => Below.heap_setCell _ _ _ _ (fun e => by
  simp only at e
  subst e
  exact own_ne ho hk (by rcases ht with rfl | rfl <;> decide) rfl)
theorem MulSt.field {w : World} {qm gf : Nat} (h : MulSt w qm gf) : w.cell? ⟨qm, 0, none⟩ = some (.pointer (some ⟨gf, 0, none⟩)) := by
 obtain ⟨met, tab, h, _⟩ := h.ex
 rw [h.cell, mcells_get _ _ _ _ (by decide)]; rfl
theorem MulSt.ne_own {w : World} {qm gf g B n c : Nat} {xs : List Value} (h : MulSt w qm gf) (ho : Own w B 5 (.slice (some ⟨g, 0, none⟩) n c) xs) : qm ≠ g := by
 obtain ⟨met, tab, h, _⟩ := h.ex
 rintro rfl
 exact own_ne ho h (by decide) rfl
theorem MulSt.ne_fld {w : World} {qm gf g : Nat} (h : MulSt w qm gf) (hf : Fld w g) : qm ≠ g := by
 obtain ⟨met, tab, h, _⟩ := h.ex
 exact fun e => Fld.ne_block hf h (by decide) e.symm
theorem keeps_but {w w' : World} {S : Nat → Prop} {l : Nat} (h : But w.heap.size S w w') (hS : ∀ k o, S k → w.heap[k]? = some o → o.isCells = true) : KeepsFrom l w w' :=
 ⟨h.size, fun k o _ hk ho => by
  refine (h.block k (Array.getElem?_eq_some_iff.1 hk).1 ?_).trans hk
  intro hs
  rw [hS k o hs hk] at ho
  cases ho⟩
theorem block_isCells {w : World} {k : Nat} {t : TypeId} {cs : Array Value} {o : Obj} (h : Block w k t cs) (ho : w.heap[k]? = some o) : o.isCells = true := by
 unfold Block at h; rw [h] at ho; cases ho; rfl
theorem fld_isCells {w : World} {g : Nat} {o : Obj} (h : Fld w g) (ho : w.heap[g]? = some o) : o.isCells = true := by
 rcases h with h | h <;> exact block_isCells h ho
theorem own_isCells {w : World} {B g n c : Nat} {e : TypeId} {xs : List Value} {o : Obj} (h : Own w B e (.slice (some ⟨g, 0, none⟩) n c) xs) (ho : w.heap[g]? = some o) : o.isCells = true := by
 obtain ⟨cs, hc⟩ := block_of_own h
 rw [hc] at ho; cases ho; rfl
theorem mulst_isCells {w : World} {qm gf : Nat} {o : Obj} (h : MulSt w qm gf) (ho : w.heap[qm]? = some o) : o.isCells = true := by
 obtain ⟨met, tab, h, _⟩ := h.ex
 exact block_isCells h ho
def mulS (qm gf : Nat) (k : Nat) : Prop := k = qm ∨ k = gf
def TabRes (qm gf f : Nat) (w : World) (e : Ending) (w' : World) : Prop :=
 ∃ t, e = .returned (.pointer (some ⟨t, 0, none⟩)) ∧ Block w' t 96 (tcells f 256) ∧ MulSt w' qm gf ∧ Fld w' gf ∧ But w.heap.size (mulS qm gf) w w'
set_option maxRecDepth 100000 in
set_option maxHeartbeats 4000000 in
theorem table_calls (qm gf : Nat) (f : Nat) (hf8 : f < 256) (w : World) (hM : MulSt w qm gf) (hF : Fld w gf) :
  Calls Tryz.prog 172 #[.pointer (some ⟨qm, 0, none⟩), .int .u8 f] w (TabRes qm gf f w) := by
 have hne := hM.ne_fld hF
 have hlt := hM.lt
 have HM := Lib.hid hM
 obtain ⟨met, tab, hb, hmet, htab⟩ := hM.ex
 clear hM
 have hc : w.cell? ⟨qm, 257 + f, none⟩ = some (.pointer (tab f)) := by
  rw [hb.cell, mcells_get _ _ _ _ (by omega)]; unfold mc; rw [if_neg (by omega), if_neg (by omega), show 257 + f - 257 = f by omega]
 rcases htab f with ht | ⟨t, ht, htb⟩
 ·rw [ht] at hc
  have HF := Lib.hid hF
  have HB := Lib.hid hb
  have hz := zero_table
  have hmt := hmet
  have HTab := Lib.hid htab
  have HMet := Lib.hid hmet
  clear hF hb htab hmet hmt ht
  go_enter Tryz.func172, Tryz.ntmps172
  go_wp2
  go_loopw [15] (fun i wr => ∃ k : Nat, k ≤ 256 ∧ i = .int .i64 k ∧ Hid (Block wr w.heap.size 96 (tcells f k)) ∧ Hid (Fld wr gf) ∧ Hid (But w.heap.size (· = gf) w wr)) (fun i _ => 256 - (intOf i).toNat)
  case atStart => exact ⟨0, by omega, rfl, Lib.hid (by rw [← tcells_zero]; exact Block.new _ _ _), Lib.hid (HF.out.alloc _), Lib.hid (But.of_below ((Below.refl _ _).alloc (Nat.le_refl _) _))⟩
  case round =>
   obtain ⟨k, hk, rfl, HT, HFr, HU⟩ := hrel
   have hgf := HF.out.lt
   by_cases hkk : k < 256
   ·have hw8 : IntKind.u8.wrap (k : Int) = (k : Int) := IntWalk.u8_in _ (by omega)
    have hpf := (HU.out.cell ⟨qm, 0, none⟩ hlt hne).trans HM.out.field
    have htf := HT.out.frozen k
    have htc := (HT.out.cell k).trans (tcells_get f k k hkk)
    have hgs := HT.out.lt
    have htn : w.heap.size ≠ gf := by omega
    have hul := HU.out.size
    clear hc
    go_wp2_with fail
    go_region_with (go_at_call 96; refine (mul_calls (some ⟨gf, 0, none⟩) k f hkk hf8 _ (FldP.of (show Fld wr.drew gf from HFr.out))).mono ?_; rintro e w2 ⟨rfl, hF2, hP2⟩; have htf2 := (HT.out.drew.past hP2 hgs htn).frozen k; have htc2 := ((HT.out.drew.past hP2 hgs htn).cell k).trans (tcells_get f k k hkk); have HT2 := Lib.hid ((HT.out.drew.past hP2 hgs htn)); have HF2 := Lib.hid hF2.fld; have HP2 := Lib.hid hP2; clear hF2 hP2 htf htc)
    all_goals
     have HT3 : Hid (Block (w2.setCell ⟨w.heap.size, k, none⟩ (.int .u8 (gm k f : Nat))) w.heap.size 96 (tcells f (k + 1))) := Lib.hid (by rw [← tcells_set]; exact HT2.out.set_ k _)
     have HF3 : Hid (Fld (w2.setCell ⟨w.heap.size, k, none⟩ (.int .u8 (gm k f : Nat))) gf) := Lib.hid (HF2.out.imp (fun h => h.far (Ne.symm htn) _) (fun h => h.far (Ne.symm htn) _))
     have HU3 : Hid (But w.heap.size (· = gf) w (w2.setCell ⟨w.heap.size, k, none⟩ (.int .u8 (gm k f : Nat)))) := Lib.hid ((HU.out.drew.trans (But.of_past (HP2.out.mono hul) rfl)).setCell (p := ⟨w.heap.size, k, none⟩) (.inr (Nat.le_refl _)) _)
     clear htf2 htc2 hw8 hpf
     go_wp2
     go_roundw
     case rel => exact ⟨k + 1, by omega, by go_num, HT3, HF3, HU3⟩
     case measure => simp [intOf]; omega
   ·obtain rfl : k = 256 := by omega
    have hbg := HU.out.blk HB.out hlt hne
    have c1 := (hbg.cell (257 + f)).trans (mcells_get _ _ _ (257 + f) (by omega))
    have f1 := hbg.frozen (257 + f)
    have hbg2 := hbg.set_ (257 + f) (.pointer (some ⟨w.heap.size, 0, none⟩))
    rw [mcells_tab _ _ _ _ _ hf8] at hbg2
    have c2 := (hbg2.cell (257 + f)).trans (mcells_get _ _ _ (257 + f) (by omega))
    have e2 : mc gf met (upd tab f (some ⟨w.heap.size, 0, none⟩)) (257 + f) = .pointer (some ⟨w.heap.size, 0, none⟩) := by
     unfold mc upd; rw [if_neg (by omega), if_neg (by omega), if_pos (by omega)]
    rw [e2] at c2
    have HB2 := Lib.hid hbg2
    have hgne : w.heap.size ≠ qm := by omega
    have HT3 : Hid (Block (wr.setCell ⟨qm, 257 + f, none⟩ (.pointer (some ⟨w.heap.size, 0, none⟩))) w.heap.size 96 (tcells f 256)) := Lib.hid (HT.out.far (by simpa using hgne) _)
    have HF3 : Hid (Fld (wr.setCell ⟨qm, 257 + f, none⟩ (.pointer (some ⟨w.heap.size, 0, none⟩))) gf) := Lib.hid (HFr.out.imp (fun h => h.far (by simpa using Ne.symm hne) _) (fun h => h.far (by simpa using Ne.symm hne) _))
    have HU3 : Hid (But w.heap.size (mulS qm gf) w (wr.setCell ⟨qm, 257 + f, none⟩ (.pointer (some ⟨w.heap.size, 0, none⟩)))) := Lib.hid ((HU.out.mono (Nat.le_refl _) (fun k _ h => .inr h)).setCell (p := ⟨qm, 257 + f, none⟩) (.inl (.inl rfl)) _)
    clear hbg hbg2 e2
    go_wp2
    go_ret
    refine ⟨w.heap.size, rfl, HT3.out, ⟨met, _, HB2.out, HMet.out, fun q => ?_⟩, HF3.out, HU3.out⟩
    unfold upd
    by_cases e : q = f
    ·subst e
     exact .inr ⟨w.heap.size, if_pos rfl, HT3.out⟩
    ·rw [if_neg e]
     rcases HTab.out q with h | ⟨t, h, hb⟩
     ·exact .inl h
     ·refine .inr ⟨t, h, ?_⟩
      have h1 := HU.out.blk hb hb.lt (fun e => Fld.ne_block HF.out hb (by decide) e.symm)
      exact h1.far (by simpa using block_ne hb HB.out (by decide)) _
 ·rw [ht] at hc
  have hb2 := hb
  clear hmet htab ht
  go_enter Tryz.func172, Tryz.ntmps172
  go_wp2
  go_ret
  exact ⟨t, rfl, htb, HM.out, hF, But.refl _ _ _⟩
end Go.Proofs.YtofihklinkpbiaaGreat.Mat
