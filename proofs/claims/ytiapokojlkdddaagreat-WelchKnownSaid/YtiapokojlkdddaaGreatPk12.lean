/- Of the program and its document, joined: Round, PolyCode2, PolySt. -/
import Derived.RangeFuncOwn
import Derived.StillTailTactics
import Derived.OrdersIn
import Derived.OrdersHeld
import Derived.Deep.RegionHeld3
import Derived.RegionTactic
import Derived.Test.YtiapokojlkdddaaGreatRows
import Derived.Test.YtiapokojlkdddaaGreatPk09
import Derived.Laws.CopyOwn
/- A region that draws its order, in a round of a loop over a function: what was shown of it elsewhere serves there. -/
namespace Go.Proofs.YtiapokojlkdddaaGreat.Poly
open Go.RowKit

/-- No operation defers. -/
def noDefer (ops : Array Oper) : Bool := ops.all fun o => match o.op with | .defer _ => false | _ => true
theorem noDefer_spec {ops : Array Oper} (h : noDefer ops = true) {i : Nat} {o : Oper} (ho : ops[i]? = some o) (c : Call) : o.op ≠ .defer c := by
  intro e
  have h1 := (Array.all_eq_true_iff_forall_mem.1 h) o (Array.mem_of_getElem? ho)
  rw [e] at h1
  cases h1
section
variable {P : Program} {ops : Array Oper} {Q : Exit → Act → World → Prop} {md : Region.Mode} {l n : Nat}

theorem rowsIn_round {row : String} {args : Array Value} {w : World} {R : Value → World → Prop} (h : Rows P row args w R) : RowsIn (Fence.wide.inRound l) n P row args w R :=
  fun c cs _ => let ⟨v, w', h1, h2⟩ := h c cs; ⟨v, w', h1, stepsIn_wide.2 h2⟩
theorem callsIn_round {f : FuncId} {args : Array Value} {w : World} {R : Ending → World → Prop} (h : Calls P f args w R) : CallsIn (Fence.wide.inRound l) n P f args w R :=
  (callsIn_wide.2 h : CallsIn Fence.wide n P f args w R)

theorem oper_round {o : Oper} (hnd : ∀ c, o.op ≠ .defer c) {a : Act} {w : World} {K : Act → World → Prop} (h : o.wp P a w K Q) : o.wpIn (Fence.wide.inRound l) n P a w K Q := by
  refine ⟨fun _ _ => trivial, ?_⟩
  rw [Oper.semAt_eq _ _ _ hnd]
  unfold Oper.wp at h
  generalize (execOp a.eval o).run P w = r at *
  cases r with
  | ok x w' =>
    cases x <;> simp only [Oper.upon, Oper.uponIn] at h ⊢ <;>
      first
        | exact h
        | exact ⟨(fun h => by cases h), callsIn_round h⟩
        | exact ⟨(fun h => by cases h), rowsIn_round h⟩
        | exact h.elim
  | halt x w' => cases x <;> simp only [Oper.upon, Oper.uponIn] at h ⊢ <;> exact h

theorem wpAny_round (hnd : noDefer ops = true) (hlo : ¬ LetsOut Q) : ∀ (fuel : Nat) (listed : Array Bool) (a : Act) (w : World), wpAny P md ops Q fuel listed a w → wpAnyIn (Fence.wide.inRound l) n P md ops Q fuel listed a w
  | 0, _, _, _, h => h
  | fuel + 1, listed, a, w, h => by
    refine ⟨h.1, fun i hi => ?_⟩
    have h1 := h.2 i hi
    unfold wpOp at h1
    unfold wpOpIn
    cases ho : ops[i]? with
    | none => simp only [ho] at h1 ⊢; exact wpAny_round hnd hlo fuel _ _ _ h1
    | some o =>
      simp only [ho] at h1 ⊢
      split
      · rename_i hw
        rw [if_pos hw] at h1
        rcases h1 with h1 | ⟨_, h1⟩
        · exact Oper.wpIn_mono (fun a w => wpAny_round hnd hlo fuel _ a w) (oper_round (noDefer_spec hnd ho) h1)
        · exact (hlo h1).elim
      · rename_i hw
        rw [if_neg hw] at h1
        exact ⟨fun _ _ => trivial, wpAny_round hnd hlo fuel _ _ _ h1⟩

theorem wpOp_call {i : Nat} {o : Oper} {K : Act → World → Prop} {a : Act} {w : World} (ho : ops[i]? = some o) (hw : Region.wanted o (yielded ops a.tmps) = true) (h : o.wp P a w K Q) : wpOp P ops Q i K a w := by
  unfold wpOp
  simp only [ho, hw, if_true]
  exact .inl h
theorem region_round {id : Nat} {a : Act} {w : World} (hm : P.follows .mixedOrders = true) (hnd : noDefer ops = true) (hlo : ¬ LetsOut Q)
    (h : wpAny P .any ops Q ops.size (Array.replicate ops.size false) a w.drew) : (Code.region id ops true).wpIn (Fence.wide.inRound l) n P Q a w :=
  wpIn_region_any hm (wpAny_round hnd hlo _ _ _ _ h)
/-- .. by what holds in the worlds that are met. -/
theorem region_round_held {S : World → Prop} {id : Nat} {a : Act} {w : World} (hm : P.follows .mixedOrders = true) (hnd : noDefer ops = true) (hlo : ¬ LetsOut Q) (hS : S w.drew)
    (h : S w.drew → wpAnyH P .any ops Q S ops.size (Array.replicate ops.size false) a w.drew) : (Code.region id ops true).wpIn (Fence.wide.inRound l) n P Q a w :=
  region_round hm hnd hlo (wpAny_of_held _ _ _ _ (h hS))
/-- .. whose last operations alone write. -/
theorem region_round_tail {id : Nat} {a : Act} {w : World} {os : List Oper} (k : Nat) (hm : P.follows .mixedOrders = true) (hB : Region.lexTailB .any os.toArray k = true) (hnd : noDefer os.toArray = true) (hlo : ¬ LetsOut Q)
    (h : wpStill P os.toArray w.drew (fun a' => wpList P os.toArray Q (os.drop k) a' w.drew) (os.take k) a) : (Code.region id os.toArray true).wpIn (Fence.wide.inRound l) n P Q a w := by
  simp only [Region.lexTailB, Bool.and_eq_true, decide_eq_true_eq] at hB
  obtain ⟨⟨⟨⟨hsel, hn⟩, hs⟩, hc⟩, hlex⟩ := hB
  have hn' : k < os.length := by simpa using hn
  have htl : (os.take k).length = k := by simp; omega
  have hdl : (os.drop k).length = os.toArray.size - k := by simp
  have inv0 : HeadInv .any os.toArray k (Array.replicate os.toArray.size false) :=
    ⟨by simp, (fun j oj _ hl => by rw [getD_replicate_false] at hl; cases hl), fun t _ ht => getD_in (by simpa using ht) (getD_replicate_false _ _)⟩
  have H := wpAnyL_lex (md := .any) (g := os.toArray.size - k) hsel hs hc hn (os.take k) 0 _ a (fun j hj => by
    have hj' : j < k := by rw [htl] at hj; exact hj
    simp [hj']) (by simpa using htl) inv0 (by rw [htl]; exact hlex) h
  refine region_round hm hnd hlo ?_
  have := wpAny_of_head (Q' := Q) (g := os.toArray.size - k) (fun listed a' hL => by
    have := wpAny_of_seq (md := .any) (Q' := Q) (os.drop k) k listed a' w.drew (fun j => by simp [List.getElem?_drop]) (by rw [hdl]; exact hL.1) hL.2
    rwa [hdl] at this) _ _ _ H
  rw [htl, show k + (os.toArray.size - k) = os.toArray.size by omega] at this
  exact this
end
end Go.Proofs.YtiapokojlkdddaaGreat.Poly

/- What the program's Trim, Add and At do. -/
namespace Go.Proofs.YtiapokojlkdddaaGreat.Poly
open Go.RowKit Go.Shelf F8 GF
attribute [local go_sem] Oper.semAt_some

set_option maxHeartbeats 1000000 in
theorem trim_calls (A : Option Addr) (p : List F8) (m c : Nat) (w : World) (hl : p.length = m) (hb : Bytes w A (bs p)) (hc : m ≤ c) (hm : m ≤ 5000) :
    Calls Tryz.prog 214 #[.slice A m c] w fun e w' => Res w w' e (trim p) := by
  have HB := Lib.hid hb
  have hle : len p ≤ m := by have := len_le p; omega
  obtain ⟨t, ht⟩ : ∃ t, trim p = t := ⟨_, rfl⟩
  obtain ⟨n, hn⟩ : ∃ n, len p = n := ⟨_, rfl⟩
  have htn : t.length = n := by rw [← ht, ← hn]; rfl
  rw [hn] at hle
  have HT := Lib.hid ht
  have HN := Lib.hid hn
  have HTN := Lib.hid htn
  clear hb ht hn htn
  go_enter Tryz.func214, Tryz.ntmps214
  go_wp2_with (first
    | (go_at_call 133; refine (trimmed_calls A p m c _ hl HB.out hc (by omega)).mono ?_; rintro e w1 ⟨A2, rfl, hcut, hB1⟩; have HB2 := Lib.hid (hcut.bytes (HB.out.below hB1)); rw [HN.out]; rw [HT.out] at HB2)
    | (go_at_call 92; refine (clone_calls A2 t n c _ HTN.out HB2.out (by omega) (by omega)).mono ?_; rintro e w2 ⟨A3, c3, rfl, hc3, hO3, hB3⟩))
  go_ret
  rw [HT.out]
  have hsz := hB1.size
  exact ⟨A3, c3, rfl, hc3, hO3.more hsz, hB1.trans (hB3.mono hsz)⟩

/-- 'copy(s, a)', s one's own and long enough: the law. -/
theorem wpList_copy_bytes {w : World} {ops : Array Oper} {rest : List Oper} {o : Oper} {a : Act} {Q : Exit → Act → World → Prop} (hgd : o.guard = none) (d s : Operand)
    (ho : o.op = .call { callee := .builtin .copy, args := #[d, s], argTypes := #[22, 22] }) (g n dc : Nat) (A : Option Addr) (m c : Nat)
    (hd : a.eval d = .slice (some ⟨g, 0, none⟩) n dc) (hs : a.eval s = .slice A m c) (old p : List F8) (hg : Block w g 5 (bv (bs old)).toArray) (hl : p.length = m) (hb : Bytes w A (bs p)) (hm : m ≤ n) (hn : old.length = n)
    (h : ∀ w', Block w' g 5 (bv (bs (p ++ old.drop m))).toArray → Past w.heap.size g w w' → w'.heap.size = w.heap.size → wpList Tryz.prog ops Q rest (a.put o.dst (goInt m)) w') :
    wpList Tryz.prog ops Q (o :: rest) a w := by
  have hsz1 : (Tryz.prog.info? 5).map (·.size) = some 1 := by kernel_rfl
  by_cases h0 : m = 0
  · subst h0
    have : p = [] := List.eq_nil_of_length_eq_zero hl
    subst this
    refine wpList_copy_nothing hgd d s _ _ ho 5 Tryz.underlying22 hsz1 _ _ n dc 0 c hd hs (by simp) ?_
    exact h w (by simpa using hg) (Past.refl _ _ _) rfl
  · obtain ⟨b, off, rfl⟩ := where_ hb (by omega)
    have hpl : (bv (bs p)).length = m := by rw [bvs_length, hl]
    refine wpList_copy_own hgd d s _ _ ho 5 Tryz.underlying22 hsz1 g 0 n dc ⟨b, off, none⟩ m c hd hs _ _ hg (bv (bs p)) (by rw [hpl]; exact (Nat.min_eq_left hm).symm) ?_ (by simp [bvs_length]; omega) (bv_one _) ?_
    · intro j v hv
      have hj : j < p.length := by have := (List.getElem?_eq_some_iff.1 hv).1; rwa [bvs_length] at this
      obtain ⟨b', off', e, hc⟩ := hb.row j v hv
      simp only [Option.some.injEq, Addr.mk.injEq] at e
      obtain ⟨rfl, rfl, _⟩ := e
      rw [addr_add]; exact hc
    · rw [hpl]
      refine h _ ?_ ⟨rfl, rfl, rfl, by simp [World.setRow], fun k _ hk => setRow_other w g k _ hk⟩ (by simp [World.setRow])
      have := setRow_heap w g (bv (bs old)).toArray (((bv (bs old)).toArray.toList.take 0) ++ (bv (bs p) ++ (bv (bs old)).toArray.toList.drop (0 + m))).toArray _ _ hg
      have e2 : (((bv (bs old)).toArray.toList.take 0) ++ (bv (bs p) ++ (bv (bs old)).toArray.toList.drop (0 + m))) = bv (bs (p ++ old.drop m)) := by
        simp [bv, bs, List.map_drop]
      rw [e2] at this
      rw [e2]
      exact this

theorem Own.block {w : World} {B : Nat} {e : TypeId} {g n : Nat} {xs : List Value} (h : Own w B e (.slice (some ⟨g, 0, none⟩) n n) xs) : Block w g e xs.toArray := by
  rcases h.2 with ⟨h1, _⟩ | ⟨g', cap, cur, h1, h2, h3, h4, h5, h6, h7⟩
  · cases h1
  · injection h1 with h1 h8 h9
    injection h1 with h1
    injection h1 with h1
    subst h1 h9
    have : cur.toList = xs := by rw [← h7, List.take_of_length_le (by simp [h6, ← h8])]
    rw [← this]
    exact h3
theorem Own.of_block {w : World} {B : Nat} {e : TypeId} {g n : Nat} {xs : List Value} (h : Block w g e xs.toArray) (hB : B ≤ g) (hn : xs.length = n) (hm : n ≤ maxLen) : Own w B e (.slice (some ⟨g, 0, none⟩) n n) xs := by
  subst hn
  exact ⟨by simp, .inr ⟨g, xs.length, xs.toArray, rfl, hB, h, Nat.le_refl _, hm, by simp, by simp⟩⟩
theorem coef_pad (p : List F8) (n i : Nat) : coef (p ++ (List.replicate n (0 : F8))) i = coef p i := by
  unfold coef
  rw [List.getD_eq_getElem?_getD, List.getD_eq_getElem?_getD, List.getElem?_append]
  split
  · rfl
  · rename_i h
    rw [List.getElem?_eq_none (l := p) (by omega), List.getElem?_replicate]
    split <;> rfl
/-- The sum, its upper places done. -/
def SumAt (W : World) (g M : Nat) (p q : List F8) (k : Nat) : Prop :=
  ∃ s : List F8, s.length = M ∧ (∀ i, coef s i = coef p i + if k ≤ i then coef q i else 0) ∧ Block W g 5 (bv (bs s)).toArray
theorem SumAt.turn {W W' : World} {B g M k : Nat} {p q : List F8} (h : SumAt W g M p q k) (t : Turn B W W') : SumAt W' g M p q k := by
  obtain ⟨s, h1, h2, h3⟩ := h
  exact ⟨s, h1, h2, t.block h3⟩
theorem coef_set (s : List F8) (k : Nat) (x : F8) (hk : k < s.length) (i : Nat) : coef (s.set k x) i = if i = k then x else coef s i := by
  unfold coef
  rw [List.getD_eq_getElem?_getD, List.getD_eq_getElem?_getD, List.getElem?_set]
  by_cases e : i = k
  · subst e; simp [hk]
  · rw [if_neg (Ne.symm e), if_neg e]
theorem bvs_set (s : List F8) (k : Nat) (x : F8) : (bv (bs s)).toArray.setIfInBounds k (.int .u8 (x.n : Int)) = (bv (bs (s.set k x))).toArray := by
  simp [bv, bs, List.map_set]
theorem bvs_get (s : List F8) (k : Nat) (hk : k < s.length) : (bv (bs s)).toArray[k]? = some (.int .u8 ((coef s k).n : Int)) := by
  rw [coef_of_lt hk]
  simp [bv, bs, hk]

theorem add_still (x y : F8) (w : World) : Calls Tryz.prog 44 #[.int .u8 x.n, .int .u8 y.n] w fun e w' => e = .returned (.int .u8 (x + y).n) ∧ w' = w :=
  (add_calls x.n y.n x.h y.h w).mono fun _ _ ⟨h1, h2⟩ => ⟨h1, h2.symm⟩
end Go.Proofs.YtiapokojlkdddaaGreat.Poly

/- A law's field and lists, kept over its calls. -/
namespace Go.Proofs.YtiapokojlkdddaaGreat.Poly
open Go.RowKit F8 GF

/-- Behind w0: a field at g; lists that lie elsewhere. -/
structure W (w0 : World) (g : Nat) (ls : List (Option Addr × List F8)) (w : World) : Prop where
  st : St w0.heap.size w0 [g] w
  ls : ∀ x ∈ ls, Bytes w x.1 (bs x.2) ∧ (x.2 ≠ [] → ∀ a, x.1 = some a → a.block ≠ g)
section
variable {w0 w w' : World} {g : Nat} {ls : List (Option Addr × List F8)} {A B : Option Addr} {p q : List F8}
theorem bytes_far (h : Bytes w A (bs p)) (hg : p ≠ [] → ∀ a, A = some a → a.block ≠ g) (hp : Past w.heap.size g w w') : Bytes w' A (bs p) := by
  refine ⟨fun k u hu => ?_, bs_lt p⟩
  obtain ⟨b, off, rfl, hc⟩ := h.row k u hu
  refine ⟨b, off, rfl, ?_⟩
  rw [← hc]
  exact World.cell?_of_block (hp.block b (cell_lt hc) (hg (by rintro rfl; simp [bs, bv] at hu) _ rfl))
theorem own_block {B0 : Nat} {e : TypeId} {xs : List Value} {n c : Nat} (h : Own w B0 e (.slice A n c) xs) : ∀ a, A = some a → B0 ≤ a.block := by
  intro a ha
  rcases h.2 with ⟨h1, _⟩ | ⟨b, cap, cur, h1, h2, _⟩
  · injection h1 with h1; rw [h1] at ha; cases ha
  · injection h1 with h1; rw [h1] at ha; cases ha; exact h2
theorem W.fld (h : W w0 g ls w) : FldP w (some ⟨g, 0, none⟩) := FldP.of (h.st.fld g (by simp)).1
theorem W.glt (h : W w0 g ls w) : g < w.heap.size := (h.st.fld g (by simp)).1.lt
theorem W.bytes (h : W w0 g ls w) (hx : (A, p) ∈ ls) : Bytes w A (bs p) := (h.ls _ hx).1
theorem W.far (h : W w0 g ls w) (hx : (A, p) ∈ ls) : Far (some ⟨g, 0, none⟩) A p := fun hp a b ha hb => by cases hb; exact (h.ls _ hx).2 hp a ha
theorem W.past (h : W w0 g ls w) (h1 : FldP w' (some ⟨g, 0, none⟩)) (h2 : Past w.heap.size g w w') : W w0 g ls w' :=
  ⟨h.st.go (Rc.of (by simp)) h1 h2, fun x hx => ⟨bytes_far (h.ls x hx).1 (h.ls x hx).2 h2, (h.ls x hx).2⟩⟩
theorem W.below (h : W w0 g ls w) (hb : Below w.heap.size w w') : W w0 g ls w' :=
  ⟨h.st.below hb, fun x hx => ⟨(h.ls x hx).1.below hb, (h.ls x hx).2⟩⟩
theorem W.drewN (h : W w0 g ls w) (n : Nat) : W w0 g ls (w.drewN n) := h.below (Below.drewN' (Below.refl _ _) n)
theorem W.alloc (h : W w0 g ls w) (o : Obj) : W w0 g ls (w.alloc o) := h.below ((Below.refl _ _).alloc (Nat.le_refl _) o)
theorem W.cons (h : W w0 g ls w) (hb : Bytes w A (bs p)) (hg : p ≠ [] → ∀ a, A = some a → a.block ≠ g) : W w0 g ((A, p) :: ls) w :=
  ⟨h.st, fun x hx => by rcases List.mem_cons.1 hx with rfl | hx; exact ⟨hb, hg⟩; exact h.ls x hx⟩
theorem W.own {B0 : Nat} {e : TypeId} {c : Nat} (h : W w0 g ls w) (ho : Own w B0 e (.slice A p.length c) (bv (bs p))) (hB : g < B0) : W w0 g ((A, p) :: ls) w :=
  h.cons (Own.bytes ho) (fun _ a ha => by have := own_block ho a ha; omega)
theorem W.sub {ls' : List (Option Addr × List F8)} (h : W w0 g ls w) (hs : ∀ x ∈ ls', x ∈ ls) : W w0 g ls' w := ⟨h.st, fun x hx => h.ls x (hs x hx)⟩
theorem W.bel (h : W w0 g ls w) : Below w0.heap.size w0 w := h.st.bel
/-- A list that was there at the start. -/
theorem W.arg (h : W w0 g ls w) (hb : Bytes w0 A (bs p)) : W w0 g ((A, p) :: ls) w :=
  h.cons (hb.below h.bel) (fun hp a ha => by
    obtain ⟨b, off, e⟩ := where_ hb (List.length_pos_iff.2 hp)
    rw [ha] at e; cases e
    obtain ⟨b', off', e', hc⟩ := cellF hb 0 (List.length_pos_iff.2 hp)
    rw [ha] at e'; cases e'
    have := cell_lt hc
    have := (h.st.fld g (by simp)).2
    simp at *; omega)
theorem W.start (h : St w0.heap.size w0 [g] w) : W w0 g [] w := ⟨h, by simp⟩
end
theorem own_ne {w : World} {g B : Nat} {e t : TypeId} {v : Value} {xs : List Value} {cs : Array Value} (h : Own w B e v xs) (hb : Block w g t cs) (hne : e ≠ t) : v.ownBlock ≠ some g := by
  rcases h.2 with ⟨rfl, _⟩ | ⟨b, cap, cur, rfl, _, hh, _⟩
  · simp [Value.ownBlock]
  · intro e1
    obtain rfl : b = g := by simpa [Value.ownBlock] using e1
    unfold Block at hb
    rw [hh] at hb
    simp only [Option.some.injEq, Obj.cells.injEq] at hb
    exact hne hb.2.1
/-- A row of bytes of the call's own, over a call that turns a field. -/
theorem own_keep {w w' : World} {g B : Nat} {v : Value} {xs : List Value} (h : Own w B 5 v xs) (hf : FldP w (some ⟨g, 0, none⟩)) (hp : Past w.heap.size g w w') : Own w' B 5 v xs := by
  refine h.grown (row := some g) ⟨hp.os, hp.tape, hp.output, hp.size, fun k hk hn => hp.block k hk (fun e => hn (by rw [e]))⟩ (.inr ?_)
  rcases hf.fld with hb | hb
  · exact own_ne h hb (by decide)
  · exact own_ne h hb (by decide)
theorem _root_.Go.Proofs.YtiapokojlkdddaaGreat.GF.Fld.kept_grown {w w' : World} {g B : Nat} {row : Option Nat} (h : Fld w g) (hw : w.grownBy w' row) (hg : g < B) (hr : ∀ k, row = some k → B ≤ k) : Fld w' g :=
  have e := hw.block g h.lt (fun e => by have := hr g e.symm; omega)
  h.imp (fun h => e.trans h) (fun h => e.trans h)
/-- A list more, and all else as it was. -/
def More (w0 : World) (g : Nat) (ls : List (Option Addr × List F8)) (r : List F8) (e : Ending) (w' : World) : Prop :=
  ∃ A c, e = .returned (.slice A r.length c) ∧ r.length ≤ c ∧ W w0 g ((A, r) :: ls) w'
/-- Two lists more and an error's number. -/
def More2 (w0 : World) (g : Nat) (ls : List (Option Addr × List F8)) (u v : List F8) (k : Int) (e : Ending) (w' : World) : Prop :=
  ∃ A c B d, e = .returned (.tuple #[.slice A u.length c, .slice B v.length d, .int .i64 k]) ∧ u.length ≤ c ∧ v.length ≤ d ∧ W w0 g ((A, u) :: (B, v) :: ls) w'
/-- A list more and an error's number. -/
def MoreE (w0 : World) (g : Nat) (ls : List (Option Addr × List F8)) (r : List F8) (k : Int) (e : Ending) (w' : World) : Prop :=
  ∃ A c, e = .returned (.tuple #[.slice A r.length c, .int .i64 k]) ∧ r.length ≤ c ∧ W w0 g ((A, r) :: ls) w'
section
variable {w0 w w' : World} {g : Nat} {ls : List (Option Addr × List F8)} {r u v : List F8} {e : Ending} {k : Int}
theorem More.of_res (h : W w0 g ls w) (hr : Res w w' e r) : More w0 g ls r e w' := by
  obtain ⟨A, c, h1, h2, h3, h4⟩ := hr
  exact ⟨A, c, h1, h2, (h.below h4).own h3 h.glt⟩
theorem More.of_poly (h : W w0 g ls w) (hr : PolyRes (some ⟨g, 0, none⟩) w w' e r) : More w0 g ls r e w' := by
  obtain ⟨A, c, h1, h2, h3, h4, h5⟩ := hr
  exact ⟨A, c, h1, h2, (h.past h4 h5).own h3 h.glt⟩
theorem More2.of_poly (h : W w0 g ls w) (hr : PolyRes2 (some ⟨g, 0, none⟩) w w' e u v k) : More2 w0 g ls u v k e w' := by
  obtain ⟨A, c, B, d, h1, h2, h2', h3, h3', h4, h5⟩ := hr
  exact ⟨A, c, B, d, h1, h2, h2', ((h.past h4 h5).own h3' h.glt).own h3 h.glt⟩
theorem MoreE.of_poly (h : W w0 g ls w) (hr : PolyResE (some ⟨g, 0, none⟩) w w' e r k) : MoreE w0 g ls r k e w' := by
  obtain ⟨A, c, h1, h2, h3, h4, h5⟩ := hr
  exact ⟨A, c, h1, h2, (h.past h4 h5).own h3 h.glt⟩
end
theorem trimW (S : Spec) {w0 : World} {g : Nat} {ls : List (Option Addr × List F8)} (A : Option Addr) (p : List F8) (m c : Nat) (w : World) (h : W w0 g ls w) (ha : (A, p) ∈ ls) (hm : p.length = m) (hc : m ≤ c) (hl : m ≤ 1000) (r : List F8) (hr : trim p = r) : Calls Tryz.prog 214 #[.slice A m c] w fun e w' => More w0 g ls r e w' :=
  hr ▸ (S.trimP A p m c w hm (h.bytes ha) hc hl).mono fun _ _ hx => More.of_res h hx
theorem degreeW (S : Spec) {w0 : World} {g : Nat} {ls : List (Option Addr × List F8)} (A : Option Addr) (p : List F8) (m c : Nat) (w : World) (h : W w0 g ls w) (ha : (A, p) ∈ ls) (hm : p.length = m) (hc : m ≤ c) (hl : m ≤ 1000) (k : Int) (hk : (len p : Int) - 1 = k) : Calls Tryz.prog 178 #[.slice A m c] w fun e w' => e = .returned (.int .i64 k) ∧ W w0 g ls w' :=
  hk ▸ (S.degreeP A p m c w hm (h.bytes ha) hc hl).mono fun _ _ ⟨h1, h2⟩ => ⟨h1, h.below h2⟩
theorem atW (S : Spec) {w0 : World} {g : Nat} {ls : List (Option Addr × List F8)} (A : Option Addr) (p : List F8) (m c : Nat) (w : World) (h : W w0 g ls w) (ha : (A, p) ∈ ls) (hm : p.length = m) (hc : m ≤ c) (hl : m ≤ 1000) (x y : F8) (hy : eval p x = y) : Calls Tryz.prog 73 #[.pointer (some ⟨g, 0, none⟩), .slice A m c, .int .u8 x.n] w fun e w' => e = .returned (.int .u8 y.n) ∧ W w0 g ls w' :=
  hy ▸ (S.atP A p m c w hm (h.bytes ha) hc hl _ h.fld (h.far ha) x).mono fun _ _ ⟨h1, h2, h3⟩ => ⟨h1, h.past h2 h3⟩
theorem rootsW (S : Spec) {w0 : World} {g : Nat} {ls : List (Option Addr × List F8)} (A : Option Addr) (p : List F8) (m c : Nat) (w : World) (h : W w0 g ls w) (ha : (A, p) ∈ ls) (hm : p.length = m) (hc : m ≤ c) (hl : m ≤ 1000) (r : List F8) (hr : trim (roots p) = r) : Calls Tryz.prog 63 #[.pointer (some ⟨g, 0, none⟩), .slice A m c] w fun e w' => More w0 g ls r e w' :=
  hr ▸ (S.rootsP A p m c w hm (h.bytes ha) hc hl _ h.fld (h.far ha)).mono fun _ _ hx => More.of_poly h hx
theorem mulW (S : Spec) {w0 : World} {g : Nat} {ls : List (Option Addr × List F8)} (A B : Option Addr) (p q : List F8) (m n c d : Nat) (w : World) (h : W w0 g ls w) (ha : (A, p) ∈ ls) (hb : (B, q) ∈ ls) (hm : p.length = m) (hn : q.length = n) (hc : m ≤ c) (hd : n ≤ d) (hl : m ≤ 1000) (hl2 : n ≤ 1000) (r : List F8) (hr : trim (pmul p q) = r) : Calls Tryz.prog 79 #[.pointer (some ⟨g, 0, none⟩), .slice A m c, .slice B n d] w fun e w' => More w0 g ls r e w' :=
  hr ▸ (S.mulP A B p q m n c d w hm hn (h.bytes ha) (h.bytes hb) hc hd hl hl2 _ h.fld (h.far ha) (h.far hb)).mono fun _ _ hx => More.of_poly h hx
theorem divW_zero (S : Spec) {w0 : World} {g : Nat} {ls : List (Option Addr × List F8)} (A B : Option Addr) (p q : List F8) (m n c d : Nat) (w : World) (h : W w0 g ls w) (ha : (A, p) ∈ ls) (hb : (B, q) ∈ ls) (hm : p.length = m) (hn : q.length = n) (hc : m ≤ c) (hd : n ≤ d) (hl : m ≤ 1000) (hl2 : n ≤ 1000) (hz : trim q = []) : Calls Tryz.prog 186 #[.pointer (some ⟨g, 0, none⟩), .slice A m c, .slice B n d] w fun e w' => More2 w0 g ls [] [] 30 e w' :=
  (S.divP_zero A B p q m n c d w hm hn (h.bytes ha) (h.bytes hb) hc hd hl hl2 _ h.fld (h.far ha) (h.far hb) hz).mono fun _ _ hx => More2.of_poly h hx
theorem divW (S : Spec) {w0 : World} {g : Nat} {ls : List (Option Addr × List F8)} (A B : Option Addr) (p q : List F8) (m n c d : Nat) (w : World) (h : W w0 g ls w) (ha : (A, p) ∈ ls) (hb : (B, q) ∈ ls) (hm : p.length = m) (hn : q.length = n) (hc : m ≤ c) (hd : n ≤ d) (hl : m ≤ 1000) (hl2 : n ≤ 1000) (hz : 0 < len q) : Calls Tryz.prog 186 #[.pointer (some ⟨g, 0, none⟩), .slice A m c, .slice B n d] w fun e w' => ∃ u v, DivBy p q u v ∧ More2 w0 g ls u v 0 e w' :=
  (S.divP A B p q m n c d w hm hn (h.bytes ha) (h.bytes hb) hc hd hl hl2 _ h.fld (h.far ha) (h.far hb) hz).mono fun _ _ ⟨u, v, hx, hy⟩ => ⟨u, v, hx, More2.of_poly h hy⟩
theorem throughW_bad (S : Spec) {w0 : World} {g : Nat} {ls : List (Option Addr × List F8)} (A B : Option Addr) (p q : List F8) (m n c d : Nat) (w : World) (h : W w0 g ls w) (ha : (A, p) ∈ ls) (hb : (B, q) ∈ ls) (hm : p.length = m) (hn : q.length = n) (hc : m ≤ c) (hd : n ≤ d) (hl : m ≤ 1000) (hl2 : n ≤ 1000) (hx : m ≠ n ∨ ¬ p.Nodup) : Calls Tryz.prog 151 #[.pointer (some ⟨g, 0, none⟩), .slice A m c, .slice B n d] w fun e w' => MoreE w0 g ls [] 2 e w' :=
  (S.throughP_bad A B p q m n c d w hm hn (h.bytes ha) (h.bytes hb) hc hd hl hl2 _ h.fld (h.far ha) (h.far hb) hx).mono fun _ _ hx => MoreE.of_poly h hx
theorem throughW (S : Spec) {w0 : World} {g : Nat} {ls : List (Option Addr × List F8)} (A B : Option Addr) (p q : List F8) (m n c d : Nat) (w : World) (h : W w0 g ls w) (ha : (A, p) ∈ ls) (hb : (B, q) ∈ ls) (hm : p.length = m) (hn : q.length = n) (hc : m ≤ c) (hd : n ≤ d) (hl : m ≤ 1000) (hl2 : n ≤ 1000) (hx : m = n) (hnd : p.Nodup) : Calls Tryz.prog 151 #[.pointer (some ⟨g, 0, none⟩), .slice A m c, .slice B n d] w fun e w' => ∃ r, Thru p q r ∧ MoreE w0 g ls r 0 e w' :=
  (S.throughP A B p q m n c d w hm hn (h.bytes ha) (h.bytes hb) hc hd hl hl2 _ h.fld (h.far ha) (h.far hb) hx hnd).mono fun _ _ ⟨r, hx, hy⟩ => ⟨r, hx, MoreE.of_poly h hy⟩
theorem sameW {w0 : World} {g : Nat} {ls : List (Option Addr × List F8)} (A B : Option Addr) (p q : List F8) (m n c d : Nat) (w : World) (h : W w0 g ls w) (ha : (A, p) ∈ ls) (hb : (B, q) ∈ ls) (hm : p.length = m) (hn : q.length = n) (s : Bool) (hs : decide (p = q) = s) : Calls Tryz.prog 33 #[.slice A m c, .slice B n d] w fun e w' => e = .returned (.bool s) ∧ w = w' :=
  hs ▸ same_calls A B p q m n c d w hm hn (h.bytes ha) (h.bytes hb)
/-- The field's own calls. -/
theorem fmulW {w0 : World} {g : Nat} {ls : List (Option Addr × List F8)} (w : World) (h : W w0 g ls w) (a b r : F8) (hr : a * b = r) :
    Calls Tryz.prog 114 #[.pointer (some ⟨g, 0, none⟩), .int .u8 a.n, .int .u8 b.n] w fun e w' => e = .returned (.int .u8 r.n) ∧ W w0 g ls w' :=
  hr ▸ (mul_calls _ a.n b.n a.h b.h w h.fld).mono fun _ _ ⟨h1, h2, h3⟩ => ⟨h1, h.past h2 h3⟩
theorem faddW (a b r : F8) (hr : a + b = r) (w : World) : Calls Tryz.prog 44 #[.int .u8 a.n, .int .u8 b.n] w fun e w' => e = .returned (.int .u8 r.n) ∧ w = w' :=
  hr ▸ add_calls a.n b.n a.h b.h w
end Go.Proofs.YtiapokojlkdddaaGreat.Poly
