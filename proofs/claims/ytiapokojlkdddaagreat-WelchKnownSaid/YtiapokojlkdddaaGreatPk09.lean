/- Of the program and its document, joined: PolySpec, PolyCode1, PolyMath2. -/
import Derived.Test.YtiapokojlkdddaaGreatPk07
import Derived.Test.YtiapokojlkdddaaGreatPk08
import Derived.Test.YtiapokojlkdddaaGreatPk06
import Derived.Laws.Cover3
import Derived.Test.YtiapokojlkdddaaGreatPk02
/- What the program's calls on polynomials are to do, as one structure: the laws' walks rest on it; it is proved over the code (PolyCode). -/
namespace Go.Proofs.YtiapokojlkdddaaGreat.Poly
open Go.RowKit F8 GF

/-- A call that is given a field has given a list of its own. -/
def PolyRes (pf : Option Addr) (w w' : World) (e : Ending) (r : List F8) : Prop :=
  ∃ A c, e = .returned (.slice A r.length c) ∧ r.length ≤ c ∧ Own w' w.heap.size 5 (.slice A r.length c) (bv (bs r)) ∧ FldP w' pf ∧ Past w.heap.size (rb w pf) w w'
/-- .. two lists and an error's number. -/
def PolyRes2 (pf : Option Addr) (w w' : World) (e : Ending) (q r : List F8) (n : Int) : Prop :=
  ∃ A c B d, e = .returned (.tuple #[.slice A q.length c, .slice B r.length d, .int .i64 n]) ∧ q.length ≤ c ∧ r.length ≤ d ∧ Own w' w.heap.size 5 (.slice A q.length c) (bv (bs q)) ∧ Own w' w.heap.size 5 (.slice B r.length d) (bv (bs r)) ∧ FldP w' pf ∧ Past w.heap.size (rb w pf) w w'
/-- .. a list and an error's number. -/
def PolyResE (pf : Option Addr) (w w' : World) (e : Ending) (r : List F8) (n : Int) : Prop :=
  ∃ A c, e = .returned (.tuple #[.slice A r.length c, .int .i64 n]) ∧ r.length ≤ c ∧ Own w' w.heap.size 5 (.slice A r.length c) (bv (bs r)) ∧ FldP w' pf ∧ Past w.heap.size (rb w pf) w w'

/-- The list doesn't lie in the field. -/
def Far (pf A : Option Addr) (p : List F8) : Prop := p ≠ [] → ∀ a g, A = some a → pf = some g → a.block ≠ g.block

structure Spec : Prop where
  trimP : ∀ (A : Option Addr) (p : List F8) (m c : Nat) (w : World) (_ : p.length = m) (_ : Bytes w A (bs p)) (_ : m ≤ c) (_ : m ≤ 1000),
    Calls Tryz.prog 214 #[.slice A m c] w fun e w' => Res w w' e (trim p)
  degreeP : ∀ (A : Option Addr) (p : List F8) (m c : Nat) (w : World) (_ : p.length = m) (_ : Bytes w A (bs p)) (_ : m ≤ c) (_ : m ≤ 1000),
    Calls Tryz.prog 178 #[.slice A m c] w fun e w' => e = .returned (.int .i64 ((len p : Int) - 1)) ∧ Below w.heap.size w w'
  mulP : ∀ (A B : Option Addr) (p q : List F8) (m n c d : Nat) (w : World) (_ : p.length = m) (_ : q.length = n) (_ : Bytes w A (bs p)) (_ : Bytes w B (bs q)) (_ : m ≤ c) (_ : n ≤ d) (_ : m ≤ 1000) (_ : n ≤ 1000) (pf : Option Addr) (_ : FldP w pf) (_ : Far pf A p) (_ : Far pf B q),
    Calls Tryz.prog 79 #[.pointer pf, .slice A m c, .slice B n d] w fun e w' => PolyRes pf w w' e (trim (pmul p q))
  divP_zero : ∀ (A B : Option Addr) (p q : List F8) (m n c d : Nat) (w : World) (_ : p.length = m) (_ : q.length = n) (_ : Bytes w A (bs p)) (_ : Bytes w B (bs q)) (_ : m ≤ c) (_ : n ≤ d) (_ : m ≤ 1000) (_ : n ≤ 1000) (pf : Option Addr) (_ : FldP w pf) (_ : Far pf A p) (_ : Far pf B q) (_ : trim q = []),
    Calls Tryz.prog 186 #[.pointer pf, .slice A m c, .slice B n d] w fun e w' => PolyRes2 pf w w' e [] [] 30
  divP : ∀ (A B : Option Addr) (p q : List F8) (m n c d : Nat) (w : World) (_ : p.length = m) (_ : q.length = n) (_ : Bytes w A (bs p)) (_ : Bytes w B (bs q)) (_ : m ≤ c) (_ : n ≤ d) (_ : m ≤ 1000) (_ : n ≤ 1000) (pf : Option Addr) (_ : FldP w pf) (_ : Far pf A p) (_ : Far pf B q) (_ : 0 < len q),
    Calls Tryz.prog 186 #[.pointer pf, .slice A m c, .slice B n d] w fun e w' => ∃ u v, DivBy p q u v ∧ PolyRes2 pf w w' e u v 0
  atP : ∀ (A : Option Addr) (p : List F8) (m c : Nat) (w : World) (_ : p.length = m) (_ : Bytes w A (bs p)) (_ : m ≤ c) (_ : m ≤ 1000) (pf : Option Addr) (_ : FldP w pf) (_ : Far pf A p) (x : F8),
    Calls Tryz.prog 73 #[.pointer pf, .slice A m c, .int .u8 x.n] w fun e w' => e = .returned (.int .u8 (eval p x).n) ∧ FldP w' pf ∧ Past w.heap.size (rb w pf) w w'
  rootsP : ∀ (A : Option Addr) (p : List F8) (m c : Nat) (w : World) (_ : p.length = m) (_ : Bytes w A (bs p)) (_ : m ≤ c) (_ : m ≤ 1000) (pf : Option Addr) (_ : FldP w pf) (_ : Far pf A p),
    Calls Tryz.prog 63 #[.pointer pf, .slice A m c] w fun e w' => PolyRes pf w w' e (trim (roots p))
  throughP_bad : ∀ (A B : Option Addr) (p q : List F8) (m n c d : Nat) (w : World) (_ : p.length = m) (_ : q.length = n) (_ : Bytes w A (bs p)) (_ : Bytes w B (bs q)) (_ : m ≤ c) (_ : n ≤ d) (_ : m ≤ 1000) (_ : n ≤ 1000) (pf : Option Addr) (_ : FldP w pf) (_ : Far pf A p) (_ : Far pf B q) (_ : m ≠ n ∨ ¬ p.Nodup),
    Calls Tryz.prog 151 #[.pointer pf, .slice A m c, .slice B n d] w fun e w' => PolyResE pf w w' e [] 2
  throughP : ∀ (A B : Option Addr) (p q : List F8) (m n c d : Nat) (w : World) (_ : p.length = m) (_ : q.length = n) (_ : Bytes w A (bs p)) (_ : Bytes w B (bs q)) (_ : m ≤ c) (_ : n ≤ d) (_ : m ≤ 1000) (_ : n ≤ 1000) (pf : Option Addr) (_ : FldP w pf) (_ : Far pf A p) (_ : Far pf B q) (_ : m = n) (_ : p.Nodup),
    Calls Tryz.prog 151 #[.pointer pf, .slice A m c, .slice B n d] w fun e w' => ∃ r, Thru p q r ∧ PolyResE pf w w' e r 0
end Go.Proofs.YtiapokojlkdddaaGreat.Poly

/- What the program's small calls on lists do: Degree, trimmed, Trim, orNew, twice. -/
namespace Go.Proofs.YtiapokojlkdddaaGreat.Poly
open Go.RowKit Go.Shelf F8 GF
attribute [local go_sem] Oper.semAt_some

set_option maxHeartbeats 1000000 in
theorem downward_calls (A : Option Addr) (m c : Nat) (w : World) :
    Calls Tryz.prog 129 #[.slice A m c] w fun e w' => e = .returned (.func (.func 173) #[] #[.pointer (some ⟨w.heap.size, 0, none⟩)]) ∧ w' = w.alloc (.cells #[.slice A m c] 22) := by
  go_enter Tryz.func129, Tryz.ntmps129
  go_wp2
  go_ret
  exact ⟨rfl, rfl⟩
/-- 's == nil'. -/
theorem eql_nil (a : Option Addr) (l c : Nat) (w : World) : (binOp .eql 22 (.slice a l c) (.slice none 0 0)).run Tryz.prog w = .ok (.bool a.isNone) w := by
  simp only [binOp]
  simp [run_equal_slice_nil w 22 5 a l c Tryz.underlying22]
theorem len_top {p : List F8} {k : Nat} (hx : ¬ coef p k = 0) (h : Bdd p (k + 1)) : len p = k + 1 := by
  have h1 := len_le_of_bdd h
  have h2 : ¬ len p ≤ k := fun e => hx (bdd_iff.2 e k (Nat.le_refl _))
  omega
set_option maxRecDepth 100000 in
set_option maxHeartbeats 2000000 in
theorem degree_calls (A : Option Addr) (p : List F8) (m c : Nat) (w : World) (hl : p.length = m) (hb : Bytes w A (bs p)) (_ : m ≤ c) (hm : m ≤ 1000000) :
    Calls Tryz.prog 178 #[.slice A m c] w fun e w' => e = .returned (.int .i64 ((len p : Int) - 1)) ∧ Below w.heap.size w w' := by
  refine (callsIn_wide (n := 9)).1 (callsIn_of_wp_marks Tryz.func178 rfl trivial ?_ rfl)
  simp only [Tryz.ntmps178, List.size_toArray, List.length_cons, List.length_nil, Nat.reduceAdd, Nat.reduceSub, Array.replicate_succ, Array.replicate_zero, List.push_toArray, List.append_toArray, List.nil_append, List.cons_append]
  refine wpIn_wide.2 ?_
  go_wp2_with (go_at_call 129; refine (downward_calls _ _ _ _).mono ?_; rintro e w' ⟨rfl, rfl⟩)
  obtain ⟨w1, hw1⟩ : ∃ w1, (w.alloc (.cells #[.int .i64 0] 3)).alloc (.cells #[.slice A m c] 22) = w1 := ⟨_, rfl⟩
  have hB1 : Below w.heap.size w w1 := by rw [← hw1]; exact ((Below.refl _ w).alloc (Nat.le_refl _) _).alloc (by simp) _
  have hr1 : Block w1 w.heap.size 3 #[.int .i64 0] := by rw [← hw1]; exact (Block.new w _ _).alloc _
  have hbx1 : Block w1 (w.heap.size + 1) 22 #[.slice A m c] := by
    rw [← hw1]; have := Block.new (w.alloc (.cells #[.int .i64 0] 3)) 22 #[.slice A m c]; rwa [World.size_alloc] at this
  have hb1 : Bytes w1 A (bs p) := hb.below hB1
  have hsz : w1.heap.size = w.heap.size + 2 := by rw [← hw1]; simp
  rw [hw1]
  clear hw1
  refine wpIn_wide.1 (wpIn_down (n := 9) (by omega) (Bn := w.heap.size + 1) (m := m) (c := c) (A := A) hm rfl
    (fun k q W => q = p ∧ Bdd p k ∧ Bytes W A (bs p) ∧ Block W (w.heap.size + 1) 22 #[.slice A m c] ∧ Block W w.heap.size 3 #[.int .i64 0] ∧ Below w.heap.size w W)
    (fun j W => j = .ret ∧ Block W w.heap.size 3 #[.int .i64 ((len p : Int) - 1)] ∧ Below w.heap.size w W)
    (fun k q W W' ⟨h1, h2, h3, h4, h5, h6⟩ ht => ⟨h1, h2, ht.bytes h3, ht.block h4, ht.block h5, h6.trans (ht.below.mono (by omega))⟩)
    (fun j W W' ⟨h1, h2, h3⟩ ht => ⟨h1, ht.block h2, h3.trans (ht.below.mono (by omega))⟩)
    (fun k q W ⟨h1, h2, h3, h4, h5, h6⟩ => ⟨by rw [h1, hl], by rw [h1]; exact h3, h4.cell 0⟩)
    p ⟨rfl, by rw [← hl]; exact bdd_length p, hb1, hbx1, hr1, hB1⟩
    ?a1 ?assign ?body ?done ?stop)
  case assign =>
    intro l k x W K hK
    gi_wp2
    exact hK
  case body =>
    rintro l k q W hk ⟨rfl, h2, h3, h4, h5, h6⟩ hsW
    have hc5 := h5.cell 0
    have hf5 := h5.frozen 0
    by_cases hx : coef q k = 0
    · have hx0 : (((coef q k).n : Int) == 0) = true := by rw [hx]; rfl
      have hx1 : (((coef q k).n : Int) != 0) = false := by rw [hx]; rfl
      gi_wp2
      refine ⟨keeps_below (Below.refl _ _), q, rfl, fun i hi => ?_, h3, h4, h5, h6⟩
      rcases Nat.eq_or_lt_of_le hi with rfl | hi
      · exact hx
      · exact h2 i hi
    · have hx0 : (((coef q k).n : Int) == 0) = false := n_beq0 hx
      have hx1 : (((coef q k).n : Int) != 0) = true := by simp [bne, hx0]
      have hlen : len q = k + 1 := len_top hx h2
      gi_wp2
      exact ⟨(KeepsOthers.setCell _ _ _).from _, rfl, by rw [hlen, show (((k + 1 : Nat) : Int) - 1) = (k : Int) by omega]; exact h5.set_ 0 _, h6.setCell (p := ⟨w.heap.size, 0, none⟩) (Nat.le_refl _) _⟩
  case done =>
    rintro q W ⟨rfl, h2, h3, h4, h5, h6⟩ hD
    have hc5 := h5.cell 0
    have hf5 := h5.frozen 0
    go_wp2
    have hK := (KeepsOthers.setCell W ⟨w.heap.size, 0, none⟩ (.int .i64 (-1))).same _ _ hD rfl
    refine ⟨by simp, .inl ⟨_, _, rfl, run_takeDeferred hK, ?_⟩⟩
    have ht : Turn w.heap.size (W.setCell ⟨w.heap.size, 0, none⟩ (.int .i64 (-1))) _ := Turn.put hK rfl (by omega) (.deferred none)
    have hc6 := ht.cell ((h5.set_ 0 (.int .i64 (-1))).cell 0)
    have hlen : len q = 0 := len_zero.2 (bdd_zero.1 h2)
    refine ⟨.int .i64 (-1), ?_, by rw [hlen]; rfl, (h6.setCell (p := ⟨w.heap.size, 0, none⟩) (Nat.le_refl _) _).trans ht.below⟩
    simp [results, Tryz.results178, go_sem, hc6]
  case stop =>
    rintro j W ⟨rfl, h2, h3⟩ hD
    refine wpIn_wide.2 ?_
    go_wp2
    refine ⟨by simp, .inl ⟨_, _, rfl, run_takeDeferred hD, ?_⟩⟩
    have ht : Turn w.heap.size W _ := Turn.put hD rfl (by omega) (.deferred none)
    have hc6 := ht.cell (h2.cell 0)
    refine ⟨.int .i64 ((len p : Int) - 1), ?_, rfl, h3.trans ht.below⟩
    simp [results, Tryz.results178, go_sem, hc6]

theorem trim_take_len (p : List F8) : trim p = p.take (len p) :=
  trim_take p (len p) (len_le p) (fun i h1 _ => bdd_len p i h1) (by
    rcases Nat.eq_zero_or_pos (len p) with h | h
    · exact .inl h
    · exact .inr (lead h))
/-- What 'trimmed' gives of the slice (A, m, c). -/
structure Cut (A A2 : Option Addr) : Prop where
  same : ∀ b off, A = some ⟨b, off, none⟩ → A2 = A
  nil : A = none → A2 = none
theorem Cut.bytes {A A2 : Option Addr} {p : List F8} {w : World} (h : Cut A A2) (hb : Bytes w A (bs p)) : Bytes w A2 (bs (trim p)) := by
  by_cases h0 : 0 < p.length
  · obtain ⟨b, off, e⟩ := where_ hb h0
    rw [h.same b off e, trim_take_len]
    exact bytes_take hb _
  · have : p = [] := List.eq_nil_of_length_eq_zero (by omega)
    subst this
    exact Bytes.nil _ _
theorem Cut.own {A A2 : Option Addr} {p : List F8} {w : World} {B m c : Nat} {e : TypeId} (h : Cut A A2) (hl : p.length = m) (ho : Own w B e (.slice A m c) (bv (bs p))) : Own w B e (.slice A2 (len p) c) (bv (bs (trim p))) := by
  have hlen : (bv (bs (trim p))).length = len p := by rw [bvs_length]; rfl
  refine ⟨by rw [Nat.mul_one], ?_⟩
  rw [hlen]
  rcases ho.2 with ⟨h1, h2⟩ | ⟨g, cap, cur, h1, h2, h3, h4, h5, h6, h7⟩
  · injection h1 with h1 h3 h4
    subst h1 h3 h4
    have : p = [] := List.eq_nil_of_length_eq_zero hl
    subst this
    rw [h.nil rfl]
    exact .inl ⟨rfl, rfl⟩
  · injection h1 with h1 h8 h9
    subst h1 h9
    rw [h.same g 0 rfl]
    have hle : len p ≤ m := by have := len_le p; omega
    rw [bvs_length, hl] at h7 h4
    refine .inr ⟨g, c, cur, rfl, h2, h3, by omega, h5, h6, ?_⟩
    rw [trim_take_len, show bv (bs (p.take (len p))) = (bv (bs p)).take (len p) by simp [bv, bs, List.map_take], ← h7, List.take_take]
    congr 1
    omega
theorem cut_run (A : Option Addr) (m c n : Nat) (hn : n ≤ m) (hc : m ≤ c) :
    ∃ A2, (∀ w, (Instr.slice 22 (.slice A m c) none (some (.int .i64 (n : Int))) none).run Tryz.prog w = .ok (.slice A2 n c) w) ∧ Cut A A2 := by
  refine ⟨if c = 0 then A else A.map (·.add (0 * 1)), fun w => ?_, fun b off e => ?_, fun e => ?_⟩
  · obtain ⟨i, hi, _, hi2, _⟩ := info_parts info_u8
    simp [Instr.slice, Instr.sliceBounds, Instr.sliceBound, run_underlying Tryz.underlying22, asIntOf, sizeOf, typeInfo, Sem.run_bind, hi]
    intro h; omega
  · subst e
    split
    · rfl
    · simp only [Option.map_some, Nat.zero_mul, addr_add, Nat.add_zero]
  · subst e
    split <;> rfl
set_option maxHeartbeats 1000000 in
/-- 'a[:Degree(a)+1]'. -/
theorem trimmed_calls (A : Option Addr) (p : List F8) (m c : Nat) (w : World) (hl : p.length = m) (hb : Bytes w A (bs p)) (hc : m ≤ c) (hm : m ≤ 1000000) :
    Calls Tryz.prog 133 #[.slice A m c] w fun e w' => ∃ A2, e = .returned (.slice A2 (len p) c) ∧ Cut A A2 ∧ Below w.heap.size w w' := by
  subst hl
  have hle := len_le p
  obtain ⟨A2, hs, hcut⟩ := cut_run A p.length c (len p) hle hc
  obtain ⟨n, hn⟩ : ∃ n, len p = n := ⟨_, rfl⟩
  rw [hn] at hs hle ⊢
  have HN := Lib.hid hn
  clear hn
  go_enter Tryz.func133, Tryz.ntmps133
  go_wp2_with (go_at_call 178; refine (degree_calls _ p _ _ _ rfl hb hc hm).mono ?_; rintro e w' ⟨rfl, hB⟩; rw [HN.out])
  go_ret
  exact ⟨A2, rfl, hcut, hB⟩
/-- A field for nil. -/
def NewRes (pf : Option Addr) (w : World) (e : Ending) (w' : World) : Prop :=
  ∃ g, e = .returned (.pointer (some ⟨g, 0, none⟩)) ∧ (pf = some ⟨g, 0, none⟩ ∧ w = w' ∨ pf = none ∧ g = w.heap.size ∧ w' = w.alloc (.cells (fcells 0 0 0) 112))
theorem orNew_calls (pf : Option Addr) (w : World) (hf : FldP w pf) :
    Calls Tryz.prog 115 #[.pointer pf] w (NewRes pf w) := by
  rcases hf with rfl | ⟨g, rfl, _⟩
  · go_enter Tryz.func115, Tryz.ntmps115
    go_wp2_with (go_at_call 23; refine (new_calls _).mono ?_; rintro e w' ⟨rfl, rfl⟩)
    go_ret
    exact ⟨_, rfl, .inr ⟨rfl, rfl, rfl⟩⟩
  · go_enter Tryz.func115, Tryz.ntmps115
    go_wp2
    go_ret
    exact ⟨_, rfl, .inl ⟨rfl, rfl⟩⟩
set_option maxHeartbeats 1000000 in
theorem clone_calls (A : Option Addr) (p : List F8) (m c : Nat) (w : World) (hl : p.length = m) (hb : Bytes w A (bs p)) (_ : m ≤ c) (hm : m ≤ 1000000) :
    Calls Tryz.prog 92 #[.slice A m c] w fun e w' => Res w w' e p := by
  have HB := Lib.hid hb
  cases A with
  | none =>
    have hnil : ∀ w, (binOp .eql 22 (.slice none m c) (.slice none 0 0)).run Tryz.prog w = .ok (.bool true) w := fun w => eql_nil none m c w
    have h0 : p = [] := by
      rcases p with _ | ⟨x, p⟩
      · rfl
      · obtain ⟨b, off, e⟩ := where_ hb (by simp)
        cases e
    clear hb
    go_enter Tryz.func92, Tryz.ntmps92
    go_wp2
    go_ret
    subst h0
    exact Res.mk (Own.nil _ _ _) (Below.refl _ _)
  | some a =>
    have hnil : ∀ w, (binOp .eql 22 (.slice (some a) m c) (.slice none 0 0)).run Tryz.prog w = .ok (.bool false) w := fun w => eql_nil (some a) m c w
    have hlv := bvs_length p
    rw [hl] at hlv
    have HL := Lib.hid hlv
    clear hb hl hlv
    go_enter Tryz.func92, Tryz.ntmps92
    go_wp2_with (at_builtin; refine wpList_app _ rfl (.tmp 5) (.tmp 6) _ rfl w.heap.size 5 _ 1 Tryz.underlying22 info_u8 rfl (by omega) (.slice (some ⟨w.heap.size, 0, none⟩) 0 0) [] rfl (Own.lit w w.heap.size 5 #[] 0 (Nat.le_refl _) rfl (by decide)) (some a) m c (bv (bs p)) rfl HL.out (HB.out.alloc _).row (bv_one _) (by simp; omega) (by simp) ?_; intro v1 w1 hown1 hg1 _)
    have hbel : Below w.heap.size w w1 := ((Below.refl _ w).alloc (Nat.le_refl _) _).trans ((Own.lit w w.heap.size 5 #[] 0 (Nat.le_refl _) rfl (by decide)).grew (by simp) hg1)
    go_ret
    exact Res.mk (by simpa using hown1) hbel
/-- Which elements have been seen. -/
def seenC (l : List F8) : Array Value := Array.ofFn (n := 256) fun i => .bool (l.any fun x => x.n == i.val)
theorem zero_seen (w : World) : (zeroValue 199).run Tryz.prog w = .ok (.agg (seenC [])) w := by kernel_rfl
theorem seenC_get (l : List F8) (x : F8) : (seenC l)[x.n]? = some (.bool (l.any fun y => y.n == x.n)) := by
  have := x.h
  simp [seenC, this]
theorem seenC_set (l : List F8) (x : F8) : (seenC l).setIfInBounds x.n (.bool true) = seenC (l ++ [x]) := by
  apply Array.ext
  · simp [seenC]
  · intro i h1 h2
    have h3 : i < (seenC l).size := by simpa using h1
    rw [Array.getElem_setIfInBounds h3]
    simp only [seenC, Array.getElem_ofFn, List.any_append, List.any_cons, List.any_nil, Bool.or_false]
    by_cases e : x.n = i
    · simp [e]
    · have : (x.n == i) = false := by simpa using e
      rw [if_neg e, this, Bool.or_false]
theorem any_n (l : List F8) (x : F8) : (l.any fun y => y.n == x.n) = decide (x ∈ l) := by
  rw [Bool.eq_iff_iff]
  simp only [List.any_eq_true, beq_iff_eq, decide_eq_true_eq]
  exact ⟨fun ⟨y, hy, e⟩ => by rw [← F8.n_inj.1 e]; exact hy, fun h => ⟨x, h, rfl⟩⟩
theorem nodup_snoc {l : List F8} {x : F8} : (l ++ [x]).Nodup ↔ l.Nodup ∧ x ∉ l := by
  rw [List.nodup_append]
  constructor
  · rintro ⟨h1, _, h2⟩
    exact ⟨h1, fun hx => h2 x hx x (by simp) rfl⟩
  · rintro ⟨h1, h2⟩
    exact ⟨h1, by simp, fun a ha b hb e => by simp at hb; subst hb; subst e; exact h2 ha⟩
theorem not_nodup_of_take {p : List F8} {k : Nat} (h : ¬ (p.take k).Nodup) : ¬ p.Nodup := fun hp => h (hp.sublist (List.take_sublist _ _))
set_option maxRecDepth 100000 in
set_option maxHeartbeats 1000000 in
/-- Some element is there twice. -/
theorem twice_calls (A : Option Addr) (p : List F8) (m c : Nat) (w : World) (hl : p.length = m) (hb : Bytes w A (bs p)) (_ : m ≤ c) (hm : m ≤ 1000000) :
    Calls Tryz.prog 202 #[.slice A m c] w fun e w' => e = .returned (.bool (!decide p.Nodup)) ∧ Below w.heap.size w w' := by
  have hz := zero_seen
  have HB := Lib.hid hb
  clear hb
  go_enter Tryz.func202, Tryz.ntmps202
  go_wp2
  go_loopw [8] (fun i wr => ∃ k : Nat, k ≤ m ∧ i = .int .i64 k ∧ Hid (Block wr w.heap.size 199 (seenC (p.take k))) ∧ Hid ((p.take k).Nodup) ∧ Below w.heap.size w wr) (fun i _ => m - (intOf i).toNat)
  case atStart => exact ⟨0, by omega, rfl, Lib.hid (Block.new w _ _), Lib.hid (by simp), (Below.refl _ w).alloc (Nat.le_refl _) _⟩
  case round =>
    obtain ⟨k, hk, rfl, HS, HN, HW⟩ := hrel
    by_cases hkk : k < m
    · obtain ⟨b, off, rfl⟩ := where_ HB.out (by omega)
      have hcell := cellAt (HB.out.below HW) k (by omega)
      obtain ⟨x, hx⟩ : ∃ x, coef p k = x := ⟨_, rfl⟩
      rw [hx] at hcell
      have hxb := f8_bounds x
      have ht : p.take (k + 1) = p.take k ++ [x] := by rw [take_succ' p (by omega), ← coef_of_lt (by omega), hx]
      have HT := Lib.hid ht
      have hs := (HS.out.cell x.n).trans (seenC_get _ _)
      rw [any_n] at hs
      have hfz := HS.out.frozen x.n
      clear hx ht
      by_cases hin : x ∈ p.take k
      · rw [decide_eq_true hin] at hs
        have HNO : Hid (decide p.Nodup = false) := Lib.hid (decide_eq_false (not_nodup_of_take (k := k + 1) (by rw [HT.out, nodup_snoc]; exact fun h => h.2 hin)))
        clear hin
        go_wp2
        go_ret
        exact ⟨by rw [HNO.out]; rfl, HW⟩
      · rw [decide_eq_false hin] at hs
        have HN2 : Hid ((p.take (k + 1)).Nodup) := Lib.hid (by rw [HT.out, nodup_snoc]; exact ⟨HN.out, hin⟩)
        have HS2 : Hid (Block (wr.setCell ⟨w.heap.size, x.n, none⟩ (.bool true)) w.heap.size 199 (seenC (p.take (k + 1)))) := Lib.hid (by rw [HT.out, ← seenC_set]; exact HS.out.set_ _ _)
        clear hin
        go_wp2
        go_roundw
        case rel => exact ⟨k + 1, by omega, by go_num, HS2, HN2, HW.setCell (p := ⟨w.heap.size, x.n, none⟩) (Nat.le_refl _) _⟩
        case measure => simp [intOf]; omega
    · obtain rfl : k = m := by omega
      have HY : Hid (decide p.Nodup = true) := Lib.hid (decide_eq_true (by have := HN.out; rwa [List.take_of_length_le (by omega)] at this))
      clear HN hl hkk
      go_wp2
      go_ret
      exact ⟨by rw [HY.out]; rfl, HW⟩
end Go.Proofs.YtiapokojlkdddaaGreat.Poly

/- What follows of division, roots and values. -/
namespace Go.Proofs.YtiapokojlkdddaaGreat.Poly
open F8

theorem len_padd_le (p q : List F8) : len (padd p q) ≤ max (len p) (len q) :=
  len_le_of_bdd (bdd_padd ((bdd_len p).mono (by omega)) ((bdd_len q).mono (by omega)))
theorem DivBy.len_q {a b q r : List F8} (h : DivBy a b q r) : q.length ≤ a.length := by
  have e : Eqv (pmul q b) (padd a r) := fun i => by
    have h1 := h.eqv i
    rw [coef_padd] at h1 ⊢
    rw [h1, add_add_self]
  have hq : q.length = len q := by unfold len; rw [h.tq]
  by_cases h0 : len q = 0
  · omega
  · have h1 := len_pmul (p := q) (q := b) (by omega) (by have := h.lt; omega)
    rw [len_congr e] at h1
    have h2 := len_padd_le a r
    have h3 := len_le a
    have h4 := h.lt
    omega
theorem DivBy.len_r {a b q r : List F8} (h : DivBy a b q r) : r.length < len b := by
  have : r.length = len r := by unfold len; rw [h.tr]
  rw [this]; exact h.lt
theorem DivBy.back {a b q r : List F8} (h : DivBy a b q r) : trim (padd (trim (pmul q b)) r) = trim a :=
  trim_congr ((padd_congr (trim_eqv _) (Eqv.refl _)).trans h.eqv.symm)
theorem DivBy.at_root {a q r : List F8} {x : F8} (h : DivBy a [x, 1] q r) : eval a x = eval r x := by
  rw [eval_congr x h.eqv, eval_padd, eval_pmul, eval_root, add_self, mul_zero, zero_add]
theorem DivBy.rest {a q r : List F8} {x : F8} (h : DivBy a [x, 1] q r) : r = [] ∧ eval a x = 0 ∨ ∃ y, r = [y] ∧ y ≠ 0 ∧ eval a x = y := by
  have h1 := h.len_r
  rw [len_lin] at h1
  have h2 := h.at_root
  cases r with
  | nil => exact .inl ⟨rfl, h2⟩
  | cons y r =>
    cases r with
    | nil =>
      refine .inr ⟨y, rfl, fun e => ?_, ?_⟩
      · have := h.tr
        rw [e, trim_cons_of trim_nil, if_pos rfl] at this
        cases this
      · rw [h2]; show y + x * 0 = y; rw [mul_zero, add_zero]
    | cons z r => simp only [List.length_cons] at h1; omega
theorem roots_one (x : F8) : trim (roots [x]) = [x, 1] := by
  have : trim (roots [x]) = trim [x, 1] := trim_congr (pmul_one [x, 1])
  rw [this]; exact trim_snoc [x] 1 one_ne_zero
theorem roots_more (x : F8) (p : List F8) : trim (roots (x :: p)) = trim (pmul (trim (roots p)) [x, 1]) :=
  trim_congr ((pmul_comm _ _).trans (pmul_congr_left _ (trim_eqv _).symm))
theorem trim_len (p : List F8) : (trim p).length ≤ p.length := len_le p
theorem padd_len (p q : List F8) : (trim (padd p q)).length ≤ max p.length q.length := by have := trim_len (padd p q); rw [padd_length] at this; exact this
theorem pmul_len (p q : List F8) : (trim (pmul p q)).length ≤ p.length + q.length := Nat.le_trans (trim_len _) (pmul_length_le p q)
end Go.Proofs.YtiapokojlkdddaaGreat.Poly
