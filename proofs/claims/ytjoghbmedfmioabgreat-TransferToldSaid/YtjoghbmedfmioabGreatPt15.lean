/- Of the program, joined: ElOpen, PolyCode8. -/
import Derived.Test.YtjoghbmedfmioabGreatPt08
import Derived.Test.YtjoghbmedfmioabGreatPt14
import Derived.SizedLaws
import Derived.Deep.Slices
import Derived.Deep.Fields
import Derived.ChangeSame
namespace Go.Proofs.YtjoghbmedfmioabGreat.Ms
open Go.RowKit Go.ChangeShapes Go.WideShapes Go.Deep F8 Poly
set_option linter.unusedVariables false
set_option linter.unusedSimpArgs false
theorem choose_list {α : Type} {Q : Nat → α → Prop} : ∀ n, (∀ i, i < n → ∃ p, Q i p) → ∃ l : List α, l.length = n ∧ ∀ i p, l[i]? = some p → Q i p
 | 0, _ => ⟨[], rfl, by simp⟩
 | n + 1, h => by
  obtain ⟨l, hl, hq⟩ := choose_list n fun i hi => h i (by omega)
  obtain ⟨p, hp⟩ := h n (by omega)
  refine ⟨l ++ [p], by simp [hl], fun i q hi => ?_⟩
  by_cases hin : i < n
  ·rw [List.getElem?_append_left (by omega)] at hi; exact hq i q hi
  ·have : i < (l ++ [p]).length := (List.getElem?_eq_some_iff.1 hi).1
   obtain rfl : i = n := by simp at this; omega
   rw [List.getElem?_append_right (by omega), hl] at hi
   simp at hi
   subst hi
   exact hp
theorem weights_in {H : Type} {P : Program} {e : TypeId} : ∀ {ds : List (DataW H)} {d : DataW H}, d ∈ ds → ∀ n ∈ d.weights P e, n ∈ DataW.weightsAll P e ds
 | d0 :: ds, d, hd, n, hn => by
  rw [DataW.weightsAll, List.mem_append]
  rcases List.mem_cons.1 hd with rfl | h
  ·exact .inl hn
  ·exact .inr (weights_in h n hn)
theorem bytesOf_sym : Tryz.prog.bytesOf 55 = 32 := by kernel_rfl
theorem bytesOf_u8 : Tryz.prog.bytesOf 5 = 1 := by kernel_rfl
structure Sym0 (W : World) (A : Option Addr) (l : List El) : Prop where
 row : Row W A (cells2 l)
 by_ : ∀ e ∈ l, Bytes W e.A (bs e.s) ∧ e.s.length ≤ e.c
 len : l.length ≤ 140737488355328
 ln : ∀ e ∈ l, e.s.length ≤ 140737488355328
 nd : ∀ e ∈ l, -9223372036854775808 ≤ e.p ∧ e.p < 9223372036854775808
theorem Sym0.below {W V : World} {A : Option Addr} {l : List El} (h : Sym0 W A l) (hb : Below W.heap.size W V) : Sym0 V A l := ⟨h.row.below hb, fun e he => ⟨(h.by_ e he).1.below hb, (h.by_ e he).2⟩, h.len, h.ln, h.nd⟩
theorem Sym0.els {W : World} {A : Option Addr} {l : List El} {g : Nat} (h : Sym0 W A l) (hg : W.heap.size ≤ g) : Els g W A l := ⟨h.row, fun e he => ⟨⟨(h.by_ e he).1, fun hne a q ha hq => by
 cases hq
 have h0 : 0 < (bv (bs e.s)).length := by rw [bvs_length]; exact List.length_pos_iff.2 hne
 obtain ⟨b, off, e1, hc⟩ := (h.by_ e he).1.row 0 _ (List.getElem?_eq_getElem h0)
 rw [ha] at e1
 cases e1
 have : b < W.heap.size := cell_lt hc
 show b ≠ g
 omega⟩, (h.by_ e he).2⟩⟩
section
variable {H : Type} {enc : TypeId × Value → H} {W : World}
theorem bytes_open {fuel : Nat} {v : Value} {d : DataW H} {pl : List MemPlace} {base : Nat} {spare : Nat → Bool} {held : Bool}
  (h : DataW.trod enc Tryz.prog W base spare held fuel 35 [v] = some (d, pl)) (hw : ∀ n ∈ d.weights Tryz.prog 35, n ≤ 140737488351232) :
  ∃ (A : Option Addr) (l : List Nat) (c : Nat), v = .slice A l.length c ∧ Bytes W A l ∧ l.length ≤ 140737488351232 ∧ l.length ≤ c := by
 rcases open_ints Tryz.underlying35 Tryz.underlying5 (by kernel_rfl) h with ⟨hcs, _⟩ | ⟨x, l, c, zs, hcs, _, hl, hm, hz, hd, hcell, hwz⟩
 ·obtain rfl : v = .slice none 0 0 := by simpa using hcs
  exact ⟨none, [], 0, rfl, Bytes.nil _ _, by simp, by simp⟩
 ·obtain rfl : v = .slice (some x) l c := by simpa using hcs
  have hlz : l ≤ zs.length := by rw [hz]; split <;> omega
  have hbl : Bytes W (some x) ((zs.take l).map Int.toNat) ∧ ((zs.take l).map Int.toNat).length = l := by
   have h0 := bytes_of (W := W) (x := x) (len := l) (cap := zs.length) (zs := zs) hlz rfl hcell hwz
   exact h0
  refine ⟨some x, _, c, by rw [hbl.2], hbl.1, ?_, by rw [hbl.2]; exact hl⟩
  rw [hbl.2]
  have hd' : d = .slice (lits .u8 (zs.take l)) (lits .u8 (zs.drop l)) := by rw [Prod.mk.injEq] at hd; exact hd.1
  subst hd'
  have := hw _ (by simp only [DataW.weights, Tryz.underlying35]; exact List.mem_cons_self ..)
  rw [bytesOf_u8] at this
  simp only [lits, List.length_map, List.length_take, List.length_drop] at this
  omega
set_option maxRecDepth 100000 in
theorem open_syms {A : Option Addr} {len cap : Nat} {d : DataW H} {pl : List MemPlace}
  (h : DataW.Trod enc Tryz.prog W 0 (fun _ => true) true 22 (.slice A len cap) d pl) (hw : ∀ n ∈ d.weights Tryz.prog 22, n ≤ 140737488351232) :
  ∃ l : List El, len = l.length ∧ Sym0 W A l := by
 obtain ⟨fuel, hf⟩ := h
 rcases open_slice Tryz.underlying22 hf with ⟨hcs, _⟩ | ⟨a, ln, cp, m, n, D, Pl, hcs, _, hl, hm, hmm, hx, hi⟩
 ·simp [Value.cells] at hcs
  obtain ⟨rfl, rfl, rfl⟩ := hcs
  exact ⟨[], rfl, Row.nil _ _, fun e he => by simp at he, by simp, fun e he => by simp at he, fun e he => by simp at he⟩
 ·simp [Value.cells] at hcs
  obtain ⟨rfl, rfl, rfl⟩ := hcs
  rw [Prod.mk.injEq] at hx
  obtain ⟨rfl, -⟩ := hx
  simp only [if_true] at hmm
  subst hmm
  have hC : Tryz.prog.cellsOf 55 = 2 := by kernel_rfl
  have hQ : ∀ i, i < len → ∃ e : El, (∃ b off, a = ⟨b, off, none⟩ ∧ W.cell? ⟨b, off + i * 2, none⟩ = some (.int .i64 e.p) ∧ W.cell? ⟨b, off + i * 2 + 1, none⟩ = some e.v) ∧ Bytes W e.A (bs e.s) ∧ e.s.length ≤ 140737488351232 ∧ e.s.length ≤ e.c ∧ -9223372036854775808 ≤ e.p ∧ e.p < 9223372036854775808 := by
   intro i hil
   obtain ⟨cs', hc, ht⟩ := hi i (by omega)
   rw [hC] at hc
   obtain ⟨ys, n', hn', hy, hlen, hyl, hfl⟩ := DataW.trod_struct Tryz.underlying55 ht
   obtain ⟨_, hcl, hat⟩ := World.cells?_some hc
   rw [Prod.mk.injEq] at hy
   match cs', hcl, ys, hyl with
   | [c0, c1], _, [y0, y1], _ =>
    have f0 := hfl 0 _ rfl
    have f1 := hfl 1 _ rfl
    have k1 : Tryz.prog.cellsOf 3 = 1 := by kernel_rfl
    have k3 : Tryz.prog.cellsOf 35 = 1 := by kernel_rfl
    simp only [k1, k3, List.drop_zero, List.drop_succ_cons, List.take_succ_cons, List.take_zero, List.getElem?_cons_zero, List.getElem?_cons_succ] at f0 f1
    obtain ⟨z0, e0, -, w0⟩ := DataW.trod_int Tryz.underlying3 f0
    obtain rfl : c0 = .int .i64 z0 := by simpa [k1] using e0
    have b0 := wf_bounds_i64 w0
    have hw2 : ∀ n ∈ y1.1.weights Tryz.prog 35, n ≤ 140737488351232 := by
     intro q hq
     refine hw q ?_
     simp only [DataW.weights, Tryz.underlying22, List.mem_cons, List.mem_append]
     refine .inr (.inl (weights_in (List.mem_map.2 ⟨i, List.mem_range.2 hil, hy.1⟩) q ?_))
     simp only [DataW.weights, Tryz.underlying55, List.map_cons, List.map_nil, DataW.weightsEach, List.mem_append]
     exact .inr (.inl hq)
    obtain ⟨A', l', c', rfl, hb, hl', hlc⟩ := bytes_open (d := y1.1) (pl := y1.2) f1 hw2
    obtain ⟨s, rfl⟩ := F8.of_bytes l' hb.lt
    rw [bs_length] at hl' hlc
    have q0 := hat 0 (by omega)
    have q1 := hat 1 (by omega)
    have hsp2 : a.spot = none := by
     obtain ⟨ds, hd, -⟩ := hi 0 (by omega)
     rw [hC] at hd
     obtain ⟨_, hdl, hdt⟩ := World.cells?_some hd
     have h0 := hdt 0 (by omega)
     rw [List.getElem?_eq_getElem (by omega)] at h0
     have := World.cell?_spot h0
     simpa [Addr.add] using this
    obtain ⟨b, off, spot⟩ := a
    obtain rfl : spot = none := hsp2
    simp only [addr_add] at q0 q1
    rw [bs_length] at q1
    exact ⟨⟨z0, A', s, c'⟩, ⟨b, off, rfl, q0, q1⟩, hb, hl', hlc, b0.1, b0.2⟩
  obtain ⟨l, hll, hq⟩ := choose_list len hQ
  have hlb := hw _ (by simp only [DataW.weights, Tryz.underlying22]; exact List.mem_cons_self ..)
  rw [bytesOf_sym] at hlb
  simp only [List.length_map, List.length_range] at hlb
  refine ⟨l, hll.symm, ⟨fun k u hu => ?_, fun e he => ?_, by omega, fun e he => ?_, fun e he => ?_⟩⟩
  ·have hk : k < l.length * 2 := by have := (List.getElem?_eq_some_iff.1 hu).1; rwa [cells2_length] at this
   obtain ⟨i, hil, hki⟩ : ∃ i, i < l.length ∧ (k = i * 2 ∨ k = i * 2 + 1) := ⟨k / 2, by omega, by omega⟩
   obtain ⟨⟨b, off, rfl, h0, h1⟩, -⟩ := hq i _ (List.getElem?_eq_getElem hil)
   obtain ⟨g0, g1⟩ := cells2_get (List.getElem?_eq_getElem hil)
   rcases hki with rfl | rfl
   ·rw [g0] at hu
    obtain rfl := Option.some.inj hu
    exact ⟨b, off, rfl, h0⟩
   ·rw [g1] at hu
    obtain rfl := Option.some.inj hu
    exact ⟨b, off, rfl, by rw [← Nat.add_assoc]; exact h1⟩
  ·obtain ⟨i, hi2, rfl⟩ := List.getElem_of_mem he
   have h1 := (hq i _ (List.getElem?_eq_getElem hi2)).2
   exact ⟨h1.1, h1.2.2.1⟩
  ·obtain ⟨i, hi2, rfl⟩ := List.getElem_of_mem he
   have h1 := (hq i _ (List.getElem?_eq_getElem hi2)).2
   omega
  ·obtain ⟨i, hi2, rfl⟩ := List.getElem_of_mem he
   have h1 := (hq i _ (List.getElem?_eq_getElem hi2)).2
   exact h1.2.2.2
end
end Go.Proofs.YtjoghbmedfmioabGreat.Ms

namespace Go.Proofs.YtjoghbmedfmioabGreat.Poly
open Go.RowKit Go.Shelf F8 GF
theorem nodup_inj {p : List F8} (hn : p.Nodup) {i j : Nat} (hi : i < p.length) (hj : j < p.length) (e : p[i] = p[j]) : i = j := by
 have h := List.pairwise_iff_getElem.1 hn
 rcases Nat.lt_trichotomy i j with hl | hl | hl
 ·exact absurd e (h i j hi hj hl)
 ·exact hl
 ·exact absurd e.symm (h j i hj hi hl)
theorem others_of {p : List F8} {i : Nat} {x : F8} {u v : List F8} (hn : p.Nodup) (hi : i < p.length) (hx : coef p i = x) (h : DivBy (trim (roots p)) [x, 1] u v) :
  u.length = p.length ∧ eval u x ≠ 0 ∧ ∀ j, j < p.length → j ≠ i → eval u (coef p j) = 0 := by
 have hxp : x ∈ p := by rw [← hx, coef_of_lt hi]; exact List.getElem_mem _
 have hall : ∀ y, eval (trim (roots p)) y = 0 ↔ y ∈ p := fun y => by rw [eval_trim]; exact eval_roots p y
 have hv0 : v = [] := by
  rcases h.rest with ⟨h1, _⟩ | ⟨y, _, hy, h2⟩
  ·exact h1
  ·rw [(hall x).2 hxp] at h2; exact absurd h2.symm hy
 subst hv0
 have heq : Eqv (trim (roots p)) (pmul u [x, 1]) := h.eqv.trans (by rw [padd_nil]; exact Eqv.refl _)
 have hlen : len (pmul u [x, 1]) = p.length + 1 := by rw [← len_congr heq, len_trim, len_roots]
 have hu0 : 0 < len u := by
  rcases Nat.eq_zero_or_pos (len u) with h0 | h0
  ·have := len_zero.2 (pmul_zero_left [x, 1] (len_zero.1 h0)); omega
  ·exact h0
 have hlu : len u = p.length := by
  have := len_pmul hu0 (by rw [len_lin]; omega : 0 < len [x, 1])
  rw [hlen, len_lin] at this
  omega
 have hul : u.length = p.length := by rw [← hlu, ← h.tq, len_trim]; rfl
 have hev : ∀ y, eval (trim (roots p)) y = eval u y * (x + y) := fun y => by rw [eval_congr y heq, eval_pmul, eval_root]
 have hoth : ∀ j, j < p.length → j ≠ i → eval u (coef p j) = 0 := fun j hj hji => by
  have h1 := hev (coef p j)
  rw [(hall _).2 (by rw [coef_of_lt hj]; exact List.getElem_mem _)] at h1
  rcases mul_eq_zero.1 h1.symm with h2 | h2
  ·exact h2
  ·have h3 := add_eq_zero.1 h2
   rw [← hx, coef_of_lt hi, coef_of_lt hj] at h3
   exact absurd (nodup_inj hn hi hj h3) (Ne.symm hji)
 refine ⟨hul, fun h0 => ?_, hoth⟩
 have hz := zero_of_roots p.length u p (bdd_iff.2 (by omega)) rfl hn (fun y hy => by
  obtain ⟨j, hj, e⟩ := List.getElem_of_mem hy
  by_cases e2 : j = i
  ·subst e2
   rw [← e, ← coef_of_lt hj, hx]; exact h0
  ·rw [← e, ← coef_of_lt hj]; exact hoth j hj e2)
 have := len_zero.2 hz
 omega
def Partly (p q s : List F8) (k : Nat) : Prop := ∀ j, j < p.length → eval s (coef p j) = if j < k then coef q j else 0
theorem Partly.step {p q s s' u : List F8} {k : Nat} {x c : F8} (h : Partly p q s k) (hk : k < p.length) (hx : coef p k = x) (hu : eval u x ≠ 0) (ho : ∀ j, j < p.length → j ≠ k → eval u (coef p j) = 0)
  (hc : c = coef q k / eval u x) (hs : Eqv s' (padd s (pmul (mono 0 c) u))) : Partly p q s' (k + 1) := fun j hj => by
 have hm : ∀ y, eval (mono 0 c) y = c := fun y => by show c + y * 0 = c; rw [mul_zero, add_zero]
 rw [eval_congr _ hs, eval_padd, eval_pmul, hm, h j hj]
 by_cases e : j = k
 ·subst e
  rw [if_neg (by omega), if_pos (by omega), hx, hc, div_mul _ hu, zero_add]
 ·rw [ho j hj e, mul_zero, add_zero]
  by_cases e2 : j < k
  ·rw [if_pos e2, if_pos (by omega)]
  ·rw [if_neg e2, if_neg (by omega)]
theorem Partly.all {p q s : List F8} {m : Nat} (h : Partly p q s m) (hp : p.length = m) (hq : q.length = m) (hs : s.length = m) : Thru p q (trim s) :=
 ⟨trim_trim s, (bdd_iff.2 (by rw [len_trim]; have := len_le s; omega)), fun i h1 h2 => by
  have := h i h1
  rw [if_pos (by omega), coef_of_lt h1, coef_of_lt h2] at this
  rw [eval_trim]; exact this⟩
theorem own_but {w w' : World} {B B0 : Nat} {S : Nat → Prop} {e : TypeId} {A : Option Addr} {n c : Nat} {xs : List Value} (h : Own w B e (.slice A n c) xs) (hb : But B0 S w w') (hB : w.heap.size ≤ B0) (hS : ∀ a, A = some a → ¬ S a.block) : Own w' B e (.slice A n c) xs := by
 refine ⟨h.1, ?_⟩
 rcases h.2 with hn | ⟨g, cap, cur, h1, h2, h3, h4⟩
 ·exact .inl hn
 ·refine .inr ⟨g, cap, cur, h1, h2, ?_, h4⟩
  injection h1 with h1
  have hlt : g < w.heap.size := (Array.getElem?_eq_some_iff.1 h3).1
  exact (hb.block g (by omega) (hS ⟨g, 0, none⟩ h1)).trans h3
def ThroughBad (pf : Option Addr) (w : World) (e : Ending) (w' : World) : Prop := PolyResE pf w w' e [] 2
def ThroughRes (pf : Option Addr) (w : World) (p q : List F8) (e : Ending) (w' : World) : Prop := ∃ r, Thru p q r ∧ PolyResE pf w w' e r 0
set_option maxRecDepth 100000 in
set_option maxHeartbeats 2000000 in
theorem through_bad (A B : Option Addr) (p : List F8) (m n c d : Nat) (w : World) (hl : p.length = m) (hb : Bytes w A (bs p)) (hc : m ≤ c) (hm : m ≤ 1000) (pf : Option Addr) (hf : FldP w pf) (hx : m ≠ n ∨ ¬ p.Nodup) :
  Calls Tryz.prog 71 #[.pointer pf, .slice A m c, .slice B n d] w (ThroughBad pf w) := by
 by_cases hmn : m = n
 ·subst hmn
  have hnd : ¬ p.Nodup := hx.resolve_left (by simp)
  have HT : Hid ((!decide p.Nodup) = true) := Lib.hid (by rw [decide_eq_false hnd]; rfl)
  have k1 : ((m : Int) != (m : Int)) = false := by simp
  have k2 : ((m : Int) == (m : Int)) = true := by simp
  clear hx hnd
  go_enter Tryz.func71, Tryz.ntmps71
  go_wp2_with (go_at_call 81; refine (twice_calls A p m c _ hl hb hc (by omega)).mono ?_; rintro e w1 ⟨rfl, hB1⟩; rw [HT.out])
  go_ret2
  exact ⟨none, 0, rfl, Nat.le_refl _, Own.nil _ _ _, hf.below hB1, Past.of_below hB1 _⟩
 ·have k1 : ((m : Int) == (n : Int)) = false := by simp; omega
  have k2 : ((m : Int) != (n : Int)) = true := by simp [bne, k1]
  clear hx
  go_enter Tryz.func71, Tryz.ntmps71
  go_wp2
  go_ret2
  exact ⟨none, 0, rfl, Nat.le_refl _, Own.nil _ _ _, hf, Past.refl _ _ _⟩
set_option maxRecDepth 100000 in
set_option maxHeartbeats 4000000 in
theorem through_pcalls (A B : Option Addr) (p q : List F8) (m c d : Nat) (w : World) (hl : p.length = m) (hl2 : q.length = m) (hb : Bytes w A (bs p)) (hb2 : Bytes w B (bs q)) (hc : m ≤ c) (hm : m ≤ 1000) (pf : Option Addr) (hf : FldP w pf) (hfar : Far pf A p) (hfar2 : Far pf B q) (hnd : p.Nodup) :
  Calls Tryz.prog 71 #[.pointer pf, .slice A m c, .slice B m d] w (ThroughRes pf w p q) := by
 have HT : Hid ((!decide p.Nodup) = false) := Lib.hid (by rw [decide_eq_true hnd]; rfl)
 have k1 : ((m : Int) != (m : Int)) = false := by simp
 have k2 : ((m : Int) == (m : Int)) = true := by simp
 have HB := Lib.hid hb
 have HB2 := Lib.hid hb2
 have HL := Lib.hid hl
 have HL2 := Lib.hid hl2
 have HND := Lib.hid hnd
 clear hb hb2 hl2 hnd
 go_enter Tryz.func71, Tryz.ntmps71
 go_wp2_with (go_at_call 81; refine (twice_calls A p m c _ hl HB.out hc (by omega)).mono ?_; rintro e w1 ⟨rfl, hB1⟩; rw [HT.out])
 have hs1 := hB1.size
 refine (orNew_f pf w _ hf hB1).mono ?_
 rintro e w2 ⟨g, rfl, hg, hF2, hB2⟩
 have hs2 := hB2.size
 have hBw2 := hB1.trans (hB2.mono hs1)
 have hfa := hg.far hs1 hfar HB.out
 have hfb := hg.far hs1 hfar2 HB2.out
 have hfag : Far (some ⟨g, 0, none⟩) A p := fun hp a b ha hb => by cases hb; exact (hfa hp a ha).1
 clear hfar hfar2 hf
 go_wp2_with fail
 refine (roots_pcalls A p m c _ hl (HB.out.below hBw2) (by omega) (some ⟨g, 0, none⟩) (FldP.of hF2) hfag).mono ?_
 rintro e w3 ⟨A3, c3, rfl, hc3, hO3, hF3, hP3⟩
 obtain ⟨al, hal⟩ : ∃ al, trim (roots p) = al := ⟨_, rfl⟩
 rw [hal] at hO3 hc3 ⊢
 have hall : al.length = m + 1 := by rw [← hal, roots_len, hl]
 have HAL := Lib.hid hal
 have HALL := Lib.hid hall
 rw [hall] at hO3 hc3 ⊢
 have hs3 := hP3.size
 have hPw3 : Past w.heap.size g w w3 := (Past.of_below hBw2 g).trans (hP3.mono (by omega))
 obtain ⟨w4, hmk, hO4, hB4⟩ := make_run w3 m (by omega)
 have hO3' := Lib.hid (hO3.below hB4)
 have hF3' := Lib.hid (hF3.fld.below hB4 hF3.fld.lt)
 have hP4 := Lib.hid (hPw3.trans (Past.of_below (hB4.mono (by omega)) g))
 have hlt3 := hF3.fld.lt
 have HO4 := Lib.hid hO4
 have hgs : g < w3.heap.size := hlt3
 have hA3 : ∀ a, A3 = some a → a.block < w3.heap.size := fun a ha => by subst ha; exact (hO3.lt a.block rfl).2
 clear hal hall hl
 go_wp2_with fail
 go_loopw [36] (fun i wr => ∃ (k : Nat) (s : List F8), k ≤ m ∧ i = .int .i64 k ∧ Hid (s.length = m) ∧ Hid (Partly p q s k) ∧ Hid (Own wr w3.heap.size 5 (.slice (some ⟨w3.heap.size, 0, none⟩) m m) (bv (bs s))) ∧ Hid (Own wr w2.heap.size 5 (.slice A3 (m + 1) c3) (bv (bs al))) ∧ Hid (Fld wr g) ∧ Hid (Past w.heap.size g w wr)) (fun i _ => m - (intOf i).toNat)
 case atStart =>
  refine ⟨0, List.replicate m 0, by omega, rfl, Lib.hid (by simp), Lib.hid (fun j hj => ?_), HO4, hO3', hF3', hP4⟩
  rw [if_neg (by omega)]
  refine eval_zero _ ((trim_nil_iff (p := List.replicate m (0 : F8))).1 ?_)
  rw [show List.replicate m (0 : F8) = [] ++ List.replicate m 0 from rfl]; exact trim_zeros m
 case round =>
  obtain ⟨k, s, hk, rfl, HSL, HPA, HS, HAl, HF, HP⟩ := hrel
  by_cases hkk : k < m
  ·have hsz := HP.out.size
   have HBr := bytes_far HB.out (fun hp a ha => (hfa hp a ha).1) HP.out
   have HBr2 := bytes_far HB2.out (fun hp a ha => (hfb hp a ha).1) HP.out
   obtain ⟨b, o, rfl⟩ := where_ HB.out (by have := HL.out; omega)
   obtain ⟨b2, o2, rfl⟩ := where_ HB2.out (by have := HL2.out; omega)
   have hcell := cellAt HBr k (by have := HL.out; omega)
   have hcell2 := cellAt HBr2 k (by have := HL2.out; omega)
   have hb2g := (hfb (by intro e; have := HL2.out; rw [e] at this; simp at this; omega) _ rfl).1
   simp only at hb2g
   obtain ⟨x, hx⟩ : ∃ x, coef p k = x := ⟨_, rfl⟩
   obtain ⟨y, hy⟩ : ∃ y, coef q k = y := ⟨_, rfl⟩
   rw [hx] at hcell
   rw [hy] at hcell2
   have HX := Lib.hid hx
   have HY := Lib.hid hy
   have hF1 : Fld (wr.alloc (.cells #[.int .u8 x.n] 5)) g := HF.out.alloc _
   have hX1 : Bytes (wr.alloc (.cells #[.int .u8 x.n] 5)) (some ⟨wr.heap.size, 0, none⟩) (bs [x]) := ⟨Row.new _ _ _ _, bs_lt _⟩
   have hFX : Far (some ⟨g, 0, none⟩) (some ⟨wr.heap.size, 0, none⟩) [x] := by
    intro _ a b ha hb
    cases ha; cases hb
    have := HF.out.lt
    simp; omega
   clear hx hy HBr HBr2
   go_wp2_with fail
   refine (roots_pcalls (some ⟨wr.heap.size, 0, none⟩) [x] 1 1 _ rfl hX1 (by omega) (some ⟨g, 0, none⟩) (FldP.of hF1) hFX).mono ?_
   rintro e V1 ⟨A4, c4, rfl, hc4, hO4b, hF4b, hP4b⟩
   rw [roots_one] at hO4b hc4 ⊢
   have hP1 : Past wr.heap.size g wr V1 := ((Past.refl _ _ _).alloc (Nat.le_refl _) _).trans (hP4b.mono (by simp))
   have hAl1 := own_keep HAl.out (FldP.of HF.out) hP1
   have hByA : Bytes V1 A3 (bs al) := Own.bytes (by have := hAl1; rwa [← HALL.out] at this)
   have hByX : Bytes V1 A4 (bs [x, 1]) := Own.bytes hO4b
   go_wp2_with fail
   refine (div_pcalls A3 A4 al [x, 1] (m + 1) 2 c3 c4 _ HALL.out rfl hByA hByX hc3 hc4 (by omega) (by omega) (some ⟨g, 0, none⟩) hF4b (far_own hF4b.fld hAl1) (far_own hF4b.fld hO4b) (by rw [len_lin]; omega)).mono ?_
   rintro e V2 ⟨u, v, hdv, A5, c5, B5, d5, rfl, hc5, hd5, hO5, hO5b, hF5, hP5⟩
   have hoth := others_of HND.out (by have := HL.out; omega) HX.out (by rw [HAL.out]; exact hdv)
   obtain ⟨hu1, hu2, hu3⟩ := hoth
   rw [HL.out] at hu1 hu3
   rw [hu1] at hO5 hc5
   have HU1 := Lib.hid hu1
   have HU3 := Lib.hid hu3
   obtain ⟨ev, hev⟩ : ∃ ev, eval u x = ev := ⟨_, rfl⟩
   have HEV := Lib.hid hev
   rw [hev] at hu2
   have HU2 := Lib.hid hu2
   have hP2 : Past wr.heap.size g wr V2 := hP1.trans (hP5.mono hP1.size)
   have hByU : Bytes V2 A5 (bs u) := Own.bytes (by have := hO5; rwa [← hu1] at this)
   have HByU := Lib.hid hByU
   have hFU := far_own hF5.fld hO5
   have hcy := (past_cell hP2 ⟨b2, o2 + k, none⟩ (cell_lt hcell2) (by simpa using hb2g)).trans hcell2
   have HF5 := Lib.hid hF5
   have HO5 := Lib.hid hO5
   have HP2 := Lib.hid hP2
   obtain ⟨fc, hfc⟩ : ∃ fc, y / ev = fc := ⟨_, rfl⟩
   have HFC := Lib.hid hfc
   have hdf : ∀ V, Fld V g → Calls Tryz.prog 85 #[.pointer (some ⟨g, 0, none⟩), .int .u8 y.n, .int .u8 ev.n] V fun e w' => e = .returned (.tuple #[.int .u8 fc.n, .bool true]) ∧ Fld w' g ∧ Past V.heap.size g V w' := fun V hV => by rw [← hfc]; exact div_f g y ev hu2 V hV
   have hat : ∀ V, Bytes V A5 (bs u) → Fld V g → Calls Tryz.prog 72 #[.pointer (some ⟨g, 0, none⟩), .slice A5 m c5, .int .u8 x.n] V (AtRes (some ⟨g, 0, none⟩) ev V) := fun V hB hV => by
    rw [← hev]; exact at_calls A5 u m c5 V hu1 hB (by omega) (some ⟨g, 0, none⟩) (FldP.of hV) hFU x
   rw [hu1]
   clear hu1 hu2 hu3 hev hfc hByU hP2 hO4b hF4b hP4b hAl1 hByA hByX hO5b hd5 hdv hX1 hFX hF1 hO5 hF5 hcell2
   go_wp2_with fail
   go_region_with (first
    | (go_at_call 72; refine (hat _ HByU.out.drew (show Fld V2.drew g from HF5.out.fld)).mono ?_; rintro e V3 ⟨rfl, hF6, hP6⟩; have hcy3 := (past_cell hP6 ⟨b2, o2 + k, none⟩ (cell_lt (show V2.drew.cell? ⟨b2, o2 + k, none⟩ = some _ from hcy)) (by simpa [rb] using hb2g)).trans (show V2.drew.cell? ⟨b2, o2 + k, none⟩ = some _ from hcy); have HP6 := Lib.hid hP6; have HF6 := Lib.hid hF6; clear hP6 hF6)
    | (go_at_call 85; refine (hdf _ HF6.out.fld).mono ?_; rintro e V4 ⟨rfl, hF7, hP7⟩; have HF7 := Lib.hid hF7; have HP7 := Lib.hid hP7; clear hF7 hP7))
   all_goals
    have hP24 : Past V2.heap.size g V2 V4 := (Past.refl V2.heap.size g V2).drew.trans ((show Past V2.heap.size g V2.drew V3 from HP6.out).trans (HP7.out.mono HP6.out.size))
    have hP4r : Past wr.heap.size g wr V4 := HP2.out.trans (hP24.mono HP2.out.size)
    have hS4 := own_keep HS.out (FldP.of HF.out) hP4r
    have hAl4 := own_keep HAl.out (FldP.of HF.out) hP4r
    have hU4 := own_keep HO5.out HF5.out hP24
    have hByU4 : Bytes V4 A5 (bs u) := Own.bytes (by have := hU4; rwa [← HU1.out] at this)
    have hwr := (Own.blk HS.out).2
    have hV1 := hP1.size
    have hVr := hP4r.size
    clear hcy hcy3 hat hdf
    go_wp2_with fail
    refine (addTimes_calls w3.heap.size g w3.heap.size m m 0 m m (some ⟨w3.heap.size, 0, none⟩) A5 s u m c5 fc V4 HF7.out hS4 HSL.out HU1.out (fun _ => rfl) (by rw [HSL.out]; omega) (Nat.le_refl _) hByU4 (fun hp a ha => ⟨by have := own_block hU4 a ha; omega, far_own HF7.out hU4 hp a _ ha rfl⟩) (by omega) (by rw [HSL.out]; omega)).mono ?_
    rintro e V5 ⟨rfl, ⟨s2, g1, g2, g3⟩, hF8, hU5⟩
    rw [HSL.out] at g1
    have G1 := Lib.hid g1
    have G3 := Lib.hid g3
    have HPA2 : Hid (Partly p q s2 (k + 1)) := Lib.hid (HPA.out.step (by have := HL.out; omega) HX.out (by rw [HEV.out]; exact HU2.out) (by rw [HL.out]; exact HU3.out) (by rw [HY.out, HEV.out]; exact HFC.out.symm) g2)
    have HAl5 := Lib.hid (own_but hAl4 hU5 (Nat.le_refl _) (fun a ha => by have h1 := hA3 a ha; have h2 := far_own HF.out HAl.out (by intro e; have := HALL.out; rw [e] at this; simp at this) a _ ha rfl; simp at h2; omega))
    have HF8 := Lib.hid hF8
    have HP8 : Hid (Past w.heap.size g w V5) := Lib.hid ((HP.out.trans (hP4r.mono hsz)).trans ((hU5.mono (S' := (· = g)) (by omega) (fun i hi h => by omega)).past))
    clear g1 g2 g3 hF8 hU5
    go_wp2
    go_roundw
    case rel => exact ⟨k + 1, s2, by omega, by go_num, G1, HPA2, G3, HAl5, HF8, HP8⟩
    case measure => simp [intOf]; omega
  ·obtain rfl : k = m := by omega
   have hthru := Lib.hid (HPA.out.all HL.out HL2.out HSL.out)
   have hby := Lib.hid (Own.bytes (by have := HS.out; rwa [← HSL.out] at this))
   obtain ⟨n3, hn3⟩ : ∃ k, len s = k := ⟨_, rfl⟩
   have HN3 := Lib.hid hn3
   have hsz := HP.out.size
   clear hn3 hkk hk
   go_wp2_with (go_at_call 87; refine (trimmed_calls (some ⟨w3.heap.size, 0, none⟩) s k k _ HSL.out hby.out (Nat.le_refl _) (by omega)).mono ?_; rintro e w5 ⟨A5, rfl, hcut, hB5⟩; rw [HN3.out])
   go_ret2
   have hfin := (hcut.own HSL.out (HS.out.below hB5))
   have hlt : (trim s).length = len s := rfl
   refine ⟨trim s, hthru.out, A5, k, by rw [hlt, HN3.out]; rfl, by have := trim_le s; rw [HSL.out] at this; exact this, ?_, hg.fldP (HF.out.below hB5 HF.out.lt), hg.past hs1 (HP.out.trans (Past.of_below (hB5.mono hsz) g))⟩
   rw [hlt]; exact Own.more hfin (by omega)
theorem spec : Spec where
 trimP A p m c w hl hb hc hm := trim_calls A p m c w hl hb hc (by omega)
 degreeP A p m c w hl hb hc hm := degree_calls A p m c w hl hb hc (by omega)
 mulP A B p q m n c d w hl hl2 hb hb2 hc hd hm hn pf hf hfar hfar2 := mul_pcalls A B p q m n c d w hl hl2 hb hb2 hc hd (by omega) (by omega) pf hf hfar hfar2
 divP_zero A B p q m n c d w hl hl2 hb hb2 hc hd hm hn pf hf hfar hfar2 hz := div_pzero A B q m n c d w hl2 hb2 hd (by omega) pf hf hz
 divP A B p q m n c d w hl hl2 hb hb2 hc hd hm hn pf hf hfar hfar2 hz := div_pcalls A B p q m n c d w hl hl2 hb hb2 hc hd (by omega) (by omega) pf hf hfar hfar2 hz
 atP A p m c w hl hb hc hm pf hf hfar x := at_calls A p m c w hl hb (by omega) pf hf hfar x
 rootsP A p m c w hl hb hc hm pf hf hfar := roots_pcalls A p m c w hl hb hm pf hf hfar
 throughP_bad A B p q m n c d w hl hl2 hb hb2 hc hd hm hn pf hf hfar hfar2 hx := through_bad A B p m n c d w hl hb hc hm pf hf hx
 throughP A B p q m n c d w hl hl2 hb hb2 hc hd hm hn pf hf hfar hfar2 hx hnd := by
  subst hx
  exact through_pcalls A B p q m c d w hl hl2 hb hb2 hc hm pf hf hfar hfar2 hnd
end Go.Proofs.YtjoghbmedfmioabGreat.Poly
