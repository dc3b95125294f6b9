/- Of the program, joined: MatCode2, MatMul1, MatMul2, MatFind, MatRedMath, MatMul3, MatMulP, MatReduce, MatPowers, MsCode1. -/
import Derived.Test.YtjoghbmedfmioabPc07
import Derived.Test.YtjoghbmedfmioabPc06
import Derived.Deep.QuietTactic
import Derived.BigQuiet
import Derived.Deep.WholeRow
import Derived.StillTailTactics
import Derived.Deep.RegionHeld3
import Derived.BigRegion
namespace Go.Proofs.Ytjoghbmedfmioab.Mat
open Go.RowKit Go.Shelf F8 Poly GF
attribute [local go_sem] Oper.semAt_some
def set3 (w : World) (g : Nat) (x y z : Value) : World := ((w.setCell ⟨g, 0, none⟩ x).setCell ⟨g, 1, none⟩ y).setCell ⟨g, 2, none⟩ z
theorem set3_size (w : World) (g : Nat) (x y z : Value) : (set3 w g x y z).heap.size = w.heap.size := by simp [set3, World.setCell]
theorem own_set3 {w : World} {B g : Nat} {e : TypeId} {v : Value} {xs : List Value} (h : Own w B e v xs) (hv : v.ownBlock ≠ some g) (x y z : Value) : Own (set3 w g x y z) B e v xs :=
 ((h.far (p := ⟨g, 0, none⟩) hv x).far (p := ⟨g, 1, none⟩) hv y).far (p := ⟨g, 2, none⟩) hv z
theorem below_set3 {B g : Nat} {a w : World} (h : Below B a w) (hg : B ≤ g) (x y z : Value) : Below B a (set3 w g x y z) :=
 ((h.setCell (p := ⟨g, 0, none⟩) hg x).setCell (p := ⟨g, 1, none⟩) hg y).setCell (p := ⟨g, 2, none⟩) hg z
theorem past_set3 {B g k : Nat} {a w : World} (h : Past B k a w) (hg : g = k ∨ B ≤ g) (x y z : Value) : Past B k a (set3 w g x y z) :=
 ((h.setCell (p := ⟨g, 0, none⟩) hg x).setCell (p := ⟨g, 1, none⟩) hg y).setCell (p := ⟨g, 2, none⟩) hg z
theorem block_set3 {w : World} {g k : Nat} {t : TypeId} {cs : Array Value} (h : Block w k t cs) (hk : k ≠ g) (x y z : Value) : Block (set3 w g x y z) k t cs :=
 ((h.far (p := ⟨g, 0, none⟩) hk x).far (p := ⟨g, 1, none⟩) hk y).far (p := ⟨g, 2, none⟩) hk z
theorem fld_set3 {w : World} {g k : Nat} (h : Fld w k) (hk : k ≠ g) (x y z : Value) : Fld (set3 w g x y z) k := h.imp (fun h => block_set3 h hk x y z) (fun h => block_set3 h hk x y z)
theorem block_set3_self {w : World} {g : Nat} {t : TypeId} {x0 y0 z0 : Value} (h : Block w g t #[x0, y0, z0]) (x y z : Value) : Block (set3 w g x y z) g t #[x, y, z] := by
 have := ((h.set_ 0 x).set_ 1 y).set_ 2 z
 simpa [set3] using this
def ZeroRes (r c n : Nat) (w : World) (e : Ending) (w' : World) : Prop :=
 ∃ g, e = .returned (.agg #[.int .i64 r, .int .i64 c, .slice (some ⟨g, 0, none⟩) n n]) ∧ w.heap.size ≤ g ∧ g < w'.heap.size ∧ Own w' w.heap.size 5 (.slice (some ⟨g, 0, none⟩) n n) (bv (bs (List.replicate n 0))) ∧ Below w.heap.size w w'
theorem zeros_calls (r c n : Nat) (hn : r * c = n) (h : n ≤ 1000000000) (w : World) :
  Calls Try.prog 41 #[.int .i64 r, .int .i64 c] w (ZeroRes r c n w) := by
 have HN := Lib.hid hn
 obtain ⟨w1, hw1⟩ : ∃ w1, w.alloc (.cells #[.int .i64 0, .int .i64 0, .slice none 0 0] 70) = w1 := ⟨_, rfl⟩
 obtain ⟨w2, hmk, hO, hB⟩ := make_run w1 n h
 have hb1 : Block w1 w.heap.size 70 #[.int .i64 0, .int .i64 0, .slice none 0 0] := by rw [← hw1]; exact Block.new _ _ _
 have hs1 : w1.heap.size = w.heap.size + 1 := by rw [← hw1]; simp
 have hb2 := hb1.below hB hb1.lt
 obtain ⟨l0, l1, l2⟩ := cells3 hb2
 have f0 := hb2.frozen 0
 have f1 := hb2.frozen 1
 have f2 := hb2.frozen 2
 clear hn
 have hB0 : Below w.heap.size w w2 := by rw [← hw1] at hB; exact ((Below.refl _ w).alloc (Nat.le_refl _) _).trans (hB.mono (by simp))
 have hO' := hO.more (B' := w.heap.size) (by omega)
 have HS := Lib.hid hs1
 have hlt := (Own.blk hO).2
 clear hs1 hb1 hb2
 go_enter Try.func41, Try.ntmps41
 go_wp2_with (go_at_call 39; refine (area_nat r c (by rw [HN.out]; omega) _).mono ?_; rintro e w' ⟨rfl, rfl⟩; rw [HN.out])
 refine bodyPost_ret (v := .agg #[.int .i64 r, .int .i64 c, .slice (some ⟨w1.heap.size, 0, none⟩) n n]) (by simp [results, Try.results41, go_sem, l0, l1, l2]) rfl ?_
 exact ⟨_, rfl, by have := HS.out; omega, by have := set3_size w2 w.heap.size (.int .i64 r) (.int .i64 c) (.slice (some ⟨w1.heap.size, 0, none⟩) n n); unfold set3 at this; omega, own_set3 hO' (by have := HS.out; simp [Value.ownBlock]; omega) _ _ _, below_set3 hB0 (Nat.le_refl _) _ _ _⟩
theorem made_ints (n : Nat) : (madeCells (Value.int .i64 0).cells (n * 1)).toList = iv (List.replicate n 0) := by
 apply List.ext_getElem
 ·simp [madeCells, iv]
 ·intro i h1 h2
  simp [madeCells, iv, Value.cells, Nat.mod_one]
theorem make_ints (w : World) (n : Nat) (hn : n ≤ 1000000000) :
  ∃ w', (Instr.makeSlice 118 (.int .i64 (n : Int)) (.int .i64 (n : Int))).run Try.prog w = .ok (.slice (some ⟨w.heap.size, 0, none⟩) n n) w' ∧ Own w' w.heap.size 3 (.slice (some ⟨w.heap.size, 0, none⟩) n n) (iv (List.replicate n 0)) ∧ Below w.heap.size w w' := by
 obtain ⟨i0, hi, hi1, hi2, hi3⟩ := info_parts info_int
 obtain ⟨w1, hmk, ho, hg⟩ := run_make_full (P := Try.prog) w w.heap.size 118 3 i0 _ 1 Try.underlying118 hi hi1 hi2 .i64 .i64 n (by rw [hi3]; omega) (by simp only [maxLen]; omega) (Nat.le_refl _)
 rw [made_ints] at ho
 refine ⟨w1, hmk, ?_, (Below.refl w.heap.size w).grown hg (Nat.le_refl _) (fun _ h => by cases h)⟩
 unfold Own; rw [iv_length, List.length_replicate]; exact ho
def UpRes (n : Nat) (w : World) (e : Ending) (w' : World) : Prop :=
 ∃ g, e = .returned (.slice (some ⟨g, 0, none⟩) n n) ∧ w.heap.size ≤ g ∧ g < w'.heap.size ∧ Own w' w.heap.size 3 (.slice (some ⟨g, 0, none⟩) n n) (iv (List.range n)) ∧ Below w.heap.size w w'
theorem Own.row' {w : World} {B n c : Nat} {e : TypeId} {A : Option Addr} {xs : List Value} (h : Own w B e (.slice A n c) xs) : Row w A xs := by
 obtain ⟨A', c', e1, hr, _⟩ := h.form
 injection e1 with e2 _ _
 subst e2
 exact hr
theorem own_int {w : World} {B g n c k : Nat} {e : TypeId} {l : List Nat} (h : Own w B e (.slice (some ⟨g, 0, none⟩) n c) (iv l)) (hl : l.length = n) (hk : k < n) : w.cell? ⟨g, k, none⟩ = some (.int .i64 (l.getD k 0 : Nat)) := by
 have hll : (iv l).length = n := by rw [iv_length]; exact hl
 rw [Own.cellAt h hll k (by omega)]
 have hk' : k < l.length := by omega
 simp [iv, List.getD_eq_getElem?_getD, List.getElem?_eq_getElem hk']
set_option maxRecDepth 100000 in
set_option maxHeartbeats 1000000 in
theorem upTo_calls (n : Nat) (h : n ≤ 1000000) (w : World) :
  Calls Try.prog 63 #[.int .i64 n] w (UpRes n w) := by
 obtain ⟨w1, hmk, hO, hB⟩ := make_ints w n (by omega)
 have HO := Lib.hid hO
 have HB := Lib.hid hB
 have hlt := (Own.blk hO).2
 clear hO hB
 go_enter Try.func63, Try.ntmps63
 go_wp2
 go_loopw [9] (fun i wr => ∃ (k : Nat) (l : List Nat), k ≤ n ∧ i = .int .i64 k ∧ Hid (l.length = n ∧ ∀ j, j < k → l[j]? = some j) ∧ Hid (Own wr w.heap.size 3 (.slice (some ⟨w.heap.size, 0, none⟩) n n) (iv l)) ∧ Hid (Below w.heap.size w wr)) (fun i _ => n - (intOf i).toNat)
 case atStart => exact ⟨0, _, Nat.zero_le _, rfl, Lib.hid ⟨List.length_replicate .., fun j hj => by omega⟩, HO, HB⟩
 case round =>
  obtain ⟨k, l, hk, rfl, HL, HOr, HBr⟩ := hrel
  by_cases hkk : k < n
  ·have hll : (iv l).length = n := by rw [iv_length]; exact HL.out.1
   have hc := own_int HOr.out HL.out.1 hkk
   have hf := Own.frozenAt HOr.out hll k
   have HO2 : Hid (Own (wr.setCell ⟨w.heap.size, k, none⟩ (.int .i64 k)) w.heap.size 3 (.slice (some ⟨w.heap.size, 0, none⟩) n n) (iv (l.set k k))) := Lib.hid (by rw [← iv_set]; exact Own.set_ HOr.out hll k _)
   have HL2 : Hid ((l.set k k).length = n ∧ ∀ j, j < k + 1 → (l.set k k)[j]? = some j) := Lib.hid ⟨by rw [List.length_set]; exact HL.out.1, fun j hj => by
    rw [List.getElem?_set]
    by_cases e : k = j
    ·rw [if_pos e, if_pos (by have := HL.out.1; omega), e]
    ·rw [if_neg e]; exact HL.out.2 j (by omega)⟩
   clear hll
   go_wp2
   go_roundw
   case rel => exact ⟨k + 1, _, by omega, by go_num, HL2, HO2, Lib.hid (HBr.out.setCell (p := ⟨w.heap.size, k, none⟩) (Nat.le_refl _) _)⟩
   case measure => simp [intOf]; omega
  ·obtain rfl : k = n := by omega
   have HR : Hid (l = List.range k) := Lib.hid (List.ext_getElem? fun j => by
    by_cases e : j < k
    ·rw [HL.out.2 j e, List.getElem?_range e]
    ·rw [List.getElem?_eq_none (by have := HL.out.1; omega), List.getElem?_eq_none (by simp; omega)])
   go_wp2
   go_ret
   have hz := HBr.out.size
   exact ⟨w.heap.size, rfl, Nat.le_refl _, (Own.blk HOr.out).2, by rw [← HR.out]; exact HOr.out, HBr.out⟩
theorem rows_calls (R : Int) (c N cap na ca : Nat) (A Aat : Option Addr) (w : World) :
  Calls Try.prog 62 #[.agg #[.int .i64 R, .int .i64 c, .slice A N cap], .slice Aat na ca] w fun e w' => e = .returned (.func (.func 72) #[] #[.pointer (some ⟨w.heap.size + 1, 0, none⟩), .pointer (some ⟨w.heap.size, 0, none⟩)]) ∧ w' = (w.alloc (.cells #[.int .i64 R, .int .i64 c, .slice A N cap] 70)).alloc (.cells #[.slice Aat na ca] 118) := by
 have hmf : ∀ (fn : Fn) (first cap : Array Value) (w : World), (Instr.makeFunc fn first cap).run Try.prog w = .ok (.func fn first cap) w := fun _ _ _ _ => rfl
 go_enter Try.func62, Try.ntmps62
 go_wp2
 go_ret
 exact ⟨rfl, rfl⟩
def RowsRes (Aat : Option Addr) (na ca : Nat) (ats : List Nat) (R : Int) (c : Nat) (A : Option Addr) (N cap : Nat) (w : World) (e : Ending) (w' : World) : Prop :=
 ∃ Bat Bm, e = .returned (.func (.func 72) #[] #[.pointer (some ⟨Bat, 0, none⟩), .pointer (some ⟨Bm, 0, none⟩)]) ∧ w.heap.size ≤ Bat ∧ w.heap.size ≤ Bm ∧ Vis w' Bat Bm Aat na ca ats R c A N cap ∧ Below w.heap.size w w'
theorem rows_any (R : Int) (c N cap na ca : Nat) (A Aat : Option Addr) (ats : List Nat) (w : World) (hr : Row w Aat (iv ats)) :
  Calls Try.prog 62 #[.agg #[.int .i64 R, .int .i64 c, .slice A N cap], .slice Aat na ca] w (RowsRes Aat na ca ats R c A N cap w) := by
 refine (rows_calls R c N cap na ca A Aat w).mono ?_
 rintro e w' ⟨rfl, rfl⟩
 have hb := Block.new (w.alloc (.cells #[.int .i64 R, .int .i64 c, .slice A N cap] 70)) 118 #[.slice Aat na ca]
 rw [World.size_alloc] at hb
 exact ⟨_, _, rfl, by omega, Nat.le_refl _, ⟨hb, (Block.new _ _ _).alloc _, (hr.alloc _).alloc _⟩, ((Below.refl _ _).alloc (Nat.le_refl _) _).alloc (by simp) _⟩
def AllRes (r c : Nat) (A : Option Addr) (N cap : Nat) (w : World) (e : Ending) (w' : World) : Prop :=
 ∃ Bat Bm gi, e = .returned (.func (.func 72) #[] #[.pointer (some ⟨Bat, 0, none⟩), .pointer (some ⟨Bm, 0, none⟩)]) ∧ w.heap.size ≤ Bat ∧ w.heap.size ≤ Bm ∧ w.heap.size ≤ gi ∧ Vis w' Bat Bm (some ⟨gi, 0, none⟩) r r (List.range r) r c A N cap ∧ Below w.heap.size w w' ∧ gi < w'.heap.size
set_option maxHeartbeats 1000000 in
theorem all_calls (r c N cap : Nat) (A : Option Addr) (h : r ≤ 1000000) (w : World) :
  Calls Try.prog 42 #[.agg #[.int .i64 r, .int .i64 c, .slice A N cap]] w (AllRes r c A N cap w) := by
 go_enter Try.func42, Try.ntmps42
 go_wp2
 go_region_with (first
  | (go_at_call 63; refine (upTo_calls r h _).mono ?_; rintro e w1 ⟨g, rfl, h1, h2, h3, h4⟩; obtain ⟨l0, l1, l2⟩ := cells3 (Block.below (Block.drew (Block.new w 70 #[.int .i64 r, .int .i64 c, .slice A N cap])) h4 (by simp)))
  | (go_at_call 62; refine (rows_any r c N cap r r A (some ⟨g, 0, none⟩) (List.range r) _ (Own.row' h3)).mono ?_; rintro e w2 ⟨Bat, Bm, rfl, k1, k2, k3, k4⟩))
 all_goals
  go_wp2
  go_ret
  simp only [World.size_drew, World.size_alloc] at h1 h3 h4
  have hz := h4.size
  exact ⟨Bat, Bm, g, rfl, by omega, by omega, by omega, k3, ((Below.drewN' ((Below.refl w.heap.size w).alloc (Nat.le_refl _) _) 1).trans (h4.mono (by simp))).trans (k4.mono (by simp at hz; omega)), by have := k4.size; omega⟩
end Go.Proofs.Ytjoghbmedfmioab.Mat
namespace Go.Proofs.Ytjoghbmedfmioab.Mat
open Go.RowKit Go.Shelf F8 Poly GF
structure But (B : Nat) (S : Nat → Prop) (w w' : World) : Prop where
 os : w'.os = w.os
 tape : w'.tape = w.tape
 output : w'.output = w.output
 size : w.heap.size ≤ w'.heap.size
 block : ∀ k, k < B → ¬ S k → w'.heap[k]? = w.heap[k]?
section
variable {B : Nat} {S : Nat → Prop} {a w w' : World}
theorem But.of_past {g : Nat} (h : Past B g a w) (hg : S g) : But B S a w := ⟨h.os, h.tape, h.output, h.size, fun i hi hn => h.block i hi (fun e => hn (e ▸ hg))⟩
theorem But.bytes {A : Option Addr} {p : List F8} (h : But w.heap.size S w w') (hb : Bytes w A (bs p)) (hg : p ≠ [] → ∀ a, A = some a → ¬ S a.block) : Bytes w' A (bs p) := by
 refine ⟨fun k u hu => ?_, bs_lt p⟩
 obtain ⟨b, off, rfl, hc⟩ := hb.row k u hu
 refine ⟨b, off, rfl, ?_⟩
 rw [← hc]
 exact World.cell?_of_block (h.block b (cell_lt hc) (hg (by rintro rfl; simp [bs, bv] at hu) _ rfl))
end
theorem past_cell {B g : Nat} {w w' : World} (h : Past B g w w') (p : Addr) (hb : p.block < B) (hn : p.block ≠ g) : w'.cell? p = w.cell? p := World.cell?_of_block (h.block _ hb hn)
theorem own_ne {w : World} {g B : Nat} {e t : TypeId} {v : Value} {xs : List Value} {cs : Array Value} (h : Own w B e v xs) (hb : Block w g t cs) (hne : e ≠ t) : v.ownBlock ≠ some g := by
 rcases h.2 with ⟨rfl, _⟩ | ⟨b, cap, cur, rfl, _, hh, _⟩
 ·simp [Value.ownBlock]
 ·intro e1
  obtain rfl : b = g := by simpa [Value.ownBlock] using e1
  unfold Block at hb
  rw [hh] at hb
  simp only [Option.some.injEq, Obj.cells.injEq] at hb
  exact hne hb.2.1
theorem block_ne {w : World} {g k : Nat} {t u : TypeId} {cs ds : Array Value} (h : Block w g t cs) (hb : Block w k u ds) (hne : t ≠ u) : g ≠ k := by
 rintro rfl
 unfold Block at h hb
 rw [h] at hb
 simp only [Option.some.injEq, Obj.cells.injEq] at hb
 exact hne hb.2.1
theorem own_keep {w w' : World} {g B : Nat} {e : TypeId} {v : Value} {xs : List Value} (h : Own w B e v xs) (he : e ≠ 64) (hf : Fld w g) (hp : Past w.heap.size g w w') : Own w' B e v xs := by
 refine h.grown (row := some g) ⟨hp.os, hp.tape, hp.output, hp.size, fun k hk hn => hp.block k hk (fun e => hn (by rw [e]))⟩ (.inr ?_)
 rcases hf with hb | hb
 ·exact own_ne h hb he
 ·exact own_ne h hb he
theorem own_cell {w : World} {B g M C k : Nat} {s : List F8} (h : Own w B 5 (.slice (some ⟨g, 0, none⟩) M C) (bv (bs s))) (hs : s.length = M) (hk : k < M) : w.cell? ⟨g, k, none⟩ = some (.int .u8 ((coef s k).n : Int)) := by
 have hl : (bv (bs s)).length = M := by rw [bvs_length, hs]
 rw [Own.cellAt h hl k (by omega), coef_of_lt (by omega)]
 simp [bv, bs]
theorem own_set {w : World} {B g M C k : Nat} {s : List F8} {x : F8} (h : Own w B 5 (.slice (some ⟨g, 0, none⟩) M C) (bv (bs s))) (hs : s.length = M) : Own (w.setCell ⟨g, k, none⟩ (.int .u8 (x.n : Int))) B 5 (.slice (some ⟨g, 0, none⟩) M C) (bv (bs (s.set k x))) := by
 have hl : (bv (bs s)).length = M := by rw [bvs_length, hs]
 have := Own.set_ h hl k (.int .u8 (x.n : Int))
 rwa [show (bv (bs s)).set k (.int .u8 (x.n : Int)) = bv (bs (s.set k x)) by simp [bv, bs, List.map_set]] at this
theorem own_frozen {w : World} {B g M C : Nat} {s : List F8} (h : Own w B 5 (.slice (some ⟨g, 0, none⟩) M C) (bv (bs s))) (hs : s.length = M) (k : Nat) : w.frozen? ⟨g, k, none⟩ = false := Own.frozenAt h (by rw [bvs_length, hs]) k
theorem Fld.ne_own {w : World} {gf g B M C : Nat} {e : TypeId} {xs : List Value} (hf : Fld w gf) (he : e ≠ 64) (h : Own w B e (.slice (some ⟨g, 0, none⟩) M C) xs) : gf ≠ g := by
 rintro rfl
 rcases hf with hb | hb <;> exact own_ne h hb he rfl
theorem Fld.ne_block {w : World} {gf g : Nat} {t : TypeId} {cs : Array Value} (hf : Fld w gf) (hb : Block w g t cs) (he : t ≠ 64) : gf ≠ g := by
 rcases hf with h | h <;> exact block_ne h hb (Ne.symm he)
theorem bytes_far {w w' : World} {A : Option Addr} {p : List F8} {g : Nat} (h : Bytes w A (bs p)) (hg : p ≠ [] → ∀ a, A = some a → a.block ≠ g) (hp : Past w.heap.size g w w') : Bytes w' A (bs p) :=
 (But.of_past (S := (· = g)) hp rfl).bytes h hg
theorem mul_f (gf : Nat) (x y : F8) (w : World) (hf : Fld w gf) :
  Calls Try.prog 43 #[.pointer (some ⟨gf, 0, none⟩), .int .u8 x.n, .int .u8 y.n] w fun e w' => e = .returned (.int .u8 (x * y).n) ∧ Fld w' gf ∧ Past w.heap.size gf w w' :=
 (mul_calls (some ⟨gf, 0, none⟩) x.n y.n x.h y.h w (FldP.of hf)).mono fun _ _ ⟨h1, h2, h3⟩ => ⟨h1, h2.fld, h3⟩
def Far (pf A : Option Addr) (p : List F8) : Prop := p ≠ [] → ∀ a g, A = some a → pf = some g → a.block ≠ g.block
def IsF (w0 w : World) (pf : Option Addr) (g : Nat) : Prop := (pf = none ∧ w.heap.size ≤ g) ∨ (pf = some ⟨g, 0, none⟩ ∧ g < w0.heap.size)
theorem IsF.ne {w0 w : World} {pf : Option Addr} {g k : Nat} (h : IsF w0 w pf g) (h1 : w0.heap.size ≤ k) (h2 : k < w.heap.size) : k ≠ g := by
 rcases h with ⟨_, h⟩ | ⟨_, h⟩ <;> omega
theorem IsF.past {w0 w a b : World} {pf : Option Addr} {g : Nat} (h : IsF w0 w pf g) (hw : w0.heap.size ≤ w.heap.size) (hp : Past w0.heap.size g a b) : Past w0.heap.size (rb w0 pf) a b := by
 rcases h with ⟨rfl, h⟩ | ⟨rfl, h⟩
 ·exact Past.of_below (hp.below (by omega)) _
 ·exact hp
theorem IsF.fldP {w0 w w' : World} {pf : Option Addr} {g : Nat} (h : IsF w0 w pf g) (hf : Fld w' g) : FldP w' pf := by
 rcases h with ⟨rfl, h⟩ | ⟨rfl, h⟩
 ·exact .inl rfl
 ·exact FldP.of hf
theorem IsF.far {w0 w : World} {pf A : Option Addr} {p : List F8} {g : Nat} (h : IsF w0 w pf g) (hw : w0.heap.size ≤ w.heap.size) (hfar : Far pf A p) (hb : Bytes w0 A (bs p)) : p ≠ [] → ∀ a, A = some a → a.block ≠ g ∧ a.block < w0.heap.size := by
 intro hp a ha
 obtain ⟨b, off, e⟩ := where_ hb (List.length_pos_iff.2 hp)
 obtain ⟨b', off', e', hc⟩ := cellF hb 0 (List.length_pos_iff.2 hp)
 rw [ha] at e e'
 cases e; cases e'
 have hlt := cell_lt hc
 refine ⟨?_, hlt⟩
 rcases h with ⟨rfl, h⟩ | ⟨rfl, h⟩
 ·simp at hlt ⊢; omega
 ·exact hfar hp _ _ ha rfl
def NewF (w0 : World) (pf : Option Addr) (w : World) (e : Ending) (w' : World) : Prop :=
 ∃ g, e = .returned (.pointer (some ⟨g, 0, none⟩)) ∧ IsF w0 w pf g ∧ Fld w' g ∧ Below w.heap.size w w'
theorem orNew_f (pf : Option Addr) (w0 w : World) (hf : FldP w0 pf) (hb : Below w0.heap.size w0 w) : Calls Try.prog 40 #[.pointer pf] w (NewF w0 pf w) := by
 have hfw : FldP w pf := hf.below hb
 rcases hfw with rfl | ⟨g, rfl, hg⟩
 ·go_enter Try.func40, Try.ntmps40
  go_wp2_with (go_at_call 6; refine (new_calls _).mono ?_; rintro e w' ⟨rfl, rfl⟩)
  go_ret
  exact ⟨w.heap.size, rfl, .inl ⟨rfl, Nat.le_refl _⟩, Fld.new w, (Below.refl _ _).alloc (Nat.le_refl _) _⟩
 ·have hlt := hf.fld.lt
  go_enter Try.func40, Try.ntmps40
  go_wp2
  go_ret
  exact ⟨g, rfl, .inr ⟨rfl, hlt⟩, hg, Below.refl _ _⟩
theorem set3_other {w : World} {g k : Nat} {o : Obj} (h : w.heap[k]? = some o) (hk : k ≠ g) (x y z : Value) : (set3 w g x y z).heap[k]? = some o := by
 unfold set3
 rw [Below.heap_setCell _ _ _ _ (by simpa using hk), Below.heap_setCell _ _ _ _ (by simpa using hk), Below.heap_setCell _ _ _ _ (by simpa using hk)]; exact h
theorem keeps_turn {l : Nat} {W W' : World} (h : Turn W.heap.size W W') : KeepsFrom l W W' := keeps_below h.below
end Go.Proofs.Ytjoghbmedfmioab.Mat

namespace Go.Proofs.Ytjoghbmedfmioab.Mat
open Go.RowKit Go.Shelf F8 Poly GF
attribute [local go_sem] Oper.semAt_some
theorem wpAnyH_one {P : Program} {ops : Array Oper} {Q : Exit → Act → World → Prop} {md : Region.Mode} {S : World → Prop} {fuel i : Nat} {listed : Array Bool} {o : Oper} {a : Act} {w : World} (hr : Region.ready md ops listed = [i]) (ho : ops[i]? = some o) (hw : Region.wanted o (yielded ops a.tmps) = true)
  (h : o.wp P a w (fun a2 w2 => S w2 ∧ wpAnyH P md ops Q S fuel (listed.setIfInBounds i true) a2 w2) Q) : wpAnyH P md ops Q S (fuel + 1) listed a w :=
 wpAnyH_all hr (by simp) (fun j hj => (by simpa using hj : j = i) ▸ wpOp_call ho hw h)
end Go.Proofs.Ytjoghbmedfmioab.Mat

namespace Go.Proofs.Ytjoghbmedfmioab.Mat
open Go.RowKit Go.Shelf F8 Poly GF
attribute [local go_sem] Oper.semAt_some
theorem wpAnyH_takeD {P : Program} {ops : Array Oper} {Q : Exit → Act → World → Prop} {md : Region.Mode} {S : World → Prop} {i : Nat} (d : Option Tmp) (v : Value) {oi : Oper} {fuel : Nat} {listed : Array Bool} {a : Act} {w : World} (hi : ops[i]? = some oi) (hd : oi.dst = d)
  (hs : Region.noSelect ops = true) (hf : Region.free md ops listed i = true) (hr : (Region.ready md ops listed).contains i = true)
  (hQ : ∀ c a w, Q (.panic c) (a.put d v) w → Q (.panic c) a w) (hy : YieldsIf P ops S oi v a) (hS : S w)
  (h : wpAnyH P md ops Q S fuel (listed.setIfInBounds i true) (a.put d v) w) : wpAnyH P md ops Q S (fuel + 1) listed a w := by
 subst hd
 exact wpAnyH_take hi hs hf hr hQ hy hS h
end Go.Proofs.Ytjoghbmedfmioab.Mat

namespace Go.Proofs.Ytjoghbmedfmioab.Mat
open Go.RowKit Go.Shelf F8 Poly GF
attribute [local go_sem] Oper.semAt_some
def pw (x : F8) : Nat → F8
 | 0 => 1
 | k + 1 => pw x k * x
def powF (xs : List F8) (i j : Nat) : F8 := pw (coef xs i) j
def powT (xs : List F8) (i j a b : Nat) : F8 := if a < i ∨ (a = i ∧ b < j) then powF xs a b else 0
theorem powT_step {m n i j : Nat} {xs t : List F8} (h : IsM m n t (powT xs i j)) (hi : i < m) (hj : j < n) : IsM m n (t.set (i * n + j) (pw (coef xs i) j)) (powT xs i (j + 1)) := by
 refine ⟨by rw [List.length_set, h.len], fun a b ha hb => ?_⟩
 rw [ent_set h.len hi hj _ _ _ hb]
 unfold powT
 by_cases e : a = i ∧ b = j
 ·rw [if_pos e, if_pos (by omega), e.1, e.2]; rfl
 ·rw [if_neg e, h.ent a b ha hb]
  unfold powT
  by_cases e2 : a < i ∨ (a = i ∧ b < j)
  ·rw [if_pos e2, if_pos (by omega)]
  ·rw [if_neg e2, if_neg (by omega)]
theorem powT_row {m n i : Nat} {xs t : List F8} (h : IsM m n t (powT xs i n)) : IsM m n t (powT xs (i + 1) 0) :=
 h.congr fun a b ha hb => by
  unfold powT
  by_cases e2 : a < i ∨ (a = i ∧ b < n)
  ·rw [if_pos e2, if_pos (by omega)]
  ·rw [if_neg e2, if_neg (by omega)]
def PowRes (pf : Option Addr) (r c : Nat) (s : List F8) (w : World) (e : Ending) (w' : World) : Prop :=
 ∃ A cap, e = .returned (.agg #[.int .i64 r, .int .i64 c, .slice A s.length cap]) ∧ s.length ≤ cap ∧ Own w' w.heap.size 5 (.slice A s.length cap) (bv (bs s)) ∧ FldP w' pf ∧ Past w.heap.size (rb w pf) w w'
theorem n_one'' : ((1 : F8).n : Int) = 1 := rfl
set_option maxRecDepth 100000 in
set_option maxHeartbeats 4000000 in
theorem powers_calls (pf A : Option Addr) (xs : List F8) (m n cap : Nat) (hl : xs.length = m) (hm : m ≤ 65536) (hn : n ≤ 65536) (hmn : m * n ≤ 16777216) (w : World) (hb : Bytes w A (bs xs)) (hfar : Far pf A xs) (hf : FldP w pf) :
  Calls Try.prog 23 #[.pointer pf, .slice A m cap, .int .i64 n] w (PowRes pf m n (flat m n (powF xs)) w) := by
 have HB := Lib.hid hb
 have HL := Lib.hid hl
 have HFar := Lib.hid hfar
 have HF := Lib.hid hf
 obtain ⟨N, hN⟩ : ∃ N, m * n = N := ⟨_, rfl⟩
 rw [hN] at hmn
 have HN := Lib.hid hN
 have g1 : decide ((m : Int) > 65536) = false := by simp; omega
 have g2 : decide (((N : Nat) : Int) > 16777216) = false := by simp; omega
 have hside : sideB n = true := sideB_true hn
 have harea : ∀ V, Calls Try.prog 39 #[.int .i64 m, .int .i64 n] V fun e w' => e = .returned (.int .i64 (N : Nat)) ∧ w' = V := fun V => by
  rw [← HN.out]
  exact (area_nat m n (by rw [HN.out]; omega) V).mono fun _ _ h => ⟨h.1, h.2.symm⟩
 have hmx : Try.prog.follows .mixedOrders = true := by kernel_rfl
 clear hb hl hfar hf hN
 refine (callsIn_wide (n := 9)).1 (callsIn_of_wp_marks Try.func23 rfl trivial ?_ rfl)
 simp only [Try.ntmps23, List.size_toArray, List.length_cons, List.length_nil, Nat.reduceAdd, Nat.reduceSub, Array.replicate_succ, Array.replicate_zero, List.push_toArray, List.append_toArray, List.nil_append, List.cons_append]
 refine wpIn_wide.2 ?_
 obtain ⟨wa, hwa⟩ : ∃ wa, ((w.alloc (.cells #[.pointer pf] 30)).alloc (.cells #[.slice A m cap] 65)).alloc (.cells #[.int .i64 0, .int .i64 0, .slice none 0 0] 70) = wa := ⟨_, rfl⟩
 have hbf : Block wa w.heap.size 30 #[.pointer pf] := by rw [← hwa]; exact ((Block.new _ _ _).alloc _).alloc _
 have hbx : Block wa (w.heap.size + 1) 65 #[.slice A m cap] := by
  rw [← hwa]
  have := Block.new (w.alloc (.cells #[.pointer pf] 30)) 65 #[.slice A m cap]
  rw [World.size_alloc] at this
  exact this.alloc _
 have hbr : Block wa (w.heap.size + 2) 70 #[.int .i64 0, .int .i64 0, .slice none 0 0] := by
  rw [← hwa]
  have := Block.new ((w.alloc (.cells #[.pointer pf] 30)).alloc (.cells #[.slice A m cap] 65)) 70 #[.int .i64 0, .int .i64 0, .slice none 0 0]
  rwa [World.size_alloc, World.size_alloc] at this
 have hBa : Below w.heap.size w wa := by rw [← hwa]; exact (((Below.refl _ w).alloc (Nat.le_refl _) _).alloc (by simp) _).alloc (by simp; omega) _
 have hsa : wa.heap.size = w.heap.size + 3 := by rw [← hwa]; simp
 have x0 := hbx.cell 0
 have y0 := hbf.cell 0
 go_wp2_with fail
 refine (isSide_calls n _).mono ?_
 rintro e w1 ⟨rfl, rfl⟩
 rw [hside]
 go_wp2_with fail
 refine (harea _).mono ?_
 rintro e w1 ⟨rfl, rfl⟩
 go_wp2_with fail
 refine (orNew_f pf w w1 HF.out hBa).mono ?_
 rintro e w2 ⟨gf, rfl, hg, hF2, hB2⟩
 have hs2 := hB2.size
 have hgf0 : w.heap.size ≠ gf := hg.ne (Nat.le_refl _) (by omega)
 have hgfr : w.heap.size + 2 ≠ gf := hg.ne (by omega) (by omega)
 have hbf2 := hbf.below hB2 hbf.lt
 have hbx2 := hbx.below hB2 hbx.lt
 have hbr2 := hbr.below hB2 hbr.lt
 have hBw2 := hBa.trans (hB2.mono (by omega))
 have z0 := hbf2.frozen 0
 obtain ⟨w3, hw3⟩ : ∃ w3, w2.setCell ⟨w.heap.size, 0, none⟩ (.pointer (some ⟨gf, 0, none⟩)) = w3 := ⟨_, rfl⟩
 have hbf3 : Block w3 w.heap.size 30 #[.pointer (some ⟨gf, 0, none⟩)] := by rw [← hw3]; simpa using hbf2.set_ 0 (.pointer (some ⟨gf, 0, none⟩))
 have hbx3 : Block w3 (w.heap.size + 1) 65 #[.slice A m cap] := by rw [← hw3]; exact hbx2.far (p := ⟨w.heap.size, 0, none⟩) (by simp) _
 have hbr3 : Block w3 (w.heap.size + 2) 70 #[.int .i64 0, .int .i64 0, .slice none 0 0] := by rw [← hw3]; exact hbr2.far (p := ⟨w.heap.size, 0, none⟩) (by simp) _
 have hF3 : Fld w3 gf := by rw [← hw3]; exact hF2.imp (fun h => h.far (p := ⟨w.heap.size, 0, none⟩) (Ne.symm hgf0) _) (fun h => h.far (p := ⟨w.heap.size, 0, none⟩) (Ne.symm hgf0) _)
 have hBw3 : Below w.heap.size w w3 := by rw [← hw3]; exact hBw2.setCell (p := ⟨w.heap.size, 0, none⟩) (Nat.le_refl _) _
 have hs3 : w3.heap.size = w2.heap.size := by rw [← hw3]; simp [World.setCell]
 have x3 := hbx3.cell 0
 have y2 := hbf2.cell 0
 clear hbf hbx hbr hBa hwa x0 y0 hB2 hbf2 hbx2 hbr2 hBw2 hF2
 go_wp2_with fail
 clear x3 y2 z0 hw3
 refine (zeros_calls m n N HN.out (by omega) _).mono ?_
 rintro e w4 ⟨gz, rfl, z1, z2, hO, hB4⟩
 have hs4 := hB4.size
 have hbf4 := hbf3.below hB4 hbf3.lt
 have hbx4 := hbx3.below hB4 hbx3.lt
 have hbr4 := hbr3.below hB4 hbr3.lt
 have hF4 := hF3.below hB4 hF3.lt
 have hBw4 := hBw3.trans (hB4.mono (by omega))
 clear hbf3 hbx3 hbr3 hF3 hBw3 hB4
 go_wp2_with fail
 refine (all_calls m n N N (some ⟨gz, 0, none⟩) (by omega) _).mono ?_
 rintro e W0 ⟨Bat, Bm, gi, rfl, a1, a2, a3, hV, hB0, a4⟩
 simp only [World.size_alloc] at a1 a2 a3
 have hbf0 := (hbf4.alloc (.cells #[.int .i64 m, .int .i64 n, .slice (some ⟨gz, 0, none⟩) N N] 70)).below hB0 (by simp; have := hbf4.lt; omega)
 have hbx0 := (hbx4.alloc (.cells #[.int .i64 m, .int .i64 n, .slice (some ⟨gz, 0, none⟩) N N] 70)).below hB0 (by simp; have := hbx4.lt; omega)
 have hbr0 := (hbr4.alloc (.cells #[.int .i64 m, .int .i64 n, .slice (some ⟨gz, 0, none⟩) N N] 70)).below hB0 (by simp; have := hbr4.lt; omega)
 have hbo0 : Block W0 w4.heap.size 70 #[.int .i64 m, .int .i64 n, .slice (some ⟨gz, 0, none⟩) N N] := (Block.new _ _ _).below hB0 (by simp)
 have hO0 : Own W0 w.heap.size 5 (.slice (some ⟨gz, 0, none⟩) N N) (bv (bs (List.replicate N 0))) := ((hO.more (by omega)).alloc _).below hB0
 have hF0 := (hF4.alloc (.cells #[.int .i64 m, .int .i64 n, .slice (some ⟨gz, 0, none⟩) N N] 70)).below hB0 (by simp; have := hF4.lt; omega)
 have hBw : Below w.heap.size w W0 := (hBw4.alloc (by omega) _).trans (hB0.mono (by simp; omega))
 have hs0 := hB0.size
 simp only [World.size_alloc] at hs0
 have hgz := Fld.ne_own hF0 (by decide) hO0
 have hgp : w4.heap.size ≠ gf := fun e => Fld.ne_block hF0 hbo0 (by decide) e.symm
 have hgx : w.heap.size + 1 ≠ gf := hg.ne (by omega) (by omega)
 have hN2 : ∀ k, k < m → (k + 1) * n ≤ N := fun k hk => by rw [← HN.out]; exact Nat.mul_le_mul_right n (by omega)
 have hfa := hg.far (by omega) HFar.out HB.out
 have hVf : Bat ≠ gf ∧ Bm ≠ gf ∧ gi ≠ gf := by
  have := hF4.lt
  omega
 clear hbf4 hbx4 hbr4 hF4 hBw4 hB0 hO
 go_wp2_with fail
 refine wpIn_wide.1 (wpIn_rows (n := 9) (by omega) (Bat := Bat) (Bm := Bm) (na := m) (ca := m) (c := n) (N := N) (cap := N) (Aat := some ⟨gi, 0, none⟩) (A := some ⟨gz, 0, none⟩) (ats := List.range m) (R := m) (fun k => k) (by simp) (by omega) (fun k hk => List.getElem?_range hk)
  (by omega) (Nat.le_refl _) (by omega) (fun k hk => ⟨hN2 k hk, by omega⟩) rfl
  (fun k W => Vis W Bat Bm (some ⟨gi, 0, none⟩) m m (List.range m) m n (some ⟨gz, 0, none⟩) N N ∧ Block W (w.heap.size + 2) 70 #[.int .i64 0, .int .i64 0, .slice none 0 0] ∧ Block W w.heap.size 30 #[.pointer (some ⟨gf, 0, none⟩)] ∧ Block W (w.heap.size + 1) 65 #[.slice A m cap] ∧ Block W w4.heap.size 70 #[.int .i64 m, .int .i64 n, .slice (some ⟨gz, 0, none⟩) N N] ∧ Past w.heap.size gf w W ∧ Fld W gf ∧ ∃ t, IsM m n t (powT xs k 0) ∧ Own W w.heap.size 5 (.slice (some ⟨gz, 0, none⟩) N N) (bv (bs t)))
  (fun _ _ => False)
  (fun k W W' ⟨h1, h2, h3, h4, h5, h6, h7, s, h8, h9⟩ t => ⟨h1.turn t, t.block h2, t.block h3, t.block h4, t.block h5, t.past h6 (by omega), h7.imp t.block t.block, s, h8, t.own h9⟩)
  (fun _ _ _ h _ => h)
  (fun k W h => h.1)
  ⟨hV, hbr0, hbf0, hbx0, hbo0, Past.of_below hBw gf, hF0, _, ⟨by rw [List.length_replicate]; exact HN.out.symm, fun i j _ _ => by rw [ent_replicate]; unfold powT; rw [if_neg (by omega)]⟩, hO0⟩
  ?a1 ?assign ?body ?done (fun _ _ h => h.elim))
 case assign =>
  intro l k W K hk hK
  gi_wp2
  exact hK
 case body =>
  rintro l i W hi ⟨k1, k2, k3, k4, k5, k6, k7, t, k8, k9⟩ hsz
  have HV := Lib.hid k1
  have HR := Lib.hid k2
  have HBf := Lib.hid k3
  have HBx := Lib.hid k4
  have HBo := Lib.hid k5
  have HU := Lib.hid k6
  have HFd := Lib.hid k7
  have HT := Lib.hid k8
  have HO := Lib.hid k9
  clear k1 k2 k3 k4 k5 k6 k7 k8 k9
  obtain ⟨x, hx⟩ : ∃ x, i * n = x := ⟨_, rfl⟩
  have HX := Lib.hid hx
  rw [hx]
  clear hx
  obtain ⟨RA, hRA⟩ : ∃ RA, rowA (some ⟨gz, 0, none⟩) x n = RA := ⟨_, rfl⟩
  rw [hRA]
  have HRA := Lib.hid hRA
  clear hRA
  gi_wp2
  have hil : i < xs.length := by rw [HL.out]; exact hi
  gi_loopw [10, 37] (fun pv ii wr => ∃ (j : Nat) (t : List F8), j ≤ n ∧ pv = .int .u8 ((pw (coef xs i) j).n : Int) ∧ ii = .int .i64 j ∧ Hid (Vis wr Bat Bm (some ⟨gi, 0, none⟩) m m (List.range m) m n (some ⟨gz, 0, none⟩) N N) ∧ Hid (Block wr (w.heap.size + 2) 70 #[.int .i64 0, .int .i64 0, .slice none 0 0]) ∧ Hid (Block wr w.heap.size 30 #[.pointer (some ⟨gf, 0, none⟩)]) ∧ Hid (Block wr (w.heap.size + 1) 65 #[.slice A m cap]) ∧ Hid (Block wr w4.heap.size 70 #[.int .i64 m, .int .i64 n, .slice (some ⟨gz, 0, none⟩) N N]) ∧ Hid (Past w.heap.size gf w wr) ∧ Hid (Fld wr gf) ∧ Hid (IsM m n t (powT xs i j)) ∧ Hid (Own wr w.heap.size 5 (.slice (some ⟨gz, 0, none⟩) N N) (bv (bs t))) ∧ Hid (KeepsFrom W0.heap.size W wr)) (fun _ ii _ => n - (intOf ii).toNat)
  case atStart => exact ⟨0, t, Nat.zero_le _, by unfold pw; rw [n_one''], rfl, HV, HR, HBf, HBx, HBo, HU, HFd, HT, HO, Lib.hid (keeps_below (Below.refl _ _))⟩
  case round =>
   clear HV HR HBf HBx HBo HU HFd HT HO
   obtain ⟨j, t, hj, rfl, rfl, HV, HR, HBf, HBx, HBo, HU, HFd, HT, HO, HK⟩ := hrel
   by_cases hjn : j < n
   ·have hbw := bytes_far HB.out (fun hp a ha => (hfa hp a ha).1) HU.out
    have hne : xs ≠ [] := by rintro rfl; simp at hil
    obtain ⟨b, o, rfl⟩ := where_ hbw (by omega)
    have hcell := cellAt hbw _ hil
    have hbA := hfa hne _ rfl
    have hlt : i * n + j < N := by rw [← HN.out]; exact idx_lt hi hjn
    have htl : t.length = N := by rw [HT.out.len, HN.out]
    have HST := Lib.hid (powT_step HT.out hi hjn)
    have HPW : Hid (pw (coef xs i) j * coef xs i = pw (coef xs i) (j + 1)) := Lib.hid rfl
    obtain rfl : RA = some ⟨gz, x, none⟩ := by rw [← HRA.out, rowA_some _ _ _ _ (by omega), Nat.zero_add]
    rw [HX.out] at hlt HST
    obtain ⟨p, hp⟩ : ∃ p, pw (coef xs i) j = p := ⟨_, rfl⟩
    obtain ⟨y, hy⟩ : ∃ y, coef xs i = y := ⟨_, rfl⟩
    rw [hp] at HST HPW ⊢
    rw [hy] at hcell
    have HP := Lib.hid hp
    have HY := Lib.hid hy
    have hc := own_cell HO.out htl hlt
    have hf := own_frozen HO.out htl (x + j)
    have HO2 := Lib.hid (own_set (k := x + j) (x := p) HO.out htl)
    have hwr := HU.out.size
    obtain ⟨W2, hW2⟩ : ∃ W2, wr.setCell ⟨gz, x + j, none⟩ (.int .u8 (p.n : Int)) = W2 := ⟨_, rfl⟩
    have HV2 : Hid (Vis W2 Bat Bm (some ⟨gi, 0, none⟩) m m (List.range m) m n (some ⟨gz, 0, none⟩) N N) := Lib.hid (by
     rw [← hW2]
     exact HV.out.keep (fun q hq e => Below.heap_setCell _ _ _ _ (by
      simp
      rcases e with rfl | rfl | ⟨a, ha, rfl⟩
      ·omega
      ·omega
      ·cases ha; simp; omega)))
    have HR2 : Hid (Block W2 (w.heap.size + 2) 70 #[.int .i64 0, .int .i64 0, .slice none 0 0]) := Lib.hid (by rw [← hW2]; exact HR.out.far (p := ⟨gz, x + j, none⟩) (by simp; omega) _)
    have HBf2 : Hid (Block W2 w.heap.size 30 #[.pointer (some ⟨gf, 0, none⟩)]) := Lib.hid (by rw [← hW2]; exact HBf.out.far (p := ⟨gz, x + j, none⟩) (by simp; omega) _)
    have HBx2 : Hid (Block W2 (w.heap.size + 1) 65 #[.slice (some ⟨b, o, none⟩) m cap]) := Lib.hid (by rw [← hW2]; exact HBx.out.far (p := ⟨gz, x + j, none⟩) (by simp; omega) _)
    have HBo2 : Hid (Block W2 w4.heap.size 70 #[.int .i64 m, .int .i64 n, .slice (some ⟨gz, 0, none⟩) N N]) := Lib.hid (by rw [← hW2]; exact HBo.out.far (p := ⟨gz, x + j, none⟩) (by simp; omega) _)
    have HF2 : Hid (Fld W2 gf) := Lib.hid (by rw [← hW2]; exact HFd.out.imp (fun h => h.far (p := ⟨gz, x + j, none⟩) hgz _) (fun h => h.far (p := ⟨gz, x + j, none⟩) hgz _))
    have HU2 : Hid (Past w.heap.size gf w W2) := Lib.hid (by rw [← hW2]; exact HU.out.setCell (p := ⟨gz, x + j, none⟩) (.inr (by simp; omega)) _)
    have HO3 : Hid (Own W2 w.heap.size 5 (.slice (some ⟨gz, 0, none⟩) N N) (bv (bs (t.set (x + j) p)))) := Lib.hid (by rw [← hW2]; exact HO2.out)
    have HK2 : Hid (KeepsFrom W0.heap.size W W2) := Lib.hid (by rw [← hW2]; exact HK.out.trans ((KeepsOthers.setCell _ _ _).from _))
    have hc2 : W2.cell? ⟨b, o + i, none⟩ = some (.int .u8 (y.n : Int)) := by
     rw [← hW2, ← hcell]
     exact World.cell?_of_block (Below.heap_setCell _ _ _ _ (by have := hbA.2; simp at this ⊢; omega))
    obtain ⟨S, hSdef⟩ : ∃ S : World → Prop, S = fun V => V.cell? ⟨w.heap.size, 0, none⟩ = some (.pointer (some ⟨gf, 0, none⟩)) ∧ V.cell? ⟨w.heap.size + 1, 0, none⟩ = some (.slice (some ⟨b, o, none⟩) m cap) ∧ V.cell? ⟨b, o + i, none⟩ = some (.int .u8 (y.n : Int)) := ⟨_, rfl⟩
    have hSi : ∀ V, Block V w.heap.size 30 #[.pointer (some ⟨gf, 0, none⟩)] → Block V (w.heap.size + 1) 65 #[.slice (some ⟨b, o, none⟩) m cap] → V.cell? ⟨b, o + i, none⟩ = some (.int .u8 (y.n : Int)) → S V := fun V h1 h2 h3 => by rw [hSdef]; exact ⟨h1.cell 0, h2.cell 0, h3⟩
    have hSc : ∀ V, S V → V.cell? ⟨w.heap.size, 0, none⟩ = some (.pointer (some ⟨gf, 0, none⟩)) ∧ V.cell? ⟨w.heap.size + 1, 0, none⟩ = some (.slice (some ⟨b, o, none⟩) m cap) ∧ V.cell? ⟨b, o + i, none⟩ = some (.int .u8 (y.n : Int)) := fun V hV => by rw [hSdef] at hV; exact hV
    have hS0 : S W2.drew := hSi _ HBf2.out.drew HBx2.out.drew hc2
    have hszW2 : W2.heap.size = wr.heap.size := by rw [← hW2]; simp [World.setCell]
    clear hSdef hp hy hbw HO2 HO hcell HV HR HBf HBx HBo HFd HU HK
    gi_wp2_with fail
    refine region_round_held (S := S) hmx (by kernel_rfl) (fun h => by obtain ⟨a, w, h⟩ := h; exact h) hS0 (fun hS0 => ?_)
    refine wpAnyH_takeD (i := 0) (some 44) (.pointer (some ⟨gf, 0, none⟩)) rfl rfl (by kernel_rfl) (by kernel_rfl) (by kernel_rfl) (fun _ _ _ h => h) (Or.inl ⟨by kernel_rfl, fun W hW => by obtain ⟨s1, s2, s3⟩ := hSc W hW; go_simp⟩) hS0 ?_
    simp only [Act.put, List.setIfInBounds_toArray, List.set_cons_zero, List.set_cons_succ]
    refine wpAnyH_takeD (i := 1) (some 45) (.int .u8 (p.n : Int)) rfl rfl (by kernel_rfl) (by kernel_rfl) (by kernel_rfl) (fun _ _ _ h => h) (Or.inl ⟨by kernel_rfl, fun W hW => by go_simp⟩) hS0 ?_
    simp only [Act.put, List.setIfInBounds_toArray, List.set_cons_zero, List.set_cons_succ]
    refine wpAnyH_takeD (i := 2) (some 46) (.slice (some ⟨b, o, none⟩) m cap) rfl rfl (by kernel_rfl) (by kernel_rfl) (by kernel_rfl) (fun _ _ _ h => h) (Or.inl ⟨by kernel_rfl, fun W hW => by obtain ⟨s1, s2, s3⟩ := hSc W hW; go_simp⟩) hS0 ?_
    simp only [Act.put, List.setIfInBounds_toArray, List.set_cons_zero, List.set_cons_succ]
    refine wpAnyH_takeD (i := 3) (some 47) (.int .i64 (i : Int)) rfl rfl (by kernel_rfl) (by kernel_rfl) (by kernel_rfl) (fun _ _ _ h => h) (Or.inl ⟨by kernel_rfl, fun W hW => by go_simp⟩) hS0 ?_
    simp only [Act.put, List.setIfInBounds_toArray, List.set_cons_zero, List.set_cons_succ]
    refine wpAnyH_takeD (i := 4) (some 48) (.pointer (some ⟨b, o + i, none⟩)) rfl rfl (by kernel_rfl) (by kernel_rfl) (by kernel_rfl) (fun _ _ _ h => h) (Or.inl ⟨by kernel_rfl, fun W hW => by go_simp⟩) hS0 ?_
    simp only [Act.put, List.setIfInBounds_toArray, List.set_cons_zero, List.set_cons_succ]
    refine wpAnyH_takeD (i := 5) (some 49) (.int .u8 (y.n : Int)) rfl rfl (by kernel_rfl) (by kernel_rfl) (by kernel_rfl) (fun _ _ _ h => h) (Or.inl ⟨by kernel_rfl, fun W hW => by obtain ⟨s1, s2, s3⟩ := hSc W hW; go_simp⟩) hS0 ?_
    simp only [Act.put, List.setIfInBounds_toArray, List.set_cons_zero, List.set_cons_succ]
    refine wpAnyH_one (i := 6) (by kernel_rfl) rfl (by kernel_rfl) ?_
    go_simp
    refine (mul_f gf p y _ (HF2.out.imp (fun h => h.drew) (fun h => h.drew))).mono ?_
    rintro e W3 ⟨rfl, hF3, hP3⟩
    have hszw := HU2.out.size
    have HBf3 : Hid (Block W3 w.heap.size 30 #[.pointer (some ⟨gf, 0, none⟩)]) := Lib.hid ((hP3.block _ HBf2.out.lt hgf0).trans HBf2.out)
    have HBx3 : Hid (Block W3 (w.heap.size + 1) 65 #[.slice (some ⟨b, o, none⟩) m cap]) := Lib.hid ((hP3.block _ HBx2.out.lt hgx).trans HBx2.out)
    have HR3 : Hid (Block W3 (w.heap.size + 2) 70 #[.int .i64 0, .int .i64 0, .slice none 0 0]) := Lib.hid ((hP3.block _ HR2.out.lt hgfr).trans HR2.out)
    have HBo3 : Hid (Block W3 w4.heap.size 70 #[.int .i64 m, .int .i64 n, .slice (some ⟨gz, 0, none⟩) N N]) := Lib.hid ((hP3.block _ HBo2.out.lt hgp).trans HBo2.out)
    have HV3 : Hid (Vis W3 Bat Bm (some ⟨gi, 0, none⟩) m m (List.range m) m n (some ⟨gz, 0, none⟩) N N) := Lib.hid (HV2.out.keep (fun q hq e => hP3.block q hq (by
     rcases e with rfl | rfl | ⟨a, ha, rfl⟩
     ·exact hVf.1
     ·exact hVf.2.1
     ·cases ha; exact hVf.2.2)))
    have hF2d : Fld W2.drew gf := HF2.out.imp (fun h => h.drew) (fun h => h.drew)
    have HO4 := Lib.hid (own_keep HO3.out.drew (by decide) hF2d hP3)
    have HU3 : Hid (Past w.heap.size gf w W3) := Lib.hid ((show Past w.heap.size gf w W2.drew from ⟨HU2.out.os, HU2.out.tape, HU2.out.output, HU2.out.size, HU2.out.block⟩).trans (hP3.mono HU2.out.size))
    have HK3 : Hid (KeepsFrom W0.heap.size W W3) := Lib.hid ((HK2.out.trans (keeps_turn (Turn.drewN (Turn.refl _ _) 1))).trans (keeps_past hP3 (.inr (by
     rcases hF2d with hb | hb
     ·exact ⟨_, _, _, hb⟩
     ·exact ⟨_, _, _, hb⟩))))
    have hc3 : W3.cell? ⟨b, o + i, none⟩ = some (.int .u8 (y.n : Int)) := by
     rw [past_cell hP3 ⟨b, o + i, none⟩ (by have := hbA.2; show b < W2.heap.size; omega) hbA.1]
     exact hc2
    have HF3 := Lib.hid hF3
    have hS3 := hSi _ HBf3.out HBx3.out hc3
    clear HV2 HR2 HBf2 HBx2 HBo2 HF2 HU2 HO3 HK2 hP3 hF2d hF3 hc2 hS0
    show S W3 ∧ _
    refine ⟨hS3, ?_⟩
    refine wpAnyH_takeD (i := 7) (some 10) (.int .u8 ((p * y).n : Int)) rfl rfl (by kernel_rfl) (by kernel_rfl) (by kernel_rfl) (fun _ _ _ h => h) (Or.inl ⟨by kernel_rfl, fun W hW => by go_simp⟩) hS3 ?_
    simp only [Act.put, List.setIfInBounds_toArray, List.set_cons_zero, List.set_cons_succ]
    refine wpAnyH_done (by kernel_rfl) ?_ _
    clear hSc hSi hS3
    gi_wp2
    go_roundw
    case rel => exact ⟨j + 1, _, by omega, by rw [← HPW.out, HY.out], by go_num, HV3, HR3, HBf3, HBx3, HBo3, HU3, HF3, HST, HO4, HK3⟩
    case measure => simp [intOf]; omega
   ·obtain rfl : j = n := by omega
    gi_wp2
    exact ⟨HK.out, HV.out, HR.out, HBf.out, HBx.out, HBo.out, HU.out, HFd.out, t, powT_row HT.out, HO.out⟩
 case done =>
  rintro W ⟨k1, k2, k3, k4, k5, k6, k7, t, k8, k9⟩ hD
  obtain ⟨l0, l1, l2⟩ := cells3 k5
  have d0 := k2.cell 0
  have d1 := k2.cell 1
  have d2 := k2.cell 2
  have f0 := k2.frozen 0
  have f1 := k2.frozen 1
  have f2 := k2.frozen 2
  go_wp2
  have hK := set3_other hD (show W0.heap.size ≠ w.heap.size + 2 by omega) (.int .i64 m) (.int .i64 n) (.slice (some ⟨gz, 0, none⟩) N N)
  refine ⟨by simp, .inl ⟨_, _, rfl, run_takeDeferred hK, ?_⟩⟩
  have ht : Turn w.heap.size (set3 W (w.heap.size + 2) (.int .i64 m) (.int .i64 n) (.slice (some ⟨gz, 0, none⟩) N N)) _ := Turn.put hK rfl (by omega) (.deferred none)
  obtain ⟨e0, e1, e2⟩ := cells3 (ht.block (block_set3_self k2 (.int .i64 m) (.int .i64 n) (.slice (some ⟨gz, 0, none⟩) N N)))
  have e : t = flat m n (powF xs) := k8.only (isM_flat m n _) (fun a b ha hb => by unfold powT; rw [if_pos (.inl ha)])
  refine ⟨.agg #[.int .i64 m, .int .i64 n, .slice (some ⟨gz, 0, none⟩) N N], ?_, some ⟨gz, 0, none⟩, N, ?_, ?_, ?_, ?_, ?_⟩
  ·unfold set3 at e0 e1 e2
   simp [results, Try.results23, go_sem, e0, e1, e2]
  ·rw [flat_length, HN.out]
  ·rw [flat_length, HN.out]; exact Nat.le_refl _
  ·rw [flat_length, HN.out, ← e]
   exact ht.own (own_set3 k9 (by simp [Value.ownBlock]; omega) _ _ _)
  ·exact hg.fldP ((fld_set3 k7 (Ne.symm hgfr) _ _ _).imp ht.block ht.block)
  ·exact hg.past (by omega) (ht.past (past_set3 k6 (.inr (by omega)) _ _ _) (Nat.le_refl _))
end Go.Proofs.Ytjoghbmedfmioab.Mat

namespace Go.Proofs.Ytjoghbmedfmioab.Ms
open Go.RowKit Go.Shelf F8 Poly GF Rd
attribute [local go_sem] Oper.semAt_some
structure Co where
 b : Nat
 g : Nat
 bp : Nat
 bh : Nat
 n : Nat
 k : Nat
 d : Nat
 a : Nat
 v : Nat
 nx : Nat
 aa : Nat
 nw : Nat
 nz : Nat
 xs : List F8
 X : Option Addr
 cX : Nat
 W : Option Addr
 cW : Nat
 Z : Option Addr
 cZ : Nat
 Ap : Option Addr
 cp : Nat
 Ah : Option Addr
 ch : Nat
def Co.cs (S : Co) : Array Value := #[.pointer (some ⟨S.g, 0, none⟩), .int .i64 S.n, .int .i64 S.k, .int .i64 S.d, .int .i64 S.a, .int .i64 S.v, .slice S.X S.nx S.cX, .int .i64 S.nx, .int .i64 S.aa, .slice S.W S.nw S.cW, .slice S.Z S.nz S.cZ, .pointer (some ⟨S.bp, 0, none⟩), .pointer (some ⟨S.bh, 0, none⟩)]
structure Co.Ok (S : Co) (w : World) : Prop where
 blk : Block w S.b 72 S.cs
 bg : S.b ≠ S.g
 par : Par S.xs S.n S.k S.d S.a S.v
 a16 : S.a ≤ 16
 xs_ : S.xs = Rd.pts S.nx
 nx_ : S.nx = S.n + S.v
 aa_ : S.aa = 2 * S.a
 nw_ : S.nw = S.nx * S.aa
 nz_ : S.nz = S.v + 1
 bx : BF S.g w S.X S.xs
 cx : S.nx ≤ S.cX
 bw : BF S.g w S.W (Mat.flat S.nx S.aa (Mat.powF S.xs))
 cw : S.nw ≤ S.cW
 bz : BF S.g w S.Z (trim (roots (S.xs.take S.v)))
 cz : S.nz ≤ S.cZ
 cdp : Cd w S.bp S.g S.Ap S.xs S.nx S.cp S.a
 cdh : Cd w S.bh S.g S.Ah (S.xs.drop S.v) S.n S.ch S.d
section
variable {S : Co} {w w' : World}
theorem Co.Ok.fld (h : S.Ok w) : FldP w (some ⟨S.g, 0, none⟩) := h.cdp.fld
theorem Co.Ok.past (h : S.Ok w) (hf : FldP w' (some ⟨S.g, 0, none⟩)) (hp : Past w.heap.size S.g w w') : S.Ok w' :=
 { h with blk := h.blk.past hp h.blk.lt h.bg, bx := h.bx.past hp, bw := h.bw.past hp, bz := h.bz.past hp, cdp := h.cdp.past hf hp, cdh := h.cdh.past hf hp }
theorem Co.Ok.below (h : S.Ok w) (hb : Below w.heap.size w w') : S.Ok w' := h.past (h.fld.below hb) (Past.of_below hb _)
theorem Co.Ok.cells (h : S.Ok w) : w.cell? ⟨S.b, 0, none⟩ = some (.pointer (some ⟨S.g, 0, none⟩)) ∧ w.cell? ⟨S.b, 1, none⟩ = some (.int .i64 S.n) ∧ w.cell? ⟨S.b, 2, none⟩ = some (.int .i64 S.k) ∧ w.cell? ⟨S.b, 3, none⟩ = some (.int .i64 S.d) ∧ w.cell? ⟨S.b, 4, none⟩ = some (.int .i64 S.a) ∧ w.cell? ⟨S.b, 5, none⟩ = some (.int .i64 S.v) ∧ w.cell? ⟨S.b, 6, none⟩ = some (.slice S.X S.nx S.cX) ∧ w.cell? ⟨S.b, 7, none⟩ = some (.int .i64 S.nx) ∧ w.cell? ⟨S.b, 8, none⟩ = some (.int .i64 S.aa) ∧ w.cell? ⟨S.b, 9, none⟩ = some (.slice S.W S.nw S.cW) ∧ w.cell? ⟨S.b, 10, none⟩ = some (.slice S.Z S.nz S.cZ) ∧ w.cell? ⟨S.b, 11, none⟩ = some (.pointer (some ⟨S.bp, 0, none⟩)) ∧ w.cell? ⟨S.b, 12, none⟩ = some (.pointer (some ⟨S.bh, 0, none⟩)) := by
 have hb := h.blk
 refine ⟨?_, ?_, ?_, ?_, ?_, ?_, ?_, ?_, ?_, ?_, ?_, ?_, ?_⟩ <;> (rw [hb.cell]; rfl)
theorem Co.Ok.nums (h : S.Ok w) : 1 ≤ S.a ∧ S.a ≤ 16 ∧ 2 ≤ S.k ∧ S.k ≤ 17 ∧ S.v ≤ 15 ∧ S.d ≤ 254 ∧ S.n ≤ 255 ∧ S.nx ≤ 255 ∧ S.v + S.k = S.a + 1 ∧ S.a + S.k = S.d + 1 ∧ S.d < S.n ∧ S.nx = S.n + S.v := by
 have h1 := h.par.vk; have h2 := h.par.ak; have h3 := h.par.k2; have h4 := h.par.dn; have h5 := h.par.n255; have h6 := h.a16; have h7 := h.nx_; have h8 := h.cdp.k1
 refine ⟨?_, ?_, ?_, ?_, ?_, ?_, ?_, ?_, ?_, ?_, ?_, ?_⟩ <;> omega
end
section
variable {S : Co} {w : World} (h : S.Ok w)
include h
theorem isNone_calls : Calls Try.prog 25 #[.pointer (some ⟨S.b, 0, none⟩)] w fun e w' => e = .returned (.bool false) ∧ w = w' := by
 obtain ⟨c0, c1, -⟩ := h.cells
 have hn : ((S.n : Int) == 0) = false := by have := h.nums; simp; omega
 go_enter Try.func25, Try.ntmps25
 go_wp2
 go_ret
 exact ⟨rfl, rfl⟩
theorem alpha_calls : Calls Try.prog 9 #[.pointer (some ⟨S.b, 0, none⟩)] w fun e w' => e = .returned (.int .i64 S.a) ∧ w = w' := by
 obtain ⟨c0, c1, c2, c3, c4, -⟩ := h.cells
 have H := Lib.hid (isNone_calls h)
 go_enter Try.func9, Try.ntmps9
 go_wp2_with (go_at_call 25; refine H.out.mono ?_; rintro e w1 ⟨rfl, rfl⟩)
 go_ret
 exact ⟨rfl, rfl⟩
set_option maxRecDepth 100000 in
theorem b_calls : Calls Try.prog 10 #[.pointer (some ⟨S.b, 0, none⟩)] w fun e w' => e = .returned (.int .i64 (S.k * S.a : Nat)) ∧ Below w.heap.size w w' := by
 obtain ⟨c0, c1, c2, c3, c4, -⟩ := h.cells
 have H := Lib.hid (isNone_calls h)
 have hn := h.nums
 obtain ⟨q, hq⟩ : ∃ q, S.k * S.a = q := ⟨_, rfl⟩
 have hq2 : (S.k : Int) * (S.a : Int) = (q : Int) := by rw [← hq]; simp
 have hqb : q ≤ 17 * 16 := by rw [← hq]; exact Nat.mul_le_mul (by omega) (by omega)
 have hmx : Try.prog.follows .mixedOrders = true := by kernel_rfl
 have HW : Hid (IntKind.i64.wrap ((S.k : Int) * (S.a : Int)) = (q : Int)) := Lib.hid (by rw [hq2]; exact IntWalk.i64_in _ (by omega))
 rw [hq]
 clear hq hn hq2 h
 go_enter Try.func10, Try.ntmps10
 go_wp2_with (go_at_call 25; refine H.out.mono ?_; rintro e w1 ⟨rfl, rfl⟩)
 refine wp_region_still_tail 9 hmx (by kernel_rfl) ?_
 simp only [List.take_succ_cons, List.take_zero, List.drop_succ_cons, List.drop_zero]
 iterate 9 still_step
 refine wpStill_nil ?_
 go_wp2
 go_ret
 exact ⟨ret_int HW.out, (Below.refl _ _).drew⟩
end
end Go.Proofs.Ytjoghbmedfmioab.Ms
