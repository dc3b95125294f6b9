/- Of the program, joined: PolyCode2, PolySt, PolyCode3, PolyCode4, PolyCode5. -/
import Derived.Test.YtjoghbmedfmioabGreatPt05
import Derived.Laws.CopyOwn
import Derived.Test.YtjoghbmedfmioabGreatPt04
namespace Go.Proofs.YtjoghbmedfmioabGreat.Poly
open Go.RowKit Go.Shelf F8 GF
attribute [local go_sem] Oper.semAt_some
set_option maxHeartbeats 1000000 in
theorem trim_calls (A : Option Addr) (p : List F8) (m c : Nat) (w : World) (hl : p.length = m) (hb : Bytes w A (bs p)) (hc : m ≤ c) (hm : m ≤ 5000) :
  Calls Tryz.prog 99 #[.slice A m c] w fun e w' => Res w w' e (trim p) := by
 have HB := Lib.hid hb
 have hle : len p ≤ m := by have := len_le p; omega
 obtain ⟨t, ht⟩ : ∃ t, trim p = t := ⟨_, rfl⟩
 obtain ⟨n, hn⟩ : ∃ n, len p = n := ⟨_, rfl⟩
 have htn : t.length = n := by rw [← ht, ← hn]; rfl
 rw [hn] at hle
 have HT := Lib.hid ht
 have HN := Lib.hid hn
 have HTN := Lib.hid htn
 clear hb ht hn htn
 go_enter Tryz.func99, Tryz.ntmps99
 go_wp2_with (first
  | (go_at_call 87; refine (trimmed_calls A p m c _ hl HB.out hc (by omega)).mono ?_; rintro e w1 ⟨A2, rfl, hcut, hB1⟩; have HB2 := Lib.hid (hcut.bytes (HB.out.below hB1)); rw [HN.out]; rw [HT.out] at HB2)
  | (go_at_call 53; refine (clone_calls A2 t n c _ HTN.out HB2.out (by omega) (by omega)).mono ?_; rintro e w2 ⟨A3, c3, rfl, hc3, hO3, hB3⟩))
 go_ret
 rw [HT.out]
 have hsz := hB1.size
 exact ⟨A3, c3, rfl, hc3, hO3.more hsz, hB1.trans (hB3.mono hsz)⟩
theorem Own.block {w : World} {B : Nat} {e : TypeId} {g n : Nat} {xs : List Value} (h : Own w B e (.slice (some ⟨g, 0, none⟩) n n) xs) : Block w g e xs.toArray := by
 rcases h.2 with ⟨h1, _⟩ | ⟨g', cap, cur, h1, h2, h3, h4, h5, h6, h7⟩
 ·cases h1
 ·injection h1 with h1 h8 h9
  injection h1 with h1
  injection h1 with h1
  subst h1 h9
  have : cur.toList = xs := by rw [← h7, List.take_of_length_le (by simp [h6, ← h8])]
  rw [← this]
  exact h3
theorem Own.of_block {w : World} {B : Nat} {e : TypeId} {g n : Nat} {xs : List Value} (h : Block w g e xs.toArray) (hB : B ≤ g) (hn : xs.length = n) (hm : n ≤ maxLen) : Own w B e (.slice (some ⟨g, 0, none⟩) n n) xs := by
 subst hn
 exact ⟨by simp, .inr ⟨g, xs.length, xs.toArray, rfl, hB, h, Nat.le_refl _, hm, by simp, by simp⟩⟩
theorem coef_set (s : List F8) (k : Nat) (x : F8) (hk : k < s.length) (i : Nat) : coef (s.set k x) i = if i = k then x else coef s i := by
 unfold coef
 rw [List.getD_eq_getElem?_getD, List.getD_eq_getElem?_getD, List.getElem?_set]
 by_cases e : i = k
 ·subst e; simp [hk]
 ·rw [if_neg (Ne.symm e), if_neg e]
theorem bvs_set (s : List F8) (k : Nat) (x : F8) : (bv (bs s)).toArray.setIfInBounds k (.int .u8 (x.n : Int)) = (bv (bs (s.set k x))).toArray := by
 simp [bv, bs, List.map_set]
theorem bvs_get (s : List F8) (k : Nat) (hk : k < s.length) : (bv (bs s)).toArray[k]? = some (.int .u8 ((coef s k).n : Int)) := by
 rw [coef_of_lt hk]
 simp [bv, bs, hk]
theorem add_still (x y : F8) (w : World) : Calls Tryz.prog 89 #[.int .u8 x.n, .int .u8 y.n] w fun e w' => e = .returned (.int .u8 (x + y).n) ∧ w' = w :=
 (add_calls x.n y.n x.h y.h w).mono fun _ _ ⟨h1, h2⟩ => ⟨h1, h2.symm⟩
end Go.Proofs.YtjoghbmedfmioabGreat.Poly

namespace Go.Proofs.YtjoghbmedfmioabGreat.Poly
open Go.RowKit F8 GF
section
variable {w0 w w' : World} {g : Nat} {ls : List (Option Addr × List F8)} {A B : Option Addr} {p q : List F8}
theorem bytes_far (h : Bytes w A (bs p)) (hg : p ≠ [] → ∀ a, A = some a → a.block ≠ g) (hp : Past w.heap.size g w w') : Bytes w' A (bs p) := by
 refine ⟨fun k u hu => ?_, bs_lt p⟩
 obtain ⟨b, off, rfl, hc⟩ := h.row k u hu
 refine ⟨b, off, rfl, ?_⟩
 rw [← hc]
 exact World.cell?_of_block (hp.block b (cell_lt hc) (hg (by rintro rfl; simp [bs, bv] at hu) _ rfl))
theorem own_block {B0 : Nat} {e : TypeId} {xs : List Value} {n c : Nat} (h : Own w B0 e (.slice A n c) xs) : ∀ a, A = some a → B0 ≤ a.block := by
 intro a ha
 rcases h.2 with ⟨h1, _⟩ | ⟨b, cap, cur, h1, h2, _⟩
 ·injection h1 with h1; rw [h1] at ha; cases ha
 ·injection h1 with h1; rw [h1] at ha; cases ha; exact h2
end
theorem own_ne {w : World} {g B : Nat} {e t : TypeId} {v : Value} {xs : List Value} {cs : Array Value} (h : Own w B e v xs) (hb : Block w g t cs) (hne : e ≠ t) : v.ownBlock ≠ some g := by
 rcases h.2 with ⟨rfl, _⟩ | ⟨b, cap, cur, rfl, _, hh, _⟩
 ·simp [Value.ownBlock]
 ·intro e1
  obtain rfl : b = g := by simpa [Value.ownBlock] using e1
  unfold Block at hb
  rw [hh] at hb
  simp only [Option.some.injEq, Obj.cells.injEq] at hb
  exact hne hb.2.1
theorem own_keep {w w' : World} {g B : Nat} {v : Value} {xs : List Value} (h : Own w B 5 v xs) (hf : FldP w (some ⟨g, 0, none⟩)) (hp : Past w.heap.size g w w') : Own w' B 5 v xs := by
 refine h.grown (row := some g) ⟨hp.os, hp.tape, hp.output, hp.size, fun k hk hn => hp.block k hk (fun e => hn (by rw [e]))⟩ (.inr ?_)
 rcases hf.fld with hb | hb
 ·exact own_ne h hb (by decide)
 ·exact own_ne h hb (by decide)
theorem _root_.Go.Proofs.YtjoghbmedfmioabGreat.GF.Fld.kept_grown {w w' : World} {g B : Nat} {row : Option Nat} (h : Fld w g) (hw : w.grownBy w' row) (hg : g < B) (hr : ∀ k, row = some k → B ≤ k) : Fld w' g :=
 have e := hw.block g h.lt (fun e => by have := hr g e.symm; omega)
 h.imp (fun h => e.trans h) (fun h => e.trans h)
end Go.Proofs.YtjoghbmedfmioabGreat.Poly

namespace Go.Proofs.YtjoghbmedfmioabGreat.Poly
open Go.RowKit Go.Shelf F8 GF
attribute [local go_sem] Oper.semAt_some
structure But (B : Nat) (S : Nat → Prop) (w w' : World) : Prop where
 os : w'.os = w.os
 tape : w'.tape = w.tape
 output : w'.output = w.output
 size : w.heap.size ≤ w'.heap.size
 block : ∀ k, k < B → ¬ S k → w'.heap[k]? = w.heap[k]?
section
variable {B : Nat} {S : Nat → Prop} {a w w' : World}
theorem But.refl (B : Nat) (S : Nat → Prop) (w : World) : But B S w w := ⟨rfl, rfl, rfl, Nat.le_refl _, fun _ _ _ => rfl⟩
theorem But.trans (h : But B S a w) (k : But B S w w') : But B S a w' :=
 ⟨k.os.trans h.os, k.tape.trans h.tape, k.output.trans h.output, Nat.le_trans h.size k.size, fun i hi hn => (k.block i hi hn).trans (h.block i hi hn)⟩
theorem But.of_past {g : Nat} (h : Past B g a w) (hg : S g) : But B S a w := ⟨h.os, h.tape, h.output, h.size, fun i hi hn => h.block i hi (fun e => hn (e ▸ hg))⟩
theorem But.mono {B' : Nat} {S' : Nat → Prop} (h : But B S a w) (hB : B' ≤ B) (hS : ∀ k, k < B' → S k → S' k) : But B' S' a w := ⟨h.os, h.tape, h.output, h.size, fun i hi hn => h.block i (by omega) (fun e => hn (hS i hi e))⟩
theorem But.drew (h : But B S a w) : But B S a w.drew := ⟨h.os, h.tape, h.output, h.size, h.block⟩
theorem But.setCell (h : But B S a w) {p : Addr} (hp : S p.block ∨ B ≤ p.block) (u : Value) : But B S a (w.setCell p u) :=
 h.trans ⟨rfl, rfl, rfl, by simp [World.setCell], fun k hk hn => Below.heap_setCell _ _ _ _ (by rintro rfl; rcases hp with hp | hp; exact hn hp; omega)⟩
theorem But.bytes {A : Option Addr} {p : List F8} (h : But w.heap.size S w w') (hb : Bytes w A (bs p)) (hg : p ≠ [] → ∀ a, A = some a → ¬ S a.block) : Bytes w' A (bs p) := by
 refine ⟨fun k u hu => ?_, bs_lt p⟩
 obtain ⟨b, off, rfl, hc⟩ := hb.row k u hu
 refine ⟨b, off, rfl, ?_⟩
 rw [← hc]
 exact World.cell?_of_block (h.block b (cell_lt hc) (hg (by rintro rfl; simp [bs, bv] at hu) _ rfl))
end
theorem past_cell {B g : Nat} {w w' : World} (h : Past B g w w') (p : Addr) (hb : p.block < B) (hn : p.block ≠ g) : w'.cell? p = w.cell? p := World.cell?_of_block (h.block _ hb hn)
theorem own_cell {w : World} {B g M C k : Nat} {s : List F8} (h : Own w B 5 (.slice (some ⟨g, 0, none⟩) M C) (bv (bs s))) (hs : s.length = M) (hk : k < M) : w.cell? ⟨g, k, none⟩ = some (.int .u8 ((coef s k).n : Int)) := by
 have hl : (bv (bs s)).length = M := by rw [bvs_length, hs]
 rw [Own.cellAt h hl k (by omega), coef_of_lt (by omega)]
 simp [bv, bs]
theorem own_set {w : World} {B g M C k : Nat} {s : List F8} {x : F8} (h : Own w B 5 (.slice (some ⟨g, 0, none⟩) M C) (bv (bs s))) (hs : s.length = M) : Own (w.setCell ⟨g, k, none⟩ (.int .u8 (x.n : Int))) B 5 (.slice (some ⟨g, 0, none⟩) M C) (bv (bs (s.set k x))) := by
 have hl : (bv (bs s)).length = M := by rw [bvs_length, hs]
 have := Own.set_ h hl k (.int .u8 (x.n : Int))
 rwa [show (bv (bs s)).set k (.int .u8 (x.n : Int)) = bv (bs (s.set k x)) by simp [bv, bs, List.map_set]] at this
theorem Fld.ne_own {w : World} {gf g B M C : Nat} {xs : List Value} (hf : Fld w gf) (h : Own w B 5 (.slice (some ⟨g, 0, none⟩) M C) xs) : gf ≠ g := by
 rintro rfl
 rcases hf with hb | hb <;> exact own_ne h hb (by decide) rfl
theorem mul_f (gf : Nat) (x y : F8) (w : World) (hf : Fld w gf) :
  Calls Tryz.prog 90 #[.pointer (some ⟨gf, 0, none⟩), .int .u8 x.n, .int .u8 y.n] w fun e w' => e = .returned (.int .u8 (x * y).n) ∧ Fld w' gf ∧ Past w.heap.size gf w w' :=
 (mul_calls (some ⟨gf, 0, none⟩) x.n y.n x.h y.h w (FldP.of hf)).mono fun _ _ ⟨h1, h2, h3⟩ => ⟨h1, h2.fld, h3⟩
def Added (Bo gf g1 M C off : Nat) (s q : List F8) (c : F8) (w : World) (e : Ending) (w' : World) : Prop :=
 e = .returned (.tuple #[]) ∧ (∃ s', s'.length = s.length ∧ Eqv s' (padd s (pmul (mono off c) q)) ∧ Own w' Bo 5 (.slice (some ⟨g1, 0, none⟩) M C) (bv (bs s'))) ∧ Fld w' gf ∧ But w.heap.size (fun k => k = g1 ∨ k = gf) w w'
def Sofar (s t q : List F8) (off k : Nat) (c : F8) : Prop := t.length = s.length ∧ ∀ i, coef t i = coef s i + if off ≤ i ∧ i < off + k then c * coef q (i - off) else 0
theorem Sofar.start (s q : List F8) (off : Nat) (c : F8) : Sofar s s q off 0 c := ⟨rfl, fun i => by rw [if_neg (by omega), add_zero]⟩
theorem Sofar.at_ {s t q : List F8} {off k : Nat} {c : F8} (h : Sofar s t q off k c) : coef t (off + k) = coef s (off + k) := by rw [h.2, if_neg (by omega), add_zero]
theorem Sofar.step {s t q : List F8} {off k : Nat} {c : F8} (h : Sofar s t q off k c) (hk : off + k < s.length) : Sofar s (t.set (off + k) (coef t (off + k) + coef q k * c)) q off (k + 1) c := by
 refine ⟨by rw [List.length_set, h.1], fun i => ?_⟩
 rw [coef_set t (off + k) _ (by rw [h.1]; exact hk) i]
 by_cases e : i = off + k
 ·subst e
  rw [if_pos rfl, if_pos (by omega), h.at_, show off + k - off = k by omega, mul_comm]
 ·rw [if_neg e, h.2]
  congr 1
  by_cases e2 : off ≤ i ∧ i < off + k
  ·rw [if_pos e2, if_pos (by omega)]
  ·rw [if_neg e2, if_neg (by omega)]
theorem Sofar.all {s t q : List F8} {off : Nat} {c : F8} (h : Sofar s t q off q.length c) : Eqv t (padd s (pmul (mono off c) q)) := fun i => by
 rw [h.2, coef_padd, coef_mono_pmul]
 congr 1
 by_cases e : i < off
 ·rw [if_pos e, if_neg (by omega)]
 ·rw [if_neg e]
  by_cases e2 : i < off + q.length
  ·rw [if_pos (by omega)]
  ·rw [if_neg (by omega), coef_of_le (p := q) (by omega), mul_zero]
theorem add_zero_mono (s q : List F8) (off : Nat) : Eqv s (padd s (pmul (mono off 0) q)) := fun i => by
 rw [coef_padd, coef_mono_pmul, zero_mul]
 split <;> rw [add_zero]
set_option maxRecDepth 100000 in
set_option maxHeartbeats 2000000 in
theorem addTimes_calls (Bo gf g1 M C off ls cs : Nat) (A1 B : Option Addr) (s q : List F8) (n d : Nat) (c : F8) (w : World) (hf : Fld w gf) (hS : Own w Bo 5 (.slice (some ⟨g1, 0, none⟩) M C) (bv (bs s))) (hsl : s.length = M) (hl : q.length = n) (hA : 0 < n → A1 = some ⟨g1, off, none⟩)
  (hoff : off + n ≤ s.length) (hls : n ≤ ls) (hb : Bytes w B (bs q)) (hfar : q ≠ [] → ∀ a, B = some a → a.block ≠ g1 ∧ a.block ≠ gf) (hn : n ≤ 1000000) (_ : s.length ≤ 1000000) :
  Calls Tryz.prog 86 #[.pointer (some ⟨gf, 0, none⟩), .slice A1 ls cs, .slice B n d, .int .u8 c.n] w (Added Bo gf g1 M C off s q c w) := by
 have hne := Fld.ne_own hf hS
 have hbk := Own.blk hS
 by_cases c0 : c = 0
 ·have hx0 : ((c.n : Int) == 0) = true := by rw [c0]; rfl
  go_enter Tryz.func86, Tryz.ntmps86
  go_wp2
  refine bodyPost_ret (results_none rfl _ _ _) rfl ?_
  exact ⟨rfl, ⟨s, rfl, by rw [c0]; exact add_zero_mono s q off, hS⟩, hf, But.refl _ _ _⟩
 ·have hx0 : ((c.n : Int) == 0) = false := n_beq0 c0
  have HB := Lib.hid hb
  have HL := Lib.hid hl
  have HF := Lib.hid hf
  have HS := Lib.hid hS
  have HSL := Lib.hid hsl
  have HFar := Lib.hid hfar
  have HA := Lib.hid hA
  clear hb hl hf hS hfar hA hsl
  go_enter Tryz.func86, Tryz.ntmps86
  go_wp2
  go_loopw [14] (fun i wr => ∃ (k : Nat) (t : List F8), k ≤ n ∧ i = .int .i64 k ∧ Hid (Sofar s t q off k c) ∧ Hid (Own wr Bo 5 (.slice (some ⟨g1, 0, none⟩) M C) (bv (bs t))) ∧ Hid (Fld wr gf) ∧ Hid (But w.heap.size (fun k => k = g1 ∨ k = gf) w wr)) (fun i _ => n - (intOf i).toNat)
  case atStart => exact ⟨0, s, by omega, rfl, Lib.hid (Sofar.start s q off c), HS, HF, Lib.hid (But.refl _ _ _)⟩
  case round =>
   obtain ⟨k, t, hk, rfl, HT, HSr, HFr, HU⟩ := hrel
   by_cases hkk : k < n
   ·have hq0 : q ≠ [] := by intro e; have := HL.out; rw [e] at this; simp at this; omega
    have hbq := HU.out.bytes HB.out (fun h a ha hS => by have := HFar.out h a ha; omega)
    obtain ⟨b, o, rfl⟩ := where_ HB.out (by have := HL.out; omega)
    have hcell := cellAt hbq k (by have := HL.out; omega)
    obtain ⟨x, hx⟩ : ∃ x, coef q k = x := ⟨_, rfl⟩
    obtain ⟨y, hy⟩ : ∃ y, coef t (off + k) = y := ⟨_, rfl⟩
    have htl : off + k < t.length := by rw [HT.out.1]; omega
    have htM : t.length = M := by rw [HT.out.1, HSL.out]
    have HTM := Lib.hid htM
    have hc2 := own_cell HSr.out htM (k := off + k) (by omega)
    have hf2 := Own.frozenAt HSr.out (by rw [bvs_length, htM]) (off + k)
    have hg1 := (Own.blk HSr.out).2
    clear htM
    have HT2 : Hid (Sofar s (t.set (off + k) (y + x * c)) q off (k + 1) c) := Lib.hid (by rw [← hx, ← hy]; exact HT.out.step (by omega))
    rw [hx] at hcell
    rw [hy] at hc2
    have hkl : k < ls := by omega
    obtain rfl : A1 = some ⟨g1, off, none⟩ := HA.out (by omega)
    clear hx hy hbq hq0
    go_wp2_with fail
    go_region_with (first
     | (go_at_call 90; refine (mul_f gf x c _ (show Fld wr.drew gf from HFr.out)).mono ?_; rintro e w2 ⟨rfl, hF2, hP2⟩; have hc3 := (past_cell hP2 ⟨g1, off + k, none⟩ hg1 (by simp; omega)).trans (show wr.drew.cell? ⟨g1, off + k, none⟩ = _ from hc2); have HS2 := Lib.hid (own_keep (w' := w2) (HSr.out.drew) (FldP.of (show Fld wr.drew gf from HFr.out)) hP2); have hf3 := Own.frozenAt HS2.out (by rw [bvs_length, HTM.out]) (off + k); have HF2 := Lib.hid hF2; have HP2 := Lib.hid hP2; clear hF2 hP2)
     | (go_at_call 89; refine (add_still y (x * c) _).mono ?_; rintro e w3 ⟨rfl, rfl⟩))
    all_goals
     have HS3 : Hid (Own (w3.setCell ⟨g1, off + k, none⟩ (.int .u8 ((y + x * c).n : Int))) Bo 5 (.slice (some ⟨g1, 0, none⟩) M C) (bv (bs (t.set (off + k) (y + x * c))))) := Lib.hid (own_set HS2.out HTM.out)
     have HF3 : Hid (Fld (w3.setCell ⟨g1, off + k, none⟩ (.int .u8 ((y + x * c).n : Int))) gf) := Lib.hid (HF2.out.imp (fun h => h.far hne _) (fun h => h.far hne _))
     have HU3 : Hid (But w.heap.size (fun k => k = g1 ∨ k = gf) w (w3.setCell ⟨g1, off + k, none⟩ (.int .u8 ((y + x * c).n : Int)))) := Lib.hid ((HU.out.drew.trans (But.of_past (HP2.out.mono HU.out.size) (.inr rfl))).setCell (p := ⟨g1, off + k, none⟩) (.inl (.inl rfl)) _)
     clear HA hc3 hf3 hc2 hf2 hcell
     go_wp2
     go_roundw
     case rel => exact ⟨k + 1, _, by omega, by go_num, HT2, HS3, HF3, HU3⟩
     case measure => simp [intOf]; omega
   ·obtain rfl : k = n := by omega
    go_wp2
    go_end0
    exact ⟨rfl, ⟨t, HT.out.1, by have := HT.out; rw [← HL.out] at this; exact this.all, HSr.out⟩, HFr.out, HU.out⟩
end Go.Proofs.YtjoghbmedfmioabGreat.Poly

namespace Go.Proofs.YtjoghbmedfmioabGreat.Poly
open Go.RowKit Go.Shelf F8 GF
attribute [local go_sem] Oper.semAt_some
def IsF (w0 w : World) (pf : Option Addr) (g : Nat) : Prop := (pf = none ∧ w.heap.size ≤ g) ∨ (pf = some ⟨g, 0, none⟩ ∧ g < w0.heap.size)
theorem IsF.ne {w0 w : World} {pf : Option Addr} {g k : Nat} (h : IsF w0 w pf g) (h1 : w0.heap.size ≤ k) (h2 : k < w.heap.size) : k ≠ g := by
 rcases h with ⟨_, h⟩ | ⟨_, h⟩ <;> omega
theorem IsF.past {w0 w a b : World} {pf : Option Addr} {g : Nat} (h : IsF w0 w pf g) (hw : w0.heap.size ≤ w.heap.size) (hp : Past w0.heap.size g a b) : Past w0.heap.size (rb w0 pf) a b := by
 rcases h with ⟨rfl, h⟩ | ⟨rfl, h⟩
 ·exact Past.of_below (hp.below (by omega)) _
 ·exact hp
theorem IsF.fldP {w0 w w' : World} {pf : Option Addr} {g : Nat} (h : IsF w0 w pf g) (hf : Fld w' g) : FldP w' pf := by
 rcases h with ⟨rfl, h⟩ | ⟨rfl, h⟩
 ·exact .inl rfl
 ·exact FldP.of hf
theorem IsF.far {w0 w : World} {pf A : Option Addr} {p : List F8} {g : Nat} (h : IsF w0 w pf g) (hw : w0.heap.size ≤ w.heap.size) (hfar : Far pf A p) (hb : Bytes w0 A (bs p)) : p ≠ [] → ∀ a, A = some a → a.block ≠ g ∧ a.block < w0.heap.size := by
 intro hp a ha
 obtain ⟨b, off, e⟩ := where_ hb (List.length_pos_iff.2 hp)
 obtain ⟨b', off', e', hc⟩ := cellF hb 0 (List.length_pos_iff.2 hp)
 rw [ha] at e e'
 cases e; cases e'
 have hlt := cell_lt hc
 refine ⟨?_, hlt⟩
 rcases h with ⟨rfl, h⟩ | ⟨rfl, h⟩
 ·simp at hlt ⊢; omega
 ·exact hfar hp _ _ ha rfl
def NewF (w0 : World) (pf : Option Addr) (w : World) (e : Ending) (w' : World) : Prop :=
 ∃ g, e = .returned (.pointer (some ⟨g, 0, none⟩)) ∧ IsF w0 w pf g ∧ Fld w' g ∧ Below w.heap.size w w'
theorem orNew_f (pf : Option Addr) (w0 w : World) (hf : FldP w0 pf) (hb : Below w0.heap.size w0 w) : Calls Tryz.prog 82 #[.pointer pf] w (NewF w0 pf w) := by
 have hfw : FldP w pf := hf.below hb
 refine (orNew_calls pf w hfw).mono ?_
 rintro e w' ⟨g, h1, ⟨h2, rfl⟩ | ⟨h2, h3, h4⟩⟩
 ·subst h2
  exact ⟨g, h1, .inr ⟨rfl, hf.fld.lt⟩, hfw.fld, Below.refl _ _⟩
 ·subst h3 h4
  exact ⟨_, h1, .inl ⟨h2, Nat.le_refl _⟩, Fld.new w, (Below.refl _ _).alloc (Nat.le_refl _) _⟩
theorem eval_drop (p : List F8) (x : F8) (k : Nat) : eval (p.drop k) x = eval (p.drop (k + 1)) x * x + coef p k := by
 by_cases h : k < p.length
 ·rw [List.drop_eq_getElem_cons h, coef_of_lt h, mul_comm, F8.add_comm]
  rfl
 ·rw [List.drop_eq_nil_of_le (by omega), List.drop_eq_nil_of_le (by omega), coef_of_le (by omega)]
  show (0 : F8) = 0 * x + 0
  rw [zero_mul, add_zero]
def AtRes (pf : Option Addr) (y : F8) (w : World) (e : Ending) (w' : World) : Prop := e = .returned (.int .u8 y.n) ∧ FldP w' pf ∧ Past w.heap.size (rb w pf) w w'
set_option maxRecDepth 100000 in
set_option maxHeartbeats 2000000 in
theorem at_calls (A : Option Addr) (p : List F8) (m c : Nat) (w : World) (hl : p.length = m) (hb : Bytes w A (bs p)) (hm : m ≤ 5000) (pf : Option Addr) (hf : FldP w pf) (hfar : Far pf A p) (x : F8) :
  Calls Tryz.prog 72 #[.pointer pf, .slice A m c, .int .u8 x.n] w (AtRes pf (eval p x) w) := by
 have HB := Lib.hid hb
 have HL := Lib.hid hl
 have hB0 : Below w.heap.size w ((w.alloc (.cells #[.pointer pf] 30)).alloc (.cells #[.int .u8 x.n] 5)) := ((Below.refl _ w).alloc (Nat.le_refl _) _).alloc (by simp) _
 have hbf0 : Block ((w.alloc (.cells #[.pointer pf] 30)).alloc (.cells #[.int .u8 x.n] 5)) w.heap.size 30 #[.pointer pf] := (Block.new w _ _).alloc _
 have hbx0 : Block ((w.alloc (.cells #[.pointer pf] 30)).alloc (.cells #[.int .u8 x.n] 5)) (w.heap.size + 1) 5 #[.int .u8 x.n] := by
  have := Block.new (w.alloc (.cells #[.pointer pf] 30)) 5 #[.int .u8 x.n]; rwa [World.size_alloc] at this
 clear hb hl
 refine (callsIn_wide (n := 9)).1 (callsIn_of_wp_marks Tryz.func72 rfl trivial ?_ rfl)
 simp only [Tryz.ntmps72, List.size_toArray, List.length_cons, List.length_nil, Nat.reduceAdd, Nat.reduceSub, Array.replicate_succ, Array.replicate_zero, List.push_toArray, List.append_toArray, List.nil_append, List.cons_append]
 refine wpIn_wide.2 ?_
 go_wp2_with (first
  | (go_at_call 82; refine (orNew_f pf w _ hf hB0).mono ?_; rintro e w1 ⟨g, rfl, hg, hF1, hB1⟩; have hbf1 := hbf0.below hB1 (by simp; omega); have hbx1 := hbx0.below hB1 (by simp); have hcf1 := hbf1.cell 0; have hff1 := hbf1.frozen 0)
  | (go_at_call 88; refine (downward_calls _ _ _ _).mono ?_; rintro e w' ⟨rfl, rfl⟩))
 have hs1 : w.heap.size + 2 ≤ w1.heap.size := by have := hB1.size; simp at this; omega
 have hgne : ∀ k, w.heap.size ≤ k → k < w.heap.size + 2 → k ≠ g := fun k h1 h2 => hg.ne h1 (by simp; omega)
 have hglt := hF1.lt
 obtain ⟨w3, hw3⟩ : ∃ w3, ((w1.setCell ⟨w.heap.size, 0, none⟩ (.pointer (some ⟨g, 0, none⟩))).alloc (.cells #[.int .u8 0] 5)).alloc (.cells #[.slice A m c] 35) = w3 := ⟨_, rfl⟩
 have hbf3 : Block w3 w.heap.size 30 #[.pointer (some ⟨g, 0, none⟩)] := by rw [← hw3]; exact ((hbf1.set_ 0 _).alloc _).alloc _
 have hbx3 : Block w3 (w.heap.size + 1) 5 #[.int .u8 x.n] := by rw [← hw3]; exact ((hbx1.far (by simp) _).alloc _).alloc _
 have hF3 : Fld w3 g := by
  rw [← hw3]
  have : g ≠ w.heap.size := fun e => hgne g (by omega) (by omega) rfl
  exact (show Fld (w1.setCell ⟨w.heap.size, 0, none⟩ (.pointer (some ⟨g, 0, none⟩))) g from hF1.imp (fun h => h.far this _) (fun h => h.far this _)).alloc _ |>.alloc _
 have hz : (w1.setCell ⟨w.heap.size, 0, none⟩ (.pointer (some ⟨g, 0, none⟩))).heap.size = w1.heap.size := by simp [World.setCell]
 have hbv3 : Block w3 w1.heap.size 5 #[.int .u8 0] := by
  rw [← hw3]
  have := Block.new (w1.setCell ⟨w.heap.size, 0, none⟩ (.pointer (some ⟨g, 0, none⟩))) 5 #[.int .u8 0]
  rw [hz] at this
  exact this.alloc _
 have hba3 : Block w3 (w1.heap.size + 1) 35 #[.slice A m c] := by
  rw [← hw3]
  have := Block.new ((w1.setCell ⟨w.heap.size, 0, none⟩ (.pointer (some ⟨g, 0, none⟩))).alloc (.cells #[.int .u8 0] 5)) 35 #[.slice A m c]
  rwa [World.size_alloc, hz] at this
 have hB3 : Below w.heap.size w w3 := by
  rw [← hw3]
  exact (((hB0.trans (hB1.mono (by simp; omega))).setCell (p := ⟨w.heap.size, 0, none⟩) (Nat.le_refl _) _).alloc (by rw [hz]; omega) _).alloc (by simp [hz]; omega) _
 have hs3 : w1.heap.size + 2 ≤ w3.heap.size ∧ w3.heap.size ≤ w1.heap.size + 2 := by rw [← hw3]; simp [hz]
 have hfar2 := hg.far (by simp; omega) hfar HB.out
 rw [hw3]
 clear hw3 hz hcf1 hff1 hbf1 hbx1 hbf0 hbx0 hB0 hB1 hF1 hfar hf
 refine wpIn_wide.1 (wpIn_down (n := 9) (by omega) (Bn := w1.heap.size + 1) (m := m) (c := c) (A := A) (by omega) rfl
  (fun k r V => r = p ∧ Bytes V A (bs p) ∧ Block V (w1.heap.size + 1) 35 #[.slice A m c] ∧ Block V w.heap.size 30 #[.pointer (some ⟨g, 0, none⟩)] ∧ Block V (w.heap.size + 1) 5 #[.int .u8 x.n] ∧ Block V w1.heap.size 5 #[.int .u8 (eval (p.drop k) x).n] ∧ Fld V g ∧ Past w.heap.size g w V)
  (fun _ _ => False)
  (fun k r V V' ⟨h1, h2, h3, h4, h5, h6, h7, h8⟩ ht => ⟨h1, ht.bytes h2, ht.block h3, ht.block h4, ht.block h5, ht.block h6, h7.imp ht.block ht.block, ht.past h8 (by omega)⟩)
  (fun _ _ _ h _ => h)
  (fun k r V ⟨h1, h2, h3, _⟩ => ⟨by rw [h1, HL.out], by rw [h1]; exact h2, h3.cell 0⟩)
  p ⟨rfl, HB.out.below hB3, hba3, hbf3, hbx3, by rw [List.drop_eq_nil_of_le (by rw [HL.out]; omega)]; exact hbv3, hF3, Past.of_below hB3 _⟩
  ?a1 ?assign ?body ?done (fun _ _ h => h.elim))
 case assign =>
  intro l k y V K hK
  gi_wp2
  exact hK
 case body =>
  rintro l k r V hk ⟨rfl, h2, h3, h4, h5, h6, h7, h8⟩ hsV
  have hc4 := h4.cell 0
  have hc5 := h5.cell 0
  have hc6 := h6.cell 0
  obtain ⟨v, hv⟩ : ∃ v, eval (r.drop (k + 1)) x = v := ⟨_, rfl⟩
  obtain ⟨y, hy⟩ : ∃ y, coef r k = y := ⟨_, rfl⟩
  have HV : Hid (eval (r.drop k) x = v * x + y) := Lib.hid (by rw [eval_drop, hv, hy])
  rw [hv] at h6 hc6
  rw [hy]
  clear hv hy
  gi_wp2_with (first
   | (refine ⟨trivial, ?_⟩; gi_at_call 90; refine (callsIn_round (mul_f g v x _ h7)).mono ?_; rintro e V2 ⟨rfl, hF2, hP2⟩; have g6 := h6.past hP2 h6.lt (by omega); have gc6 := g6.cell 0; have gf6 := g6.frozen 0)
   | (refine ⟨trivial, ?_⟩; gi_at_call 89; refine (callsIn_round (add_still (v * x) y _)).mono ?_; rintro e V3 ⟨rfl, rfl⟩))
  have hcl : ∃ cs t fr, V.heap[g]? = some (Obj.cells cs t fr) := by rcases h7 with h | h <;> exact ⟨_, _, _, h⟩
  have g8 : Past w.heap.size g w (V3.setCell ⟨w1.heap.size, 0, none⟩ (.int .u8 ((v * x + y).n : Int))) := (h8.trans (hP2.mono (by omega))).setCell (p := ⟨w1.heap.size, 0, none⟩) (.inr (by simp; omega)) _
  refine ⟨(keeps_past hP2 (.inr hcl)).trans ((KeepsOthers.setCell _ _ _).from _), r, rfl, bytes_far HB.out (fun hp a ha => (hfar2 hp a ha).1) g8,
   (h3.past hP2 h3.lt (by omega)).far (by simp) _, (h4.past hP2 h4.lt (hgne _ (by omega) (by omega))).far (by simp; omega) _, (h5.past hP2 h5.lt (hgne _ (by omega) (by omega))).far (by simp; omega) _, ?_, ?_, g8⟩
  ·rw [HV.out]; exact g6.set_ 0 _
  ·exact hF2.imp (fun h => h.far (by simp; omega) _) (fun h => h.far (by simp; omega) _)
 case done =>
  rintro r V ⟨rfl, h2, h3, h4, h5, h6, h7, h8⟩ hD
  have hc6 := h6.cell 0
  go_wp2
  refine ⟨by simp, .inl ⟨_, _, rfl, run_takeDeferred hD, ?_⟩⟩
  have ht : Turn w.heap.size V _ := Turn.put hD rfl (by omega) (.deferred none)
  exact ⟨_, results_tmp rfl _ _ _, rfl, hg.fldP (h7.imp ht.block ht.block), hg.past (by simp; omega) (ht.past h8 (Nat.le_refl _))⟩
end Go.Proofs.YtjoghbmedfmioabGreat.Poly

namespace Go.Proofs.YtjoghbmedfmioabGreat.Poly
open Go.RowKit Go.Shelf F8 GF
attribute [local go_sem] Oper.semAt_some
section
variable {B : Nat} {S : Nat → Prop} {w w' : World}
theorem But.blk {k : Nat} {t : TypeId} {cs : Array Value} (h : But B S w w') (hb : Block w k t cs) (h1 : k < B) (h2 : ¬ S k) : Block w' k t cs := (h.block k h1 h2).trans hb
theorem But.past {g : Nat} (h : But B (· = g) w w') : Past B g w w' := ⟨h.os, h.tape, h.output, h.size, fun k hk hn => h.block k hk hn⟩
theorem keeps_but {l : Nat} (h : But w.heap.size S w w') (hS : ∀ k o, S k → w.heap[k]? = some o → o.isCells = true) : KeepsFrom l w w' :=
 ⟨h.size, fun k o _ hk ho => by
  refine (h.block k (Array.getElem?_eq_some_iff.1 hk).1 ?_).trans hk
  intro hs
  rw [hS k o hs hk] at ho
  cases ho⟩
theorem Block.isCells {k : Nat} {t : TypeId} {cs : Array Value} {o : Obj} (h : Block w k t cs) (ho : w.heap[k]? = some o) : o.isCells = true := by
 unfold Block at h; rw [h] at ho; cases ho; rfl
theorem Fld.isCells {g : Nat} {o : Obj} (h : Fld w g) (ho : w.heap[g]? = some o) : o.isCells = true := by
 rcases h with h | h <;> exact Block.isCells h ho
end
def hi (q : List F8) (k : Nat) : List F8 := List.replicate k 0 ++ q.drop k
theorem coef_hi (q : List F8) (k i : Nat) : coef (hi q k) i = if i < k then 0 else coef q i := by
 unfold coef hi
 rw [List.getD_eq_getElem?_getD, List.getD_eq_getElem?_getD, List.getElem?_append]
 simp only [List.length_replicate, List.getElem?_replicate, List.getElem?_drop]
 by_cases h : i < k
 ·simp [h]
 ·simp [h, show k + (i - k) = i by omega]
theorem hi_step (q : List F8) (k : Nat) : Eqv (hi q k) (padd (hi q (k + 1)) (mono k (coef q k))) := fun i => by
 rw [coef_padd, coef_hi, coef_hi, coef_mono]
 by_cases h : i < k
 ·rw [if_pos h, if_pos (by omega), if_neg (by omega), add_zero]
 ·by_cases e : i = k
  ·subst e; rw [if_neg h, if_pos (by omega), if_pos rfl, zero_add]
  ·rw [if_neg h, if_neg (by omega), if_neg e, add_zero]
theorem hi_all {q : List F8} {k : Nat} (h : q.length ≤ k) : Eqv (hi q k) [] := fun i => by
 rw [coef_hi, coef_nil]
 split
 ·rfl
 ·exact coef_of_le (by omega)
theorem hi_zero (q : List F8) : Eqv (hi q 0) q := fun i => by rw [coef_hi, if_neg (by omega)]
theorem slice_own (g M k : Nat) (hk : k < M) (w : World) :
  (Instr.slice 35 (.slice (some ⟨g, 0, none⟩) M M) (some (.int .i64 (k : Int))) none none).run Tryz.prog w = .ok (.slice (some ⟨g, k, none⟩) (M - k) (M - k)) w := by
 obtain ⟨i, hi, _, hi2, _⟩ := info_parts info_u8
 have hne : ¬ M = k := by omega
 simp [Instr.slice, Instr.sliceBounds, Instr.sliceBound, run_underlying Tryz.underlying35, asIntOf, sizeOf, typeInfo, Sem.run_bind, hi, hi2, addr_add]
 rw [if_pos (by omega), if_neg hne]
theorem trim_zeros (M : Nat) : trim ([] ++ List.replicate M (0 : F8)) = [] := by
 induction M with
 | zero => rfl
 | succ n ih => rw [List.nil_append, List.replicate_succ, trim_cons_of (by simpa using ih), if_pos rfl]
theorem own_trimmed {s : List F8} (h : len s = s.length) : trim s = s := by rw [trim_take_len, h, List.take_length]
theorem Cut.far {A A2 : Option Addr} {p : List F8} {w : World} {g B0 : Nat} (h : Cut A A2) (hb : Bytes w A (bs p)) (hf : p ≠ [] → ∀ a, A = some a → a.block ≠ g ∧ a.block < B0) : trim p ≠ [] → ∀ a, A2 = some a → a.block ≠ g ∧ a.block < B0 := by
 intro hp a ha
 have hp2 : p ≠ [] := by rintro rfl; exact hp rfl
 obtain ⟨b, off, e⟩ := where_ hb (List.length_pos_iff.2 hp2)
 rw [h.same b off e] at ha
 exact hf hp2 a ha
def MulRes (pf : Option Addr) (w : World) (r : List F8) (e : Ending) (w' : World) : Prop := PolyRes pf w w' e r
def ProdAt (V : World) (gp M : Nat) (P Q : List F8) (k : Nat) : Prop := ∃ s : List F8, s.length = M ∧ Eqv s (pmul (hi Q k) P) ∧ Block V gp 5 (bv (bs s)).toArray
theorem ProdAt.turn {V V' : World} {B gp M k : Nat} {P Q : List F8} (h : ProdAt V gp M P Q k) (t : Turn B V V') : ProdAt V' gp M P Q k := by
 obtain ⟨s, h1, h2, h3⟩ := h
 exact ⟨s, h1, h2, t.block h3⟩
set_option maxRecDepth 100000 in
set_option maxHeartbeats 4000000 in
theorem mul_pcalls (A B : Option Addr) (p q : List F8) (m n c d : Nat) (w : World) (hl : p.length = m) (hl2 : q.length = n) (hb : Bytes w A (bs p)) (hb2 : Bytes w B (bs q)) (hc : m ≤ c) (hd : n ≤ d) (hm : m ≤ 5000) (hn : n ≤ 5000) (pf : Option Addr) (hf : FldP w pf) (hfar : Far pf A p) (hfar2 : Far pf B q) :
  Calls Tryz.prog 97 #[.pointer pf, .slice A m c, .slice B n d] w (MulRes pf w (trim (pmul p q))) := by
 obtain ⟨P, hP⟩ : ∃ P, trim p = P := ⟨_, rfl⟩
 obtain ⟨Q, hQ⟩ : ∃ Q, trim q = Q := ⟨_, rfl⟩
 obtain ⟨lp, hlp⟩ : ∃ k, len p = k := ⟨_, rfl⟩
 obtain ⟨lq, hlq⟩ : ∃ k, len q = k := ⟨_, rfl⟩
 have hPl : P.length = lp := by rw [← hP, ← hlp]; rfl
 have hQl : Q.length = lq := by rw [← hQ, ← hlq]; rfl
 have hlp1 : lp ≤ m := by rw [← hlp, ← hl]; exact len_le p
 have hlq1 : lq ≤ n := by rw [← hlq, ← hl2]; exact len_le q
 have HB := Lib.hid hb
 have HB2 := Lib.hid hb2
 have HP := Lib.hid hP
 have HQ := Lib.hid hQ
 have HLP := Lib.hid hlp
 have HLQ := Lib.hid hlq
 have HPL := Lib.hid hPl
 have HQL := Lib.hid hQl
 have hB0 : Below w.heap.size w ((w.alloc (.cells #[.pointer pf] 30)).alloc (.cells #[.slice A m c] 35)) := ((Below.refl _ w).alloc (Nat.le_refl _) _).alloc (by simp) _
 have hbf0 : Block ((w.alloc (.cells #[.pointer pf] 30)).alloc (.cells #[.slice A m c] 35)) w.heap.size 30 #[.pointer pf] := (Block.new w _ _).alloc _
 have hba0 : Block ((w.alloc (.cells #[.pointer pf] 30)).alloc (.cells #[.slice A m c] 35)) (w.heap.size + 1) 35 #[.slice A m c] := by
  have := Block.new (w.alloc (.cells #[.pointer pf] 30)) 35 #[.slice A m c]; rwa [World.size_alloc] at this
 clear hb hb2 hP hQ hlp hlq hPl hQl
 refine (callsIn_wide (n := 9)).1 (callsIn_of_wp_marks Tryz.func97 rfl trivial ?_ rfl)
 simp only [Tryz.ntmps97, List.size_toArray, List.length_cons, List.length_nil, Nat.reduceAdd, Nat.reduceSub, Array.replicate_succ, Array.replicate_zero, List.push_toArray, List.append_toArray, List.nil_append, List.cons_append]
 refine wpIn_wide.2 ?_
 go_wp2_with fail
 refine (trimmed_calls A p m c _ hl (HB.out.below hB0) hc (by omega)).mono ?_
 rintro e w1 ⟨A2, rfl, hcut, hB1⟩
 rw [HLP.out]
 go_wp2_with fail
 refine (trimmed_calls B q n d _ hl2 ((HB2.out.below hB0).below hB1) hd (by omega)).mono ?_
 rintro e w2 ⟨B2, rfl, hcut2, hB2⟩
 rw [HLQ.out]
 have hbf2 := (hbf0.below hB1 (by simp; omega)).below hB2 (by have := hB1.size; simp at this; omega)
 have hba2 := (hba0.below hB1 (by simp)).below hB2 (by have := hB1.size; simp at this; omega)
 have hca2 := hba2.cell 0
 have hfa2 := hba2.frozen 0
 have hcf2 := hbf2.cell 0
 have hs1 := hB1.size
 have hs2 := hB2.size
 simp only [World.size_alloc] at hs1
 have hBw : Below w.heap.size w w2 := (hB0.trans (hB1.mono (by simp; omega))).trans (hB2.mono (by omega))
 by_cases hz : lp = 0 ∨ lq = 0
 ·have hzero : trim (pmul p q) = [] := by
   rcases hz with h | h
   ·exact trim_nil_iff.2 (pmul_zero_left q (len_zero.1 (by rw [HLP.out]; exact h)))
   ·exact trim_nil_iff.2 ((pmul_comm p q).trans (pmul_zero_left p (len_zero.1 (by rw [HLQ.out]; exact h))))
  have HZ := Lib.hid hzero
  have hBw2 := hBw.setCell (p := ⟨w.heap.size + 1, 0, none⟩) (by simp) (.slice A2 lp c)
  by_cases z1 : lp = 0
  ·have k1 : ((lp : Int) == 0) = true := by rw [z1]; rfl
   clear hz hzero z1
   go_wp2
   refine ⟨_, results_tmp rfl _ _ _, none, 0, ?_, ?_, ?_, hf.below hBw2, Past.of_below hBw2 _⟩
   ·rw [HZ.out]; rfl
   ·rw [HZ.out]; exact Nat.le_refl _
   ·rw [HZ.out]; exact Own.nil _ _ _
  ·have k1 : ((lp : Int) == 0) = false := by simp; omega
   have z2 : lq = 0 := by omega
   have k2 : ((lq : Int) == 0) = true := by rw [z2]; rfl
   clear hz hzero z1 z2
   go_wp2
   refine ⟨_, results_tmp rfl _ _ _, none, 0, ?_, ?_, ?_, hf.below hBw2, Past.of_below hBw2 _⟩
   ·rw [HZ.out]; rfl
   ·rw [HZ.out]; exact Nat.le_refl _
   ·rw [HZ.out]; exact Own.nil _ _ _
 ·have k1 : ((lp : Int) == 0) = false := by simp; omega
  have k2 : ((lq : Int) == 0) = false := by simp; omega
  have p1 : 1 ≤ lp := by omega
  have p2 : 1 ≤ lq := by omega
  obtain ⟨M, hM⟩ : ∃ M, lp + lq - 1 = M := ⟨_, rfl⟩
  have hMI : (lp : Int) + (lq : Int) - 1 = (M : Int) := by omega
  have HMI := Lib.hid hMI
  have HM := Lib.hid hM
  have hM2 : M ≤ 50000 := by omega
  clear hz hMI hM
  go_wp2_with fail
  refine (orNew_f pf w _ hf (hBw.setCell (p := ⟨w.heap.size + 1, 0, none⟩) (by simp) _)).mono ?_
  rintro e w4 ⟨g, rfl, hg, hF4, hB4⟩
  obtain ⟨wm, hmk, hOm, hBm⟩ := make_run (w4.setCell ⟨w.heap.size, 0, none⟩ (.pointer (some ⟨g, 0, none⟩))) M (by omega)
  rw [← HMI.out] at hmk
  have hbf4 := (hbf2.far (p := ⟨w.heap.size + 1, 0, none⟩) (by simp) (.slice A2 lp c)).below hB4 (by simp [World.setCell]; omega)
  have hba4 := (hba2.set_ 0 (.slice A2 lp c)).below hB4 (by simp [World.setCell]; omega)
  have hcf4 := hbf4.cell 0
  have hff4 := hbf4.frozen 0
  have hca4 := (hba4.far (p := ⟨w.heap.size, 0, none⟩) (by simp) (.pointer (some ⟨g, 0, none⟩))).cell 0
  go_wp2_with (go_at_call 88; refine (downward_calls _ _ _ _).mono ?_; rintro e w' ⟨rfl, rfl⟩)
  have hs4 := hB4.size
  have hz4 : (w4.setCell ⟨w.heap.size, 0, none⟩ (.pointer (some ⟨g, 0, none⟩))).heap.size = w4.heap.size := by simp [World.setCell]
  have hz2 : (w2.setCell ⟨w.heap.size + 1, 0, none⟩ (.slice A2 lp c)).heap.size = w2.heap.size := by simp [World.setCell]
  rw [hz2] at hs4
  rw [hz4] at hOm hBm
  have hBlk := Own.block hOm
  have hgp := hBlk.lt
  have hglt := hF4.lt
  have hgne : ∀ k, w.heap.size ≤ k → k < w2.heap.size → k ≠ g := fun k h1 h2 => hg.ne h1 (by rw [hz2]; exact h2)
  obtain ⟨w5, hw5⟩ : ∃ w5, (wm.alloc (.cells #[.slice (some ⟨w4.heap.size, 0, none⟩) M M] 35)).alloc (.cells #[.slice B2 lq d] 35) = w5 := ⟨_, rfl⟩
  have hbf5 : Block w5 w.heap.size 30 #[.pointer (some ⟨g, 0, none⟩)] := by rw [← hw5]; exact (((hbf4.set_ 0 _).below hBm (by omega)).alloc _).alloc _
  have hba5 : Block w5 (w.heap.size + 1) 35 #[.slice A2 lp c] := by rw [← hw5]; exact (((hba4.far (p := ⟨w.heap.size, 0, none⟩) (by simp) _).below hBm (by omega)).alloc _).alloc _
  have hgp5 : Block w5 w4.heap.size 5 (bv (bs (List.replicate M 0))).toArray := by rw [← hw5]; exact (hBlk.alloc _).alloc _
  have hbp5 : Block w5 wm.heap.size 35 #[.slice (some ⟨w4.heap.size, 0, none⟩) M M] := by rw [← hw5]; exact (Block.new _ _ _).alloc _
  have hbb5 : Block w5 (wm.heap.size + 1) 35 #[.slice B2 lq d] := by
   rw [← hw5]; have := Block.new (wm.alloc (.cells #[.slice (some ⟨w4.heap.size, 0, none⟩) M M] 35)) 35 #[.slice B2 lq d]; rwa [World.size_alloc] at this
  have hF5 : Fld w5 g := by
   rw [← hw5]
   have e1 : g ≠ w.heap.size := fun e => hgne g (by omega) (by omega) rfl
   exact ((show Fld (w4.setCell ⟨w.heap.size, 0, none⟩ (.pointer (some ⟨g, 0, none⟩))) g from hF4.imp (fun h => h.far e1 _) (fun h => h.far e1 _)).below hBm hglt).alloc _ |>.alloc _
  have hB5 : Below w.heap.size w w5 := by
   rw [← hw5]
   exact ((((((hBw.setCell (p := ⟨w.heap.size + 1, 0, none⟩) (by simp) _).trans (hB4.mono (by rw [hz2]; omega))).setCell (p := ⟨w.heap.size, 0, none⟩) (Nat.le_refl _) _).trans (hBm.mono (by omega))).alloc (by omega) _).alloc (by simp; omega) _)
  have hs5 : wm.heap.size + 2 ≤ w5.heap.size ∧ w5.heap.size ≤ wm.heap.size + 2 := by rw [← hw5]; simp
  have hfa := hcut.far HB.out (hg.far (by rw [hz2]; omega) hfar HB.out)
  have hfb := hcut2.far HB2.out (hg.far (by rw [hz2]; omega) hfar2 HB2.out)
  have hbA5 := hcut.bytes (HB.out.below hB5)
  have hbB5 := hcut2.bytes (HB2.out.below hB5)
  have HBA : Hid (Bytes w A2 (bs (trim p))) := Lib.hid (hcut.bytes HB.out)
  have HBB : Hid (Bytes w B2 (bs (trim q))) := Lib.hid (hcut2.bytes HB2.out)
  rw [HP.out] at hfa hbA5 HBA
  rw [HQ.out] at hfb hbB5 HBB
  have hmx : Tryz.prog.follows .mixedOrders = true := by kernel_rfl
  rw [hw5]
  clear hw5 hmk hcf4 hff4 hca4 hbf4 hba4 hBlk hOm hz4 hz2 hF4 hfar hfar2 hf hbf2 hba2 hca2 hfa2 hcf2 hbf0 hba0
  refine wpIn_wide.1 (wpIn_down (n := 9) (by omega) (Bn := wm.heap.size + 1) (m := lq) (c := d) (A := B2) (by omega) rfl
   (fun k r V => r = Q ∧ Bytes V B2 (bs Q) ∧ Block V (wm.heap.size + 1) 35 #[.slice B2 lq d] ∧ Block V w.heap.size 30 #[.pointer (some ⟨g, 0, none⟩)] ∧ Block V (w.heap.size + 1) 35 #[.slice A2 lp c] ∧ Block V wm.heap.size 35 #[.slice (some ⟨w4.heap.size, 0, none⟩) M M] ∧ ProdAt V w4.heap.size M P Q k ∧ Fld V g ∧ Past w.heap.size g w V)
   (fun _ _ => False)
   (fun k r V V' ⟨h1, h2, h3, h4, h5, h6, h7, h8, h9⟩ ht => ⟨h1, ht.bytes h2, ht.block h3, ht.block h4, ht.block h5, ht.block h6, h7.turn ht, h8.imp ht.block ht.block, ht.past h9 (by omega)⟩)
   (fun _ _ _ h _ => h)
   (fun k r V ⟨h1, h2, h3, _⟩ => ⟨by rw [h1, HQL.out], by rw [h1]; exact h2, h3.cell 0⟩)
   Q ⟨rfl, hbB5, hbb5, hbf5, hba5, hbp5, ⟨List.replicate M 0, by simp, ((trim_nil_iff (p := List.replicate M (0 : F8))).1 (by rw [show List.replicate M (0 : F8) = [] ++ List.replicate M 0 from rfl]; exact trim_zeros M)).trans (pmul_zero_left P (hi_all (by rw [HQL.out]; omega))).symm, hgp5⟩, hF5, Past.of_below hB5 _⟩
   ?a1 ?assign ?body ?done (fun _ _ h => h.elim))
  case assign =>
   intro l k y V K hK
   gi_wp2
   exact hK
  case body =>
   rintro l k r V hk ⟨rfl, h2, h3, h4, h5, h6, ⟨s, hsl, hse, h7⟩, h8, h9⟩ hsV
   have hc4 := h4.cell 0
   have hc5 := h5.cell 0
   have hc6 := h6.cell 0
   obtain ⟨y, hy⟩ : ∃ y, coef r k = y := ⟨_, rfl⟩
   rw [hy]
   have HY := Lib.hid hy
   have HSL := Lib.hid hsl
   have HSE := Lib.hid hse
   have hkM : k < M := by have := HM.out; omega
   have hsx := slice_own w4.heap.size M k hkM
   have hbA : Bytes V A2 (bs P) := bytes_far HBA.out (fun hp a ha => (hfa hp a ha).1) h9
   have HBV := Lib.hid hbA
   clear hy hsl hse hbA
   gi_wp2
   refine region_round_tail 6 hmx (by kernel_rfl) (by kernel_rfl) (fun h => by obtain ⟨a, w, h⟩ := h; exact h) ?_
   simp only [List.take_succ_cons, List.take_zero, List.drop_succ_cons, List.drop_zero]
   iterate 6 still_step
   refine wpStill_nil ?_
   go_wp2_with fail
   refine (addTimes_calls w4.heap.size g w4.heap.size M M k (M - k) (M - k) (some ⟨w4.heap.size, k, none⟩) A2 s P lp c y V.drew h8 (Own.drew (Own.of_block h7 (Nat.le_refl _) (by rw [bvs_length, HSL.out]) (by simp only [maxLen]; omega))) HSL.out HPL.out (fun _ => rfl) (by rw [HSL.out]; have := HM.out; omega) (by have := HM.out; omega) HBV.out.drew (fun hp a ha => ⟨by have := (hfa hp a ha).2; omega, (hfa hp a ha).1⟩) (by omega) (by rw [HSL.out]; omega)).mono ?_
   rintro e V2 ⟨rfl, ⟨s2, g1, g2, g3⟩, hF2, hU2⟩
   rw [HSL.out] at g1
   have G1 := Lib.hid g1
   have G2 := Lib.hid g2
   clear g1 g2
   go_wp2
   have hsz2 : w.heap.size ≤ V.drew.heap.size := by show w.heap.size ≤ V.heap.size; omega
   have hP2 : Past w.heap.size g w V2 := h9.drew.trans (hU2.mono (S' := (· = g)) hsz2 (fun i hi h => by omega)).past
   have hlt : ∀ {i t cs}, Block V i t cs → i < V.drew.heap.size := fun h => h.lt
   refine ⟨((KeepsOthers.drew V).from _).trans (keeps_but hU2 (fun i o hi ho => by rcases hi with rfl | rfl; exact Block.isCells h7 ho; exact Fld.isCells h8 ho)), r, rfl, bytes_far HBB.out (fun hp a ha => (hfb hp a ha).1) hP2,
    hU2.blk h3.drew (hlt h3) (by omega), hU2.blk h4.drew (hlt h4) (by have := hgne w.heap.size (by omega) (by omega); omega), hU2.blk h5.drew (hlt h5) (by have := hgne (w.heap.size + 1) (by omega) (by omega); omega), hU2.blk h6.drew (hlt h6) (by omega), ⟨s2, G1.out, ?_, Own.block g3⟩, hF2, hP2⟩
   have hst := hi_step r k
   rw [HY.out] at hst
   exact G2.out.trans ((padd_congr HSE.out (Eqv.refl _)).trans ((padd_pmul _ _ _).symm.trans (pmul_congr_left P hst.symm)))
  case done =>
   rintro r V ⟨rfl, h2, h3, h4, h5, h6, ⟨s, hsl, hse, h7⟩, h8, h9⟩ hD
   have hc6 := h6.cell 0
   have HSL := Lib.hid hsl
   have HSE := Lib.hid hse
   clear hsl hse
   go_wp2
   refine ⟨by simp, .inl ⟨_, _, rfl, run_takeDeferred hD, ?_⟩⟩
   have ht : Turn w.heap.size V _ := Turn.put hD rfl (by omega) (.deferred none)
   refine ⟨_, results_tmp rfl _ _ _, ?_⟩
   have e1 : Eqv s (pmul p q) := HSE.out.trans ((pmul_congr (hi_zero r) (Eqv.refl P)).trans ((pmul_congr (by rw [← HQ.out]; exact trim_eqv q) (by rw [← HP.out]; exact trim_eqv p)).trans (pmul_comm q p)))
   have e2 : len s = s.length := by
    rw [len_congr e1, len_pmul (by rw [HLP.out]; omega) (by rw [HLQ.out]; omega), HLP.out, HLQ.out, HSL.out]; exact HM.out
   have e3 : trim (pmul p q) = s := by rw [← trim_congr e1]; exact own_trimmed e2
   rw [e3]
   refine ⟨some ⟨w4.heap.size, 0, none⟩, M, by rw [HSL.out]; rfl, by rw [HSL.out]; exact Nat.le_refl _, ?_, hg.fldP (h8.imp ht.block ht.block), hg.past (by simp [World.setCell]; omega) (ht.past h9 (Nat.le_refl _))⟩
   rw [HSL.out]
   exact Own.of_block (ht.block h7) (by omega) (by rw [bvs_length, HSL.out]) (by simp only [maxLen]; omega)
end Go.Proofs.YtjoghbmedfmioabGreat.Poly
