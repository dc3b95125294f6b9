/- Of the program, joined: MsCode8, MsCode9, MsCodeA, MsChunk, MsMath5. -/
import Derived.Test.YtjoghbmedfmioaaGreatPb17
import Derived.Test.YtjoghbmedfmioaaGreatPb15
import Derived.RegionTactic
import Derived.RangeFuncNested
import Derived.RangeFuncBound
import Derived.RangeFuncCalls
import Derived.RangeFuncLeaves
import Derived.RangeFuncBox
import Derived.Shelf.Abstract
import Derived.Shelf.RegionOpen
import Derived.WalkKit
import Derived.OwnWalkIn
import Derived.TacticsInMore
import Derived.LoopNIn
import Derived.LoopIn
import Derived.BigRegionIn
import Derived.Test.YtjoghbmedfmioaaGreatPb14
namespace Go.Proofs.YtjoghbmedfmioaaGreat.Ms
open Go.RowKit Go.Shelf F8 Poly GF Rd
attribute [local go_sem] Oper.semAt_some
def secL (a : Nat) (la : F8) (s f : List F8) : List F8 := (List.range a).map fun i => (coef s i + coef f i) / la
theorem secL_length (a : Nat) (la : F8) (s f : List F8) : (secL a la s f).length = a := by simp [secL]
theorem coef_secL {a : Nat} {la : F8} {s f : List F8} {i : Nat} (h : i < a) : coef (secL a la s f) i = (coef s i + coef f i) / la := by unfold secL; rw [Wl.coef_range, if_pos h]
set_option maxRecDepth 100000 in
set_option maxHeartbeats 8000000 in
theorem second_calls {S : Co} {w : World} (h : S.Ok w) (p : Nat) (oA : Option Addr) (os : List F8) (on oc : Nat) (hon : os.length = on) (hon2 : on = S.a) (hoB : BF S.g w oA os) (hp : p < S.nx) (fA : Option Addr) (fs : List F8) (fn fc : Nat) (hfn : fs.length = fn) (hfn2 : fn = S.a) (hfB : BF S.g w fA fs) :
  Calls Tryz.prog 94 #[.pointer (some ⟨S.b, 0, none⟩), .agg #[.int .i64 (p : Nat), .slice oA on oc], .slice fA fn fc] w fun e w' => PolyRes (some ⟨S.g, 0, none⟩) w w' e (secL S.a (xpow (coef S.xs p) S.a) os fs) := by
 have hn := h.nums
 obtain ⟨ob, oo, rfl⟩ := where_ hoB.by_ (by omega)
 obtain ⟨fb, fo, rfl⟩ := where_ hfB.by_ (by omega)
 obtain ⟨a, ha⟩ : ∃ a, S.a = a := ⟨_, rfl⟩
 obtain ⟨la, hla⟩ : ∃ la, xpow (coef S.xs p) S.a = la := ⟨_, rfl⟩
 have hnz : la ≠ 0 := by rw [← hla]; exact xpow_ne (h.par.P.nz p (by rw [h.len]; exact hp)) _
 rw [ha] at hon2 hfn2 hn
 rw [hla]
 subst hon2 hfn2
 obtain ⟨vs, hvs⟩ : ∃ vs, secL fn la os fs = vs := ⟨_, rfl⟩
 have hvl : vs.length = fn := by rw [← hvs, secL_length]
 have HC : Hid (∀ i, i < fn → coef vs i = (coef os i + coef fs i) / la) := Lib.hid (fun i hi => by rw [← hvs, coef_secL hi])
 have hw1 : Kp S w (w.alloc (.cells #[.int .i64 (p : Int), .slice (some ⟨ob, oo, none⟩) fn oc] 115)) := (Kp.start h).alloc _
 have HW1 := Lib.hid hw1
 have HB1 := Lib.hid (Block.new w 115 #[.int .i64 (p : Int), .slice (some ⟨ob, oo, none⟩) fn oc])
 obtain ⟨w3, hmk, hO3, hB3⟩ := make_run (w.alloc (.cells #[.int .i64 (p : Int), .slice (some ⟨ob, oo, none⟩) fn oc] 115)) fn (by omega)
 rw [World.size_alloc] at hmk hO3 hB3
 have c4 := hw1.ok.cells.2.2.2.2.1
 rw [ha] at c4
 have HK3 := Lib.hid (hw1.below (by rw [World.size_alloc]; exact hB3))
 have HB3 := Lib.hid (HB1.out.below hB3 (by omega))
 have HVL := Lib.hid hvl
 have HO3 : Hid (Own w3 w.heap.size 5 (.slice (some ⟨w.heap.size + 1, 0, none⟩) fn fn) (bv (bs (fill vs 0)))) := Lib.hid (by rw [fill_zero, HVL.out]; exact hO3.more (by omega))
 have H := Lib.hid h
 have HOB := Lib.hid hoB
 have HFB := Lib.hid hfB
 have HON := Lib.hid hon
 have HFN := Lib.hid hfn
 have HVs := Lib.hid hvs
 have HLa := Lib.hid hla
 have HA := Lib.hid ha
 have HNz := Lib.hid hnz
 have hg5 : S.g ≠ w.heap.size := by have := h.fld.fld.lt; omega
 have hfn16 : fn ≤ 16 := hn.2.1
 rw [ha, hvs]
 clear h hoB hfB hon hfn hvs hla ha hnz hvl hO3 hB3 hw1 hn HW1 HB1
 go_enter Tryz.func94, Tryz.ntmps94
 go_wp2_with fail
 clear c4 hmk
 go_loopw [16] (fun i wr => ∃ j : Nat, j ≤ fn ∧ i = .int .i64 j ∧ Hid (Kp S w wr) ∧ Hid (Block wr w.heap.size 115 #[.int .i64 (p : Int), .slice (some ⟨ob, oo, none⟩) fn oc]) ∧ Hid (Own wr w.heap.size 5 (.slice (some ⟨w.heap.size + 1, 0, none⟩) fn fn) (bv (bs (fill vs j))))) (fun i _ => fn - (intOf i).toNat)
 case atStart => exact ⟨0, by omega, rfl, HK3, HB3, HO3⟩
 case round =>
  clear HK3 HB3 HO3
  obtain ⟨j, hj, rfl, HK, HB, HO⟩ := hrel
  by_cases hjm : j < fn
  ·have hset := fill_set (vs := vs) (j := j) (by rw [HVL.out]; exact hjm)
   rw [HC.out j hjm] at hset
   have HFl : Hid ((fill vs j).length = fn) := Lib.hid (by rw [fill_length (by rw [HVL.out]; omega), HVL.out])
   obtain ⟨x1, hx1⟩ : ∃ x, coef os j = x := ⟨_, rfl⟩
   obtain ⟨x2, hx2⟩ : ∃ x, coef fs j = x := ⟨_, rfl⟩
   rw [hx1, hx2] at hset
   have HSet := Lib.hid hset
   have HSc : Hid (∀ V, Kp S w V → Block V w.heap.size 115 #[.int .i64 (p : Int), .slice (some ⟨ob, oo, none⟩) fn oc] → V.cell? ⟨S.b, 0, none⟩ = some (.pointer (some ⟨S.g, 0, none⟩)) ∧ V.cell? ⟨w.heap.size, 0, none⟩ = some (.int .i64 (p : Int)) ∧ V.cell? ⟨w.heap.size, 1, none⟩ = some (.slice (some ⟨ob, oo, none⟩) fn oc) ∧ V.cell? ⟨ob, oo + j, none⟩ = some (.int .u8 (x1.n : Int)) ∧ V.cell? ⟨fb, fo + j, none⟩ = some (.int .u8 (x2.n : Int))) := Lib.hid (fun V h1 h2 => ⟨h1.ok.c0, h2.cell 0, h2.cell 1, by rw [← hx1]; exact cellAt (HOB.out.past h1.past).by_ j (by rw [HON.out]; exact hjm), by rw [← hx2]; exact cellAt (HFB.out.past h1.past).by_ j (by rw [HFN.out]; exact hjm)⟩)
   have hjm1 : (j : Int) < (fn : Int) := by omega
   have hj0 : (0 : Int) ≤ (j : Int) := by omega
   have hT : True := trivial
   clear hset hx1 hx2
   have HK := Lib.hid HK.out.drew
   have HB := Lib.hid HB.out.drew
   have HO := Lib.hid HO.out.drew
   have HL : Hid True := Lib.hid trivial
   go_wp2_with fail
   go_region_held (fun V => V.cell? ⟨S.b, 0, none⟩ = some (.pointer (some ⟨S.g, 0, none⟩)) ∧ V.cell? ⟨w.heap.size, 0, none⟩ = some (.int .i64 (p : Int)) ∧ V.cell? ⟨w.heap.size, 1, none⟩ = some (.slice (some ⟨ob, oo, none⟩) fn oc) ∧ V.cell? ⟨ob, oo + j, none⟩ = some (.int .u8 (x1.n : Int)) ∧ V.cell? ⟨fb, fo + j, none⟩ = some (.int .u8 (x2.n : Int))) (first | exact HSc.out _ HK.out HB.out | exact HSc.out _ HK9.out HB9.out)
    ((first
     | (go_at_call 19; (with_reducible refine (add_f _ _ _).mono ?_); rintro e wq ⟨rfl, rfl⟩)
     | (go_at_call 97; refine (lambda_calls HK.out.ok p hp).mono ?_; rintro e wl ⟨rfl, hf, hp8⟩; rw [HLa.out]; replace HB := Lib.hid (HB.out.past hp8 HB.out.lt (Ne.symm hg5)); replace HO := Lib.hid (own_keep HO.out HK.out.fldp hp8); replace HK := Lib.hid (HK.out.go hf hp8); clear hf hp8)
     | (go_at_call 60; refine (div_f S.g (x1 + x2) la HNz.out _ HK.out.fld).mono ?_; rintro e wl ⟨rfl, hf, hp8⟩; replace HB := Lib.hid (HB.out.past hp8 HB.out.lt (Ne.symm hg5)); replace HO := Lib.hid (own_keep HO.out HK.out.fldp hp8); replace HK := Lib.hid (HK.out.go (FldP.of hf) hp8); clear hf hp8; have k7 := own_cell HO.out HFl.out hjm; have f7 := Own.frozenAt HO.out (by rw [bvs_length, HFl.out]) j; have HK9 : Hid (Kp S w (wl.setCell ⟨w.heap.size + 1, j, none⟩ (.int .u8 (((x1 + x2) / la).n : Int)))) := Lib.hid (Kp.later H.out HK.out ((Below.refl _ _).setCell (p := ⟨w.heap.size + 1, j, none⟩) (by simp) _)); have HB9 : Hid (Block (wl.setCell ⟨w.heap.size + 1, j, none⟩ (.int .u8 (((x1 + x2) / la).n : Int))) w.heap.size 115 #[.int .i64 (p : Int), .slice (some ⟨ob, oo, none⟩) fn oc]) := Lib.hid (HB.out.far (p := ⟨w.heap.size + 1, j, none⟩) (by simp) _); have HO9 : Hid (Own (wl.setCell ⟨w.heap.size + 1, j, none⟩ (.int .u8 (((x1 + x2) / la).n : Int))) w.heap.size 5 (.slice (some ⟨w.heap.size + 1, 0, none⟩) fn fn) (bv (bs (fill vs (j + 1))))) := Lib.hid (by rw [← HSet.out]; exact own_set HO.out HFl.out))))
   all_goals
    go_wp2
    go_roundw
    case rel => exact ⟨j + 1, by omega, by go_num, HK9, HB9, HO9⟩
    case measure => simp [intOf]; omega
  ·obtain rfl : j = fn := by omega
   have hown := HO.out
   have hfa : fill vs j = vs := by rw [← HVL.out]; exact fill_all vs
   rw [hfa] at hown
   have hX : PolyRes (some ⟨S.g, 0, none⟩) w wr (.returned (.slice (some ⟨w.heap.size + 1, 0, none⟩) j j)) vs := ⟨_, j, by rw [HVL.out], by rw [HVL.out]; exact Nat.le_refl _, by rw [HVL.out]; exact hown, HK.out.fldp, HK.out.past⟩
   have HX := Lib.hid hX
   clear hown hfa hX HO HB HK
   go_wp2
   go_ret
   exact HX.out
end Go.Proofs.YtjoghbmedfmioaaGreat.Ms

namespace Go.Proofs.YtjoghbmedfmioaaGreat.Ms
open Go.RowKit Go.Shelf F8 Poly GF Rd
attribute [local go_sem] Oper.semAt_some
def nils (n : Nat) : List El := List.replicate n ⟨0, none, [], 0⟩
theorem make_bss (n : Nat) (hn : n ≤ 1000) : ∃ mk : World → World, ∀ W, (Instr.makeSlice 37 (.int .i64 (n : Int)) (.int .i64 (n : Int))).run Tryz.prog W = .ok (.slice (some ⟨W.heap.size, 0, none⟩) n n) (mk W) ∧ Own (mk W) W.heap.size 34 (.slice (some ⟨W.heap.size, 0, none⟩) n n) (cells1 (nils n)) ∧ Below W.heap.size W (mk W) ∧ W.heap.size < (mk W).heap.size := by
 have key : ∀ W : World, ∃ w', (Instr.makeSlice 37 (.int .i64 (n : Int)) (.int .i64 (n : Int))).run Tryz.prog W = .ok (.slice (some ⟨W.heap.size, 0, none⟩) n n) w' ∧ Own w' W.heap.size 34 (.slice (some ⟨W.heap.size, 0, none⟩) n n) (cells1 (nils n)) ∧ Below W.heap.size W w' ∧ W.heap.size < w'.heap.size := fun W => by
  obtain ⟨i0, hi, hi1, hi2, hi3⟩ := info_parts info_bs
  obtain ⟨w1, hmk, ho, hg⟩ := run_make_full (P := Tryz.prog) W W.heap.size 37 34 i0 _ 1 Tryz.underlying37 hi hi1 hi2 .i64 .i64 n (by rw [hi3]; omega) (by simp only [maxLen]; omega) (Nat.le_refl _)
  have e : (madeCells (Value.slice none 0 0).cells (n * 1)).toList = cells1 (nils n) := by
   apply List.ext_getElem
   ·simp [madeCells, Value.cells, cells1, nils]
   ·intro i h1 h2
    simp [madeCells, Value.cells, cells1, nils, El.v, Nat.mod_one]
  rw [e] at ho
  refine ⟨w1, hmk, ?_, (Below.refl W.heap.size W).grown hg (Nat.le_refl _) (fun _ h => by cases h), (ho.lt W.heap.size rfl).2⟩
  unfold Own; rw [cells1_length, nils, List.length_replicate]; exact ho
 exact ⟨fun W => Classical.choose (key W), fun W => Classical.choose_spec (key W)⟩
structure Two (S : Co) (w : World) (f0 s0 m j k : Nat) (Fs Gs : List El) (V : World) : Prop where
 kp : Kp S w V
 f : Own V w.heap.size 34 (.slice (some ⟨f0, 0, none⟩) m m) (cells1 Fs)
 g : Own V w.heap.size 34 (.slice (some ⟨s0, 0, none⟩) m m) (cells1 Gs)
 fl : Fs.length = m
 gl : Gs.length = m
 fo : LstO V w.heap.size (Fs.take j)
 go : LstO V w.heap.size (Gs.take k)
section
variable {S : Co} {w V V' : World} {f0 s0 m j k : Nat} {Fs Gs : List El}
theorem Two.below (h : Two S w f0 s0 m j k Fs Gs V) (hb : Below V.heap.size V V') : Two S w f0 s0 m j k Fs Gs V' := ⟨h.kp.below hb, h.f.below hb, h.g.below hb, h.fl, h.gl, h.fo.below hb, h.go.below hb⟩
theorem Two.drew (h : Two S w f0 s0 m j k Fs Gs V) : Two S w f0 s0 m j k Fs Gs V.drew := h.below (Below.refl _ _).drew
theorem Two.alloc (h : Two S w f0 s0 m j k Fs Gs V) (o : Obj) : Two S w f0 s0 m j k Fs Gs (V.alloc o) := h.below ((Below.refl _ _).alloc (Nat.le_refl _) o)
theorem Two.past (h : Two S w f0 s0 m j k Fs Gs V) (hf : FldP V' (some ⟨S.g, 0, none⟩)) (hp : Past V.heap.size S.g V V') : Two S w f0 s0 m j k Fs Gs V' :=
 ⟨h.kp.go hf hp, Mat.own_keep h.f (by decide) h.kp.fld hp, Mat.own_keep h.g (by decide) h.kp.fld hp, h.fl, h.gl, h.fo.past h.kp.fld hp, h.go.past h.kp.fld hp⟩
theorem LstO.put {B r i : Nat} {t : TypeId} {v : Value} {xs : List Value} {n : Nat} {l : List El} (h : LstO V B l) (h2 : OwnK 1 V B t (.slice (some ⟨r, 0, none⟩) n n) n xs) (ht : 5 ≠ t) : LstO (V.setCell ⟨r, i, none⟩ v) B l := fun e he =>
 Own.far (h e he) (p := ⟨r, i, none⟩) (by
  rcases own_apart (h e he) h2 ht with h3 | h3
  ·rw [h3]; simp
  ·exact h3) v
theorem own_K {B n r : Nat} {t : TypeId} {xs : List Value} (h : Own V B t (.slice (some ⟨r, 0, none⟩) n n) xs) (hn : xs.length = n) : OwnK 1 V B t (.slice (some ⟨r, 0, none⟩) n n) n xs := by
 unfold Own at h; rw [hn] at h; exact h
theorem set_take {i : Nat} {l : List El} {e : El} (h : i < l.length) : (l.set i e).take (i + 1) = l.take i ++ [e] := by
 rw [List.take_succ_eq_append_getElem (by rw [List.length_set]; omega), List.getElem_set_self, List.take_set_of_le (Nat.le_refl _)]
theorem own_cell1 {B : Nat} {t : TypeId} {r n i : Nat} {l : List El} {e : El} (h : Own V B t (.slice (some ⟨r, 0, none⟩) n n) (cells1 l)) (hl : l.length = n) (he : l[i]? = some e) : V.cell? ⟨r, i, none⟩ = some e.v := by
 have hi : i < l.length := (List.getElem?_eq_some_iff.1 he).1
 rw [Own.cellAt h (by rw [cells1_length, hl]) i (by rw [cells1_length]; exact hi)]
 have : (cells1 l)[i]? = some e.v := by simp [cells1, he]
 rw [← List.getElem?_eq_getElem]; exact this
theorem Two.setF (h : Two S w f0 s0 m j k Fs Gs V) (hw : S.Ok w) (hne : f0 ≠ s0) (hj : j < m) {e : El} (he : Own V w.heap.size 5 e.v (bv (bs e.s))) : Two S w f0 s0 m (j + 1) k (Fs.set j e) Gs (V.setCell ⟨f0, j, none⟩ e.v) := by
 have hk := own_K h.f (by rw [cells1_length, h.fl])
 have hB : w.heap.size ≤ f0 := (h.f.lt f0 rfl).1
 refine ⟨Kp.later hw h.kp ((Below.refl _ _).setCell (p := ⟨f0, j, none⟩) hB _), ?_, Own.far h.g (p := ⟨f0, j, none⟩) (by simp [Value.ownBlock]; exact Ne.symm hne) _, by rw [List.length_set, h.fl], h.gl, ?_, h.go.put hk (by decide)⟩
 ·have := Own.set_ h.f (by rw [cells1_length, h.fl]) j e.v
  rwa [show (cells1 Fs).set j e.v = cells1 (Fs.set j e) by simp [cells1, List.map_set]] at this
 ·rw [set_take (by rw [h.fl]; exact hj)]
  exact (h.fo.append (LstO.one he)).put hk (by decide)
theorem Two.setG (h : Two S w f0 s0 m j k Fs Gs V) (hw : S.Ok w) (hne : f0 ≠ s0) (hk2 : k < m) {e : El} (he : Own V w.heap.size 5 e.v (bv (bs e.s))) : Two S w f0 s0 m j (k + 1) Fs (Gs.set k e) (V.setCell ⟨s0, k, none⟩ e.v) := by
 have hk := own_K h.g (by rw [cells1_length, h.gl])
 have hB : w.heap.size ≤ s0 := (h.g.lt s0 rfl).1
 refine ⟨Kp.later hw h.kp ((Below.refl _ _).setCell (p := ⟨s0, k, none⟩) hB _), Own.far h.f (p := ⟨s0, k, none⟩) (by simp [Value.ownBlock]; exact hne) _, ?_, h.fl, by rw [List.length_set, h.gl], h.fo.put hk (by decide), ?_⟩
 ·have := Own.set_ h.g (by rw [cells1_length, h.gl]) k e.v
  rwa [show (cells1 Gs).set k e.v = cells1 (Gs.set k e) by simp [cells1, List.map_set]] at this
 ·rw [set_take (by rw [h.gl]; exact hk2)]
  exact (h.go.append (LstO.one he)).put hk (by decide)
end
end Go.Proofs.YtjoghbmedfmioaaGreat.Ms

namespace Go.Proofs.YtjoghbmedfmioaaGreat.Ms
open Go.RowKit Go.Shelf F8 Poly GF Rd
attribute [local go_sem] Oper.semAt_some
theorem wp_upd {α : Type} {P : Program} {c : Code} {Q : Exit → Act → World → Prop} {a : Act} {w : World} (upd : α → Act → Act) (R : α → World → Prop) (h : c.wp P (fun e a' w' => e = .normal ∧ ∃ m, a' = upd m a ∧ R m w') a w) (hK : ∀ m w', R m w' → Q .normal (upd m a) w') : c.wp P Q a w :=
 wp_mono h (by rintro e a w ⟨rfl, m, rfl, hr⟩; exact hK m _ hr)
def bothL (a : Nat) (M N : Nat → List F8) : List F8 := (List.range a).flatMap M ++ (List.range a).flatMap N
def pickM (M N : Nat → List F8) (r : Nat) : Nat → List F8 := if r = 0 then M else N
def accM (a : Nat) (M N : Nat → List F8) (r col : Nat) : List F8 := (List.range r).flatMap (fun q => (List.range a).flatMap (pickM M N q)) ++ (List.range col).flatMap (pickM M N r)
theorem accM_snoc (a : Nat) (M N : Nat → List F8) (r col : Nat) : accM a M N r (col + 1) = accM a M N r col ++ pickM M N r col := by
 unfold accM; rw [List.range_succ (n := col), List.flatMap_append]; simp
theorem accM_next (a : Nat) (M N : Nat → List F8) (r : Nat) : accM a M N (r + 1) 0 = accM a M N r a := by
 unfold accM; rw [List.range_succ (n := r), List.flatMap_append]; simp
theorem accM_two (a : Nat) (M N : Nat → List F8) : accM a M N 2 0 = bothL a M N := by simp [accM, bothL, pickM, List.range_succ]
theorem flat_len {f : Nat → List F8} {k : Nat} : ∀ n, (∀ q, q < n → (f q).length = k) → ((List.range n).flatMap f).length = n * k
 | 0, _ => by simp
 | n + 1, h => by
  rw [List.range_succ, List.flatMap_append, List.length_append, flat_len n (fun q hq => h q (by omega))]
  simp [h n (by omega), Nat.succ_mul]
theorem pick_sym {a : Nat} {M N : Nat → List F8} (hM : Sym a M) (hN : Sym a N) (r : Nat) : Sym a (pickM M N r) := by
 unfold pickM; split <;> assumption
theorem accM_length {a : Nat} {M N : Nat → List F8} (hM : Sym a M) (hN : Sym a N) {r col : Nat} (hc : col ≤ a) : (accM a M N r col).length = r * (a * a) + col * a := by
 unfold accM
 rw [List.length_append, flat_len (k := a * a) r (fun q _ => flat_len a fun c hc => (pick_sym hM hN q).len c hc), flat_len (k := a) col (fun c h => (pick_sym hM hN r).len c (by omega))]
theorem bothL_length {a : Nat} {M N : Nat → List F8} (hM : Sym a M) (hN : Sym a N) : (bothL a M N).length = 2 * a * a := by
 rw [← accM_two, accM_length hM hN (Nat.zero_le _), Nat.mul_assoc]; omega
def rowsOf (xs : List F8) (a : Nat) (M : Nat → List F8) (L : List (Nat × List F8)) : List (List F8) := L.map fun o => Ms.row a M (coef xs o.1)
theorem colOf_rows {S : Co} {a : Nat} {X : Nat → List F8} {L : List (Nat × List F8)} {Es : List El} (h : Es.map El.s = rowsOf S.xs a X L) (c : Nat) : colOf Es c = L.map fun o => coef (Ms.row a X (coef S.xs o.1)) c := by
 have := congrArg (List.map fun s => coef s c) h
 simpa [colOf, rowsOf, List.map_map, Function.comp_def] using this
theorem kept_wo {l : List El} {L : List (Nat × List F8)} (h : Is l L) (ps : List Int) : Is (kept l ps) (wo L ps) := by
 unfold Is kept wo at *
 induction l generalizing L with
 | nil => cases L with
  | nil => rfl
  | cons o L => simp at h
 | cons e l ih => cases L with
  | nil => simp at h
  | cons o L =>
   simp only [List.map_cons, List.cons.injEq, Prod.mk.injEq] at h
   obtain ⟨⟨h1, h2⟩, h3⟩ := h
   have := ih h3
   rw [List.filter_cons, List.filter_cons, h1]
   split
   ·simp only [List.map_cons]; rw [this, h1, h2]
   ·exact this
set_option maxRecDepth 100000 in
set_option maxHeartbeats 16000000 in
theorem matrices_calls (PS : Poly.Spec) (T : Wl.Spec) {S : Co} {w : World} (h : S.Ok w) (A : Option Addr) (l : List El) (m c : Nat) (hl : l.length = m) (hm : m = S.a + 1) (hE : Els S.g w A l) (L : List (Nat × List F8)) (hI : Is l L) (hL : OkL S.xs S.a L) {M N : Nat → List F8} (hM : Sym S.a M) (hN : Sym S.a N) (hR : ∀ o ∈ L, rt S.xs S.a M N o = true) :
  Calls Tryz.prog 59 #[.pointer (some ⟨S.b, 0, none⟩), .slice A m c] w fun e w' => ∃ D d nb, nb = S.aa * S.a ∧ e = .returned (.agg #[.int .i64 S.aa, .int .i64 S.a, .slice D nb d]) ∧ nb ≤ d ∧ Own w' w.heap.size 5 (.slice D nb d) (bv (bs (bothL S.a M N))) ∧ FldP w' (some ⟨S.g, 0, none⟩) ∧ Past w.heap.size S.g w w' := by
 have hmx : Tryz.prog.follows .mixedOrders = true := by kernel_rfl
 have hn := h.nums
 have hgw := h.fld.fld.lt
 obtain ⟨mk, hmk⟩ := make_bss m (by omega)
 have hmk1 : ∀ W, (Instr.makeSlice 37 (.int .i64 (m : Int)) (.int .i64 (m : Int))).run Tryz.prog W = .ok (.slice (some ⟨W.heap.size, 0, none⟩) m m) (mk W) := fun W => (hmk W).1
 have HMK := Lib.hid hmk
 have HM := Lib.hid hl
 have Hm := Lib.hid hm
 have HE := Lib.hid hE
 have HI := Lib.hid hI
 have HL := Lib.hid hL
 have HSM := Lib.hid hM
 have HSN := Lib.hid hN
 have HR := Lib.hid hR
 have H := Lib.hid h
 have hm17 : m ≤ 17 := by omega
 have hm0 : 0 < m := by omega
 obtain ⟨w1, hw1⟩ : ∃ V, w.alloc (.cells #[.int .i64 0, .int .i64 0, .slice none 0 0] 62) = V := ⟨_, rfl⟩
 have hk1 : Kp S w w1 := by rw [← hw1]; exact (Kp.start h).alloc _
 have hb1 : Block w1 w.heap.size 62 #[.int .i64 0, .int .i64 0, .slice none 0 0] := by rw [← hw1]; exact Block.new w _ _
 have HK1 := Lib.hid hk1
 have HB1 := Lib.hid hb1
 clear h hl hm hE hI hL hM hN hR hmk hk1 hb1 hn
 go_enter Tryz.func59, Tryz.ntmps59
 go_wp2
 clear hw1
 apply wp_upd (α := Nat × Nat) (upd := fun fs a => { a with tmps := (((((((a.tmps.setIfInBounds 17 (.slice A m c)).setIfInBounds 18 (.int .i64 (m : Int))).setIfInBounds 19 (.slice (some ⟨fs.1, 0, none⟩) m m)).setIfInBounds 20 (.slice A m c)).setIfInBounds 21 (.int .i64 (m : Int))).setIfInBounds 22 (.slice (some ⟨fs.2, 0, none⟩) m m)).setIfInBounds 5 (.slice (some ⟨fs.1, 0, none⟩) m m)).setIfInBounds 6 (.slice (some ⟨fs.2, 0, none⟩) m m) }) (R := fun fs V => fs.1 ≠ fs.2 ∧ Two S w fs.1 fs.2 m 0 0 (nils m) (nils m) V ∧ Block V w.heap.size 62 #[.int .i64 0, .int .i64 0, .slice none 0 0] ∧ w.heap.size < fs.1 ∧ w.heap.size < fs.2)
 case h =>
  obtain ⟨-, o1, b1, z1⟩ := HMK.out w1.drew
  obtain ⟨-, o2, b2, z2⟩ := HMK.out (mk w1.drew)
  have hs1 : w.heap.size < w1.drew.heap.size := HB1.out.lt
  have hkd := HK1.out.drew
  have hb12 : Below w1.drew.heap.size w1.drew (mk (mk w1.drew)) := b1.trans (b2.mono (by omega))
  have hkf := hkd.below hb12
  have q1 := (o1.below b2).more (Nat.le_of_lt hs1)
  have q2 := o2.more (show w.heap.size ≤ (mk w1.drew).heap.size by omega)
  have hblk := HB1.out.drew.below hb12 hs1
  have RF : Hid (Two S w w1.heap.size (mk w1.drew).heap.size m 0 0 (nils m) (nils m) (mk (mk w1.drew))) := Lib.hid ⟨hkf, q1, q2, by simp [nils], by simp [nils], LstO.nil _ _, LstO.nil _ _⟩
  have RG : Hid (Two S w (mk w1.drew).heap.size w1.heap.size m 0 0 (nils m) (nils m) (mk (mk w1.drew))) := Lib.hid ⟨hkf, q2, q1, by simp [nils], by simp [nils], LstO.nil _ _, LstO.nil _ _⟩
  have HBk := Lib.hid hblk
  have hz1 : w.heap.size < w1.heap.size ∧ w1.heap.size < (mk w1.drew).heap.size := ⟨hs1, z1⟩
  have HZ := Lib.hid hz1
  clear o1 b1 z1 o2 b2 z2 hs1 hkd hb12 hkf q1 q2 hblk hz1
  go_region
  all_goals
   refine ⟨rfl, ?_⟩
   first
    | (refine ⟨(w1.heap.size, (mk w1.drew).heap.size), ?_, Nat.ne_of_lt HZ.out.2, RF.out, HBk.out, HZ.out.1, Nat.lt_trans HZ.out.1 HZ.out.2⟩; simp only [List.setIfInBounds_toArray, List.set_cons_zero, List.set_cons_succ]; done)
    | (refine ⟨((mk w1.drew).heap.size, w1.heap.size), ?_, Nat.ne_of_gt HZ.out.2, RG.out, HBk.out, Nat.lt_trans HZ.out.1 HZ.out.2, HZ.out.1⟩; simp only [List.setIfInBounds_toArray, List.set_cons_zero, List.set_cons_succ]; done)
 case hK =>
  rintro ⟨f0, s0⟩ w3 ⟨hfs, hT, hB, hf0, hs0⟩
  simp only [List.setIfInBounds_toArray, List.set_cons_zero, List.set_cons_succ]
  have HT := Lib.hid hT
  have HB := Lib.hid hB
  clear hT hB HK1 HB1 HMK hmk1
  go_wp2_with fail
  go_loopw [25] (fun i wr => ∃ (j : Nat) (Fs Gs : List El), j ≤ m ∧ i = .int .i64 j ∧ Hid (Two S w f0 s0 m j j Fs Gs wr) ∧ Hid ((Fs.take j).map El.s = (rowsOf S.xs S.a M L).take j) ∧ Hid ((Gs.take j).map El.s = (rowsOf S.xs S.a N L).take j) ∧ Hid (Block wr w.heap.size 62 #[.int .i64 0, .int .i64 0, .slice none 0 0])) (fun i _ => m - (intOf i).toNat)
  case atStart => exact ⟨0, nils m, nils m, by omega, rfl, HT, Lib.hid (by simp), Lib.hid (by simp), HB⟩
  case round =>
   clear HT HB
   obtain ⟨j, Fs, Gs, hj, rfl, HT, HF, HG, HB⟩ := hrel
   by_cases hjm : j < m
   ·have hti : j < l.length := by rw [HM.out]; exact hjm
    have hLm : L.length = m := by rw [← HI.out.length, HM.out]
    have htL : j < L.length := by rw [hLm]; exact hjm
    obtain ⟨b, off, rfl, hc0, hc1⟩ := row2_at (HE.out.past H.out.fld.fld HT.out.kp.past).row hti
    have hlst0 := HE.out.lst _ (List.getElem_mem hti)
    obtain ⟨hup, hus⟩ := HI.out.get hti htL
    obtain ⟨uA, h6⟩ : ∃ a, (l[j]).A = a := ⟨_, rfl⟩
    obtain ⟨uc, h8⟩ : ∃ a, (l[j]).c = a := ⟨_, rfl⟩
    have hmem := List.getElem_mem htL
    have HRF : Hid ((rowsOf S.xs S.a M L).take (j + 1) = (rowsOf S.xs S.a M L).take j ++ [Ms.row S.a M (coef S.xs (L[j]).1)]) := Lib.hid (by
     rw [take_succ' _ (by rw [rowsOf, List.length_map]; exact htL)]; simp [rowsOf])
    have HRG : Hid ((rowsOf S.xs S.a N L).take (j + 1) = (rowsOf S.xs S.a N L).take j ++ [Ms.row S.a N (coef S.xs (L[j]).1)]) := Lib.hid (by
     rw [take_succ' _ (by rw [rowsOf, List.length_map]; exact htL)]; simp [rowsOf])
    rw [hup] at hc0
    rw [hus, h6, h8] at hc1 hlst0
    obtain ⟨o, ho⟩ : ∃ o, L[j] = o := ⟨_, rfl⟩
    rw [ho] at hc0 hc1 hlst0 hmem HRF HRG
    obtain ⟨up, us⟩ := o
    simp only at hc0 hc1 hlst0 HRF HRG
    have hult : up < S.nx := by rw [← H.out.len]; exact HL.out.lt _ hmem
    have hun : us.length = S.a := HL.out.len _ hmem
    have hrt : us = shr S.a M N (coef S.xs up) := rt_iff.1 (HR.out _ hmem)
    rw [hun] at hc1 hlst0
    have HUB := Lib.hid hlst0.1
    have huc := hlst0.2
    obtain ⟨l2, hl2⟩ : ∃ l2, kept l [(up : Int)] = l2 := ⟨_, rfl⟩
    have hI2 : Is l2 (wo L [(up : Int)]) := by rw [← hl2]; exact kept_wo HI.out _
    have hw1 := wo_one HL.out hmem
    simp only at hw1
    have hn2 : l2.length = S.a := by rw [hI2.length]; have := Hm.out; omega
    have HWo : Hid (∀ V, Kp S w V → Calls Tryz.prog 93 #[.slice (some ⟨b, off, none⟩) m c, .slice (some ⟨V.heap.size, 0, none⟩) 1 1] (V.alloc (.cells #[.int .i64 (up : Int)] 3)) fun e w' => ∃ v, e = .returned v ∧ OwnK 2 w' (V.heap.size + 1) 115 v S.a (cells2 l2) ∧ Below (V.heap.size + 1) (V.alloc (.cells #[.int .i64 (up : Int)] 3)) w') := Lib.hid (fun V hV => by
     have := without_calls (some ⟨b, off, none⟩) l m c (some ⟨V.heap.size, 0, none⟩) [(up : Int)] 1 1 (V.alloc (.cells #[.int .i64 (up : Int)] 3)) HM.out (by omega) ((HE.out.past H.out.fld.fld hV.past).row.alloc _) rfl (by omega) (Row.new _ _ _ _)
     rw [hl2, hn2, World.size_alloc] at this
     exact this)
    have ha16 : S.a ≤ 16 := H.out.a16
    have HRw : Hid (∀ V A2 c2, Kp S w V → Els S.g V A2 l2 → Calls Tryz.prog 92 #[.pointer (some ⟨S.b, 0, none⟩), .agg #[.int .i64 (up : Nat), .slice uA S.a uc], .slice A2 S.a c2, .int .i64 0] V fun e w' => ∃ R d B q f, e = .returned (.tuple #[.slice R S.a d, .slice B q f, .int .i64 0]) ∧ Own w' V.heap.size 5 (.slice R S.a d) (bv (bs (Ms.row S.a M (coef S.xs up)))) ∧ FldP w' (some ⟨S.g, 0, none⟩) ∧ Past V.heap.size S.g V w') := Lib.hid (fun V A2 c2 hV hE2 =>
     (row_calls PS T hV.ok up uA us S.a uc hun rfl huc (hlst0.1.past hV.past) hult A2 l2 S.a c2 0 (by omega) (by omega) hn2 (by omega) hE2 (wo L [(up : Int)]) hI2 (HL.out.sub (wo_sub _ _)) (fun u hu e => (mem_wo.1 hu).2 (by rw [e]; simp))).mono fun e w' ⟨msg, wl, z, hw, hr⟩ => by
      have hz := row_ok H.out.par.P HSM.out HSN.out (one := (up, us)) (by rw [H.out.len]; exact hult) (rt_iff.2 hrt) (HL.out.sub (wo_sub L [(up : Int)])) (fun u hu e => (mem_wo.1 hu).2 (by rw [e]; simp)) (T := 0) (by
       rw [Nat.le_zero, List.length_eq_zero_iff, List.filter_eq_nil_iff]
       intro u hu he
       exact absurd (er_rt he) (by rw [HR.out u (mem_wo.1 hu).1]; decide)) (by rw [← hI2.length, hn2]; omega) hw
      obtain ⟨rfl, rfl, -⟩ := hz
      obtain ⟨A1, c1, B1, d1, h1, h2, h3, h4, h5, h6, h7⟩ := hr
      rw [row_length] at h1 h4
      exact ⟨A1, c1, B1, _, d1, h1, h4, h6, h7⟩)
    have HSe : Hid (secL S.a (xpow (coef S.xs up) S.a) us (Ms.row S.a M (coef S.xs up)) = Ms.row S.a N (coef S.xs up)) := Lib.hid (by
     refine Mat.list_ext (by rw [secL_length, row_length]) fun i hi => ?_
     rw [secL_length] at hi
     rw [coef_secL hi, hrt]
     exact second_ok (xpow_ne (H.out.par.P.nz up (by rw [H.out.len]; exact hult)) _) hi)
    have HUn := Lib.hid hun
    have HI2 := Lib.hid hI2
    have hL2 : ∀ V, Kp S w V → Lst S.g V l2 := fun V hV => (HE.out.past H.out.fld.fld hV.past).lst.sub (fun e he => by rw [← hl2] at he; exact (List.mem_filter.1 he).1)
    have HL2 := Lib.hid hL2
    clear hup hus h6 h8 ho hmem hrt hlst0 hl2 hI2 hw1 hn2 hun hLm hL2
    obtain ⟨ob, hob⟩ : ∃ ob, wr.heap.size = ob := ⟨_, rfl⟩
    have hT1 := HT.out.alloc (.cells #[.int .i64 (up : Int), .slice uA S.a uc] 115)
    have hsz := HT.out.kp.size
    have hbo := Block.new wr 115 #[.int .i64 (up : Int), .slice uA S.a uc]
    rw [hob] at hbo
    have hb1 := HB.out.alloc (.cells #[.int .i64 (up : Int), .slice uA S.a uc] 115)
    have HT1 := Lib.hid hT1
    have HBo := Lib.hid hbo
    have HB1 := Lib.hid hb1
    have hbog : ob ≠ S.g := by omega
    have hobf : ob ≠ f0 := by have := (HT.out.f.lt f0 rfl).2; omega
    have hobs : ob ≠ s0 := by have := (HT.out.g.lt s0 rfl).2; omega
    have hwob : w.heap.size < ob := by have := HB.out.lt; omega
    clear hT1 hbo hb1 HT HB
    go_wp2_with fail
    obtain ⟨V, hV⟩ : ∃ V, wr.alloc (.cells #[.int .i64 (up : Int), .slice uA S.a uc] 115) = V := ⟨_, rfl⟩
    rw [hV] at HT1 HBo HB1 ⊢
    clear hV hob hc0 hc1
    have HT := Lib.hid HT1.out.drew
    have HBo := Lib.hid HBo.out.drew
    have HB := Lib.hid HB1.out.drew
    clear HT1 HB1
    have HSc : Hid (∀ V, Block V ob 115 #[.int .i64 (up : Int), .slice uA S.a uc] → V.cell? ⟨ob, 0, none⟩ = some (.int .i64 (up : Int)) ∧ V.cell? ⟨ob, 1, none⟩ = some (.slice uA S.a uc)) := Lib.hid (fun V h2 => ⟨h2.cell 0, h2.cell 1⟩)
    have hjm1 : (j : Int) < (m : Int) := by omega
    have hj0 : (0 : Int) ≤ (j : Int) := by omega
    go_region_held (fun V => V.cell? ⟨ob, 0, none⟩ = some (.int .i64 (up : Int)) ∧ V.cell? ⟨ob, 1, none⟩ = some (.slice uA S.a uc)) (first | exact HSc.out _ HBo.out | exact HSc.out _ (HBo.out.alloc _) | exact HSc.out _ HBo9.out)
     ((first
      | (go_at_call 93; refine (HWo.out _ HT.out.kp).mono ?_; rintro e w4 ⟨v, rfl, hO, hb⟩; obtain ⟨A2, c2, rfl, hc2, -, -⟩ := hO.shape; have hb4 := Below.trans ((Below.refl _ _).alloc (Nat.le_refl _) (.cells #[.int .i64 (up : Int)] 3)) (hb.mono (Nat.le_succ _)); have HEl := Lib.hid (hO.els (HL2.out _ (HT.out.kp.below hb4))); replace HT := Lib.hid (HT.out.below hb4); replace HBo := Lib.hid (HBo.out.below hb4 HBo.out.lt); replace HB := Lib.hid (HB.out.below hb4 HB.out.lt); clear hO hb hb4)
      | (go_at_call 92; refine (HRw.out _ _ _ HT.out.kp HEl.out).mono ?_; rintro e wl ⟨R, d, B9, q9, f9, rfl, hO, hf, hp⟩; have HOr := Lib.hid (hO.more HT.out.kp.size); replace HT := Lib.hid (HT.out.past hf hp); replace HBo := Lib.hid (HBo.out.past hp HBo.out.lt hbog); replace HB := Lib.hid (HB.out.past hp HB.out.lt (by omega)); have k7 := Own.cellAt HT.out.f (by rw [cells1_length, HT.out.fl]) j (by rw [cells1_length, HT.out.fl]; exact hjm); have f7 := Own.frozenAt HT.out.f (by rw [cells1_length, HT.out.fl]) j; have HBo9 := Lib.hid (HBo.out.far (p := ⟨f0, j, none⟩) hobf (.slice R S.a d)); clear hO hf hp)))
    all_goals
     have hOe : Own wl w.heap.size 5 (⟨0, R, Ms.row S.a M (coef S.xs up), d⟩ : El).v (bv (bs (⟨0, R, Ms.row S.a M (coef S.xs up), d⟩ : El).s)) := by
      show Own wl w.heap.size 5 (.slice R (Ms.row S.a M (coef S.xs up)).length d) _
      rw [row_length]; exact HOr.out
     have hT5 := HT.out.setF H.out hfs hjm hOe
     have hv5 : (⟨0, R, Ms.row S.a M (coef S.xs up), d⟩ : El).v = .slice R S.a d := by show Value.slice R (Ms.row S.a M (coef S.xs up)).length d = _; rw [row_length]
     rw [hv5] at hT5
     have HB5 := Lib.hid (HB.out.far (p := ⟨f0, j, none⟩) (Nat.ne_of_lt hf0) (.slice R S.a d))
     have HT5 := Lib.hid hT5
     have HF5 : Hid (((Fs.set j ⟨0, R, Ms.row S.a M (coef S.xs up), d⟩).take (j + 1)).map El.s = (rowsOf S.xs S.a M L).take (j + 1)) := Lib.hid (by rw [set_take (by rw [HT.out.fl]; exact hjm), List.map_append, HF.out, HRF.out]; rfl)
     obtain ⟨F5, hF5⟩ : ∃ F5, Fs.set j ⟨0, R, Ms.row S.a M (coef S.xs up), d⟩ = F5 := ⟨_, rfl⟩
     have hFj : F5[j]? = some ⟨0, R, Ms.row S.a M (coef S.xs up), d⟩ := by rw [← hF5]; simp [HT.out.fl, hjm]
     rw [hF5] at HT5 HF5
     have HFj := Lib.hid hFj
     obtain ⟨V5, hV5⟩ : ∃ V5, wl.setCell ⟨f0, j, none⟩ (.slice R S.a d) = V5 := ⟨_, rfl⟩
     rw [hV5] at HT5 HBo9 HB5 ⊢
     clear hOe hT5 hv5 hF5 hFj hV5 k7 f7 HBo HB HT HOr HF HRF HEl HSc
     have HT := Lib.hid HT5.out.drew
     have HBo := Lib.hid HBo9.out.drew
     have HB := Lib.hid HB5.out.drew
     clear HT5 HB5 HBo9
     have HSc : Hid (∀ V, Block V ob 115 #[.int .i64 (up : Int), .slice uA S.a uc] → Own V w.heap.size 34 (.slice (some ⟨f0, 0, none⟩) m m) (cells1 F5) → V.cell? ⟨ob, 0, none⟩ = some (.int .i64 (up : Int)) ∧ V.cell? ⟨ob, 1, none⟩ = some (.slice uA S.a uc) ∧ V.cell? ⟨f0, j, none⟩ = some (.slice R S.a d)) := Lib.hid (fun V h2 h3 => ⟨h2.cell 0, h2.cell 1, by
      rw [own_cell1 h3 HT.out.fl HFj.out]
      show some (Value.slice R (Ms.row S.a M (coef S.xs up)).length d) = _
      rw [row_length]⟩)
     have HRB : Hid (BF S.g V5.drew R (Ms.row S.a M (coef S.xs up))) := Lib.hid (by
      have h8 := HT.out.fo ⟨0, R, Ms.row S.a M (coef S.xs up), d⟩ (List.mem_of_getElem? (by rw [List.getElem?_take, if_pos (Nat.lt_succ_self j)]; exact HFj.out))
      exact BF.own HT.out.kp.fldp (show Own V5.drew w.heap.size 5 (.slice R (Ms.row S.a M (coef S.xs up)).length d) _ from h8))
     have HSec : Hid (Calls Tryz.prog 94 #[.pointer (some ⟨S.b, 0, none⟩), .agg #[.int .i64 (up : Nat), .slice uA S.a uc], .slice R S.a d] V5.drew fun e w' => ∃ R2 d2, e = .returned (.slice R2 S.a d2) ∧ Own w' V5.drew.heap.size 5 (.slice R2 S.a d2) (bv (bs (Ms.row S.a N (coef S.xs up)))) ∧ FldP w' (some ⟨S.g, 0, none⟩) ∧ Past V5.drew.heap.size S.g V5.drew w') := Lib.hid ((second_calls HT.out.kp.ok up uA us S.a uc HUn.out rfl (HUB.out.past HT.out.kp.past) hult R (Ms.row S.a M (coef S.xs up)) S.a d (row_length _ _ _) rfl HRB.out).mono fun e w' ⟨R2, d2, h1, h2, h3, h4, h5⟩ => by
      rw [HSe.out] at h1 h3
      rw [row_length] at h1 h3
      exact ⟨R2, d2, h1, h3, h4, h5⟩)
     go_wp2_with fail
     go_region_held (fun V => V.cell? ⟨ob, 0, none⟩ = some (.int .i64 (up : Int)) ∧ V.cell? ⟨ob, 1, none⟩ = some (.slice uA S.a uc) ∧ V.cell? ⟨f0, j, none⟩ = some (.slice R S.a d)) (first | exact HSc.out _ HBo.out HT.out.f | exact HSc.out _ HBo9.out HT9.out.f)
      ((go_at_call 94; refine HSec.out.mono ?_; rintro e wm ⟨R2, d2, rfl, hO, hf, hp⟩; have HOr := Lib.hid (hO.more HT.out.kp.size); replace HT := Lib.hid (HT.out.past hf hp); replace HBo := Lib.hid (HBo.out.past hp HBo.out.lt hbog); replace HB := Lib.hid (HB.out.past hp HB.out.lt (by omega)); have k7 := Own.cellAt HT.out.g (by rw [cells1_length, HT.out.gl]) j (by rw [cells1_length, HT.out.gl]; exact hjm); have f7 := Own.frozenAt HT.out.g (by rw [cells1_length, HT.out.gl]) j; have HBo9 := Lib.hid (HBo.out.far (p := ⟨s0, j, none⟩) hobs (.slice R2 S.a d2)); have hOe : Own wm w.heap.size 5 (⟨0, R2, Ms.row S.a N (coef S.xs up), d2⟩ : El).v (bv (bs (⟨0, R2, Ms.row S.a N (coef S.xs up), d2⟩ : El).s)) := (by show Own wm w.heap.size 5 (.slice R2 (Ms.row S.a N (coef S.xs up)).length d2) _; rw [row_length]; exact HOr.out); have hT9 := HT.out.setG H.out hfs hjm hOe; have hv9 : (⟨0, R2, Ms.row S.a N (coef S.xs up), d2⟩ : El).v = .slice R2 S.a d2 := (by show Value.slice R2 (Ms.row S.a N (coef S.xs up)).length d2 = _; rw [row_length]); rw [hv9] at hT9; have HT9 := Lib.hid hT9; have HB9 := Lib.hid (HB.out.far (p := ⟨s0, j, none⟩) (Nat.ne_of_lt hs0) (.slice R2 S.a d2)); clear hO hf hp hOe hT9 hv9))
     all_goals
      have HG9 : Hid (((Gs.set j ⟨0, R2, Ms.row S.a N (coef S.xs up), d2⟩).take (j + 1)).map El.s = (rowsOf S.xs S.a N L).take (j + 1)) := Lib.hid (by rw [set_take (by rw [HT.out.gl]; exact hjm), List.map_append, HG.out, HRG.out]; rfl)
      clear HT HBo HB k7 f7
      go_wp2
      go_roundw
      case rel => exact ⟨j + 1, F5, _, by omega, by go_num, HT9, HF5, HG9, HB9⟩
      case measure => simp [intOf]; omega
   ·obtain rfl : j = m := by omega
    have ha := H.out.nums
    have hfm : Fs.map El.s = rowsOf S.xs S.a M L := by
     have h1 := HF.out
     rwa [List.take_of_length_le (by rw [HT.out.fl]; exact Nat.le_refl _), List.take_of_length_le (by rw [rowsOf, List.length_map, ← HI.out.length, HM.out]; exact Nat.le_refl _)] at h1
    have hgm : Gs.map El.s = rowsOf S.xs S.a N L := by
     have h1 := HG.out
     rwa [List.take_of_length_le (by rw [HT.out.gl]; exact Nat.le_refl _), List.take_of_length_le (by rw [rowsOf, List.length_map, ← HI.out.length, HM.out]; exact Nat.le_refl _)] at h1
    have HFm := Lib.hid hfm
    have HGm := Lib.hid hgm
    have HDec := Lib.hid (decoder_calls (S := S) (w := wr) A l j c 0 HM.out (by omega) (HE.out.past H.out.fld.fld HT.out.kp.past).row)
    clear hfm hgm HF HG
    go_wp2_with fail
    refine HDec.out.mono ?_
    rintro e V ⟨P, d, rfl, hD, hb8⟩
    have HT8 := Lib.hid (HT.out.below hb8)
    have HB8 := Lib.hid (HB.out.below hb8 HB.out.lt)
    have HD8 := Lib.hid hD
    have hqg : w.heap.size ≤ wr.heap.size := HT.out.kp.size
    obtain ⟨q, hq⟩ : ∃ q, wr.heap.size = q := ⟨_, rfl⟩
    rw [hq] at HD8 hqg ⊢
    clear hD hb8 HT HB HDec hq
    obtain ⟨tb, htb⟩ : ∃ tb, V.heap.size = tb := ⟨_, rfl⟩
    have s4 := HT8.out.kp.ok.cells.2.2.2.2.1
    have haa : (2 : Int) * (S.a : Int) = (S.aa : Int) := by have := H.out.aa_; omega
    have hwr : IntKind.i64.wrap (2 * (S.a : Int)) = (S.aa : Int) := by rw [haa]; exact IntWalk.i64_in _ (by omega)
    have HKa : Hid (∀ W, Below V.heap.size V W → W.cell? ⟨S.b, 4, none⟩ = some (.int .i64 S.a)) := Lib.hid (fun W hb => (HT8.out.kp.ok.below hb).cells.2.2.2.2.1)
    have s5 := (HT8.out.kp.ok.alloc (.cells #[.int .i64 0, .int .i64 0, .slice none 0 0] 62)).cells.2.2.2.2.1
    go_wp2_with fail
    go_region
    obtain ⟨V1, hV1⟩ : ∃ V1, (V.alloc (.cells #[.int .i64 S.aa, .int .i64 S.a, .slice none 0 0] 62)).drew = V1 := ⟨_, rfl⟩
    have hB1 : Below V.heap.size V V1 := by rw [← hV1]; exact ((Below.refl _ _).alloc (Nat.le_refl _) _).drew
    have hM1 : Block V1 tb 62 #[.int .i64 S.aa, .int .i64 S.a, .slice none 0 0] := by
     rw [← hV1, ← htb]; exact (Block.new V _ _).drew
    have hs1 : V1.heap.size = tb + 1 := by rw [← hV1, ← htb]; show (V.alloc _).heap.size = _; rw [World.size_alloc]
    have hB2 : Below V.heap.size V (V1.alloc (.cells #[.slice (some ⟨f0, 0, none⟩) j j, .slice (some ⟨s0, 0, none⟩) j j] 37)) := hB1.alloc (by omega) _
    have HK2 : Hid (Kp S V (V1.alloc (.cells #[.slice (some ⟨f0, 0, none⟩) j j, .slice (some ⟨s0, 0, none⟩) j j] 37))) := Lib.hid ((Kp.start HT8.out.kp.ok).below hB2)
    have HM2 : Hid (Block (V1.alloc (.cells #[.slice (some ⟨f0, 0, none⟩) j j, .slice (some ⟨s0, 0, none⟩) j j] 37)) tb 62 #[.int .i64 S.aa, .int .i64 S.a, .slice none 0 0]) := Lib.hid (hM1.alloc _)
    have HL2 : Hid (Block (V1.alloc (.cells #[.slice (some ⟨f0, 0, none⟩) j j, .slice (some ⟨s0, 0, none⟩) j j] 37)) (tb + 1) 37 #[.slice (some ⟨f0, 0, none⟩) j j, .slice (some ⟨s0, 0, none⟩) j j]) := Lib.hid (by have := Block.new V1 37 #[.slice (some ⟨f0, 0, none⟩) j j, .slice (some ⟨s0, 0, none⟩) j j]; rw [hs1] at this; exact this)
    have hgtb : S.g < tb := by have := HT8.out.kp.size; omega
    rw [hV1]
    clear hB1 hM1 hB2 s4 s5 haa hwr HKa hV1
    go_wp2_with fail
    go_loopw [73] (fun i wr => ∃ (r : Nat) (v : Value), r ≤ 2 ∧ i = .int .i64 r ∧ Hid (Kp S V wr) ∧ Hid (Block wr tb 62 #[.int .i64 S.aa, .int .i64 S.a, v]) ∧ Hid (Block wr (tb + 1) 37 #[.slice (some ⟨f0, 0, none⟩) j j, .slice (some ⟨s0, 0, none⟩) j j]) ∧ Hid (Own wr (tb + 2) 5 v (bv (bs (accM S.a M N r 0))))) (fun i _ => 2 - (intOf i).toNat)
    case atStart => exact ⟨0, _, by omega, rfl, HK2, HM2, HL2, Lib.hid (Own.nil _ _ _)⟩
    case round =>
     clear HK2 HM2 HL2
     obtain ⟨r, v, hr, rfl, HK, HMb, HLb, HO⟩ := hrel
     by_cases hr2 : r < 2
     ·obtain ⟨e0, Es, hcell, hEs, hOE, hLE, hEl⟩ : ∃ (e0 : Nat) (Es : List El), wr.cell? ⟨tb + 1, r, none⟩ = some (.slice (some ⟨e0, 0, none⟩) j j) ∧ Es.map El.s = rowsOf S.xs S.a (pickM M N r) L ∧ Own V w.heap.size 34 (.slice (some ⟨e0, 0, none⟩) j j) (cells1 Es) ∧ LstO V w.heap.size Es ∧ Es.length = j := by
       have hF8 := HT8.out.fo; have hG8 := HT8.out.go
       rw [List.take_of_length_le (by rw [HT8.out.fl]; exact Nat.le_refl _)] at hF8
       rw [List.take_of_length_le (by rw [HT8.out.gl]; exact Nat.le_refl _)] at hG8
       have : r = 0 ∨ r = 1 := by omega
       rcases this with rfl | rfl
       ·exact ⟨f0, Fs, HLb.out.cell 0, HFm.out, HT8.out.f, hF8, HT8.out.fl⟩
       ·exact ⟨s0, Gs, HLb.out.cell 1, HGm.out, HT8.out.g, hG8, HT8.out.gl⟩
      have HEs := Lib.hid hEs
      have HOE := Lib.hid hOE
      have HLE := Lib.hid hLE
      have HEl := Lib.hid hEl
      have hX := pick_sym HSM.out HSN.out r
      have HX := Lib.hid hX
      have hr02 : (r : Int) < 2 := by omega
      have hr00 : (0 : Int) ≤ (r : Int) := by omega
      have s4 := HK.out.ok.cells.2.2.2.2.1
      clear hEs hOE hLE hEl hX
      go_wp2_with fail
      go_loopw [81] (fun i wr => ∃ (col : Nat) (v : Value), col ≤ S.a ∧ i = .int .i64 col ∧ Hid (Kp S V wr) ∧ Hid (Block wr tb 62 #[.int .i64 S.aa, .int .i64 S.a, v]) ∧ Hid (Block wr (tb + 1) 37 #[.slice (some ⟨f0, 0, none⟩) j j, .slice (some ⟨s0, 0, none⟩) j j]) ∧ Hid (Own wr (tb + 2) 5 v (bv (bs (accM S.a M N r col))))) (fun i _ => S.a - (intOf i).toNat)
      case atStart => exact ⟨0, _, by omega, rfl, HK, HMb, HLb, HO⟩
      case round =>
       clear HK HMb HLb HO hcell s4
       obtain ⟨col, v, hcl, rfl, HK, HMb, HLb, HO⟩ := hrel
       by_cases hca : col < S.a
       ·have hlen : ∀ e ∈ Es, col < e.s.length := fun e he => by
         have hm : e.s ∈ Es.map El.s := List.mem_map.2 ⟨e, he, rfl⟩
         rw [HEs.out] at hm
         obtain ⟨o, -, ho⟩ := List.mem_map.1 hm
         rw [← ho, row_length]; exact hca
        have HCo := Lib.hid (columnOf_calls S.g (some ⟨e0, 0, none⟩) Es j j col wr HEl.out (by omega) (Mat.Own.row' (Mat.own_keep HOE.out (by decide) HT8.out.kp.fld HK.out.past)) ((HLE.out.past HT8.out.kp.fld HK.out.past).lst HK.out.fldp) hlen (by omega))
        have hca' : (col : Int) < (S.a : Int) := by omega
        clear hlen
        go_wp2_with fail
        refine HCo.out.mono ?_
        rintro e w1 ⟨B, dB, rfl, hdB, hOB, hb1⟩
        have hK1 := HK.out.below hb1
        have hcol : (colOf Es col).length = j := by rw [colOf, List.length_map, HEl.out]
        have HD1 := Lib.hid (decoder1_calls T hK1.ok (HD8.out.past HT8.out.kp.fld hK1.past) (by omega) (by omega) (by omega) B (colOf Es col) j dB hcol (BF.own hK1.fldp hOB) hdB (by omega))
        have HK1 := Lib.hid hK1
        have HMb1 := Lib.hid (HMb.out.below hb1 HMb.out.lt)
        have HLb1 := Lib.hid (HLb.out.below hb1 HLb.out.lt)
        have HO1 := Lib.hid (HO.out.below hb1)
        clear hOB hb1 hK1 hcol HK HMb HLb HO HCo
        go_wp2_with fail
        refine HD1.out.mono ?_
        rintro e w2 ⟨msg, wl, z, hw, A1, c1, B1, d1, rfl, hc1, hd1, hO1, hO2, hf, hp⟩
        rw [HI.out.plE, colOf_rows HEs.out] at hw
        obtain ⟨rfl, rfl, rfl⟩ := col_ok H.out.par.P hca (HX.out.len _ hca) HL.out (by rw [← HI.out.length, HM.out]; have := Hm.out; omega) (by simpa using hw)
        have hxl := HX.out.len _ hca
        rw [hxl] at hO1 hc1 ⊢
        have HK2 := Lib.hid (HK1.out.go hf hp)
        have hM2 := HMb1.out.past hp HMb1.out.lt (by omega)
        have HLb2 := Lib.hid (HLb1.out.past hp HLb1.out.lt (by omega))
        have HO2 := Lib.hid (own_keep HO1.out HK1.out.fldp hp)
        have HRw : Hid (Row w2 A1 (bv (bs (pickM M N r col)))) := Lib.hid (Mat.Own.row' hO1)
        have hlt2 := HLb2.out.lt
        have k2 := hM2.cell 2
        have HMb2 := Lib.hid hM2
        have hacc := accM_length HSM.out HSN.out (r := r) (Nat.le_of_lt hca)
        have hbd : (bv (bs (accM S.a M N r col))).length + S.a ≤ 2000 := by
         rw [bvs_length, hacc]
         have h16 := H.out.a16
         have h1 : S.a * S.a ≤ 16 * 16 := Nat.mul_le_mul h16 h16
         have h2 : col * S.a ≤ 16 * 16 := Nat.mul_le_mul (by omega) h16
         have h3 : r * (S.a * S.a) ≤ 2 * (16 * 16) := Nat.mul_le_mul (by omega) h1
         omega
        have hyl : (bv (bs (pickM M N r col))).length = S.a := by rw [bvs_length, hxl]
        clear hw hO1 hO2 hf hp hM2 HD1 HK1 HMb1 HLb1 HO1 hacc hd1 hc1
        go_wp2_with (at_builtin; refine wpList_app _ rfl _ _ _ rfl (tb + 2) 5 _ 1 Tryz.underlying34 info_u8 rfl (by omega) v _ rfl HO2.out A1 S.a c1 (bv (bs (pickM M N r col))) rfl hyl HRw.out (bv_one _) (by omega) (by omega) ?_; rintro v2 w3 hown hg3 -; obtain ⟨P2, n2, d2, rfl⟩ := own_slice hown; have hg9 := HO2.out.grew (by omega) hg3; have HG := Lib.hid hg9; have HOw := Lib.hid hown; have kc := (HMb2.out.below hg9 (by omega)).cell 2; have kf := (HMb2.out.below hg9 (by omega)).frozen 2; clear hown hg3 hg9)
        have hM3 := HMb2.out.below HG.out (by omega)
        have hL3 := HLb2.out.below HG.out (by omega)
        have HK3 : Hid (Kp S V (w3.setCell ⟨tb, 2, none⟩ (.slice P2 n2 d2))) := Lib.hid (Kp.later HT8.out.kp.ok HK2.out ((HG.out.mono (by omega)).setCell (p := ⟨tb, 2, none⟩) (by show V.heap.size ≤ tb; omega) _))
        have HMb3 : Hid (Block (w3.setCell ⟨tb, 2, none⟩ (.slice P2 n2 d2)) tb 62 #[.int .i64 S.aa, .int .i64 S.a, .slice P2 n2 d2]) := Lib.hid (hM3.set_ 2 _)
        have HLb3 : Hid (Block (w3.setCell ⟨tb, 2, none⟩ (.slice P2 n2 d2)) (tb + 1) 37 #[.slice (some ⟨f0, 0, none⟩) j j, .slice (some ⟨s0, 0, none⟩) j j]) := Lib.hid (hL3.far (p := ⟨tb, 2, none⟩) (by show tb + 1 ≠ tb; omega) _)
        have HO3 : Hid (Own (w3.setCell ⟨tb, 2, none⟩ (.slice P2 n2 d2)) (tb + 2) 5 (.slice P2 n2 d2) (bv (bs (accM S.a M N r (col + 1))))) := Lib.hid (by
         rw [accM_snoc, bs_append, bv_append]
         exact Own.far HOw.out (p := ⟨tb, 2, none⟩) (fun e => by have := HOw.out.lt _ e; simp at this; omega) _)
        clear hM3 hL3 HK2 HMb2 HLb2 HO2 HG HOw kc kf k2
        go_roundw
        case rel => exact ⟨col + 1, _, by omega, by go_num, HK3, HMb3, HLb3, HO3⟩
        case measure => simp [intOf]; omega
       ·obtain rfl : col = S.a := by omega
        have HO4 : Hid (Own wr (tb + 2) 5 v (bv (bs (accM S.a M N (r + 1) 0)))) := Lib.hid (by rw [accM_next]; exact HO.out)
        clear HO
        go_wp2
        go_roundw
        case rel => exact ⟨r + 1, _, by omega, by go_num, HK, HMb, HLb, HO4⟩
        case measure => simp [intOf]; omega
     ·obtain rfl : r = 2 := by omega
      obtain ⟨P2, n2, d2, rfl⟩ := own_slice HO.out
      have hO := HO.out
      rw [accM_two] at hO
      have hB4 := (HB8.out.past HK.out.past (by have := HB8.out.lt; omega) (by omega))
      obtain ⟨l0, l1, l2⟩ := Mat.cells3 hB4
      have q0 := hB4.frozen 0
      have q1 := hB4.frozen 1
      have q2 := hB4.frozen 2
      have k0 := HMb.out.cell 0
      have k1 := HMb.out.cell 1
      have k2 := HMb.out.cell 2
      have HO4 := Lib.hid hO
      clear hO HO hB4
      have hT := HT8.out.past HK.out.fldp HK.out.past
      have HKe : Hid (Kp S w (Mat.set3 wr w.heap.size (.int .i64 S.aa) (.int .i64 S.a) (.slice P2 n2 d2))) := Lib.hid (Kp.later H.out hT.kp (Mat.below_set3 (Below.refl w.heap.size wr) (Nat.le_refl _) _ _ _))
      have HOe : Hid (Own (Mat.set3 wr w.heap.size (.int .i64 S.aa) (.int .i64 S.a) (.slice P2 n2 d2)) w.heap.size 5 (.slice P2 n2 d2) (bv (bs (bothL S.a M N)))) := Lib.hid (Mat.own_set3 (HO4.out.more (by have := HT8.out.kp.size; omega)) (fun e => by have := (HO4.out.lt _ e).1; have := HT8.out.kp.size; omega) _ _ _)
      have hlen : (bv (bs (bothL S.a M N))).length = S.aa * S.a := by rw [bvs_length, bothL_length HSM.out HSN.out, H.out.aa_]
      have hn2 : n2 = S.aa * S.a := by
       obtain ⟨A', c', he, -, -⟩ := HO4.out.form
       injection he with e1 e2 e3
       rw [← hlen, e2]
      have hcap : n2 ≤ d2 := own_cap2 HO4.out (by rw [hlen, hn2])
      have HN2 := Lib.hid hn2
      clear hT hlen hn2
      go_wp2
      refine bodyPost_ret (v := .agg #[.int .i64 S.aa, .int .i64 S.a, .slice P2 n2 d2]) (by simp [results, Tryz.results59, go_sem, l0, l1, l2]) rfl ?_
      exact ⟨P2, d2, n2, HN2.out, rfl, hcap, HOe.out, HKe.out.fldp, HKe.out.past⟩
end Go.Proofs.YtjoghbmedfmioaaGreat.Ms

namespace Go.Proofs.YtjoghbmedfmioaaGreat.Ms
open Go.RowKit Go.Shelf F8 Poly GF Rd
attribute [local go_sem] Oper.semAt_some
def Box2 (p q : Nat) (A B : World) : Prop := B.heap[p]? = A.heap[p]? ∧ B.heap[q]? = A.heap[q]?
theorem Box2.refl (p q : Nat) (A : World) : Box2 p q A A := ⟨rfl, rfl⟩
theorem Box2.trans {p q : Nat} {A B C : World} (h : Box2 p q A B) (k : Box2 p q B C) : Box2 p q A C := ⟨k.1.trans h.1, k.2.trans h.2⟩
theorem Box2.cell {p q : Nat} {A B : World} (h : Box2 p q A B) : B.cell? ⟨p, 0, none⟩ = A.cell? ⟨p, 0, none⟩ ∧ B.cell? ⟨q, 0, none⟩ = A.cell? ⟨q, 0, none⟩ := by
 simp only [World.cell?, h.1, h.2, and_self]
def fins (cnt k : Nat) : List (Fin cnt) := (List.range k).filterMap fun i => if h : i < cnt then some ⟨i, h⟩ else none
theorem fins_succ {cnt k : Nat} (h : k < cnt) : fins cnt (k + 1) = fins cnt k ++ [⟨k, h⟩] := by
 unfold fins; rw [List.range_succ, List.filterMap_append]; simp [h]
theorem fins_length {cnt : Nat} : ∀ k, k ≤ cnt → (fins cnt k).length = k
 | 0, _ => rfl
 | k + 1, h => by rw [fins_succ (by omega), List.length_append, fins_length k (by omega)]; rfl
theorem fins_map {cnt : Nat} {β : Type} (f : Nat → β) : ∀ k, k ≤ cnt → (fins cnt k).map (fun x => f x.1) = (List.range k).map f
 | 0, _ => rfl
 | k + 1, h => by rw [fins_succ (by omega), List.map_append, fins_map f k (by omega), List.range_succ, List.map_append]; rfl
set_option maxRecDepth 100000 in
set_option maxHeartbeats 2000000 in
theorem chunk1_in (n : Nat) (hn : 1 ≤ n) (l Bs Bn b off N a cap cnt : Nat) (ha : 1 ≤ a) (ha2 : a ≤ 1000) (hN : cnt * a = N) (hN2 : N ≤ 100000) (hcap : N ≤ cap) (J Jx : List (Fin cnt) → World → Prop)
  (hY : ∀ pre x W, J pre W → pre.length < cnt → YieldAt Fence.wide (n - 1) Tryz.prog l #[.slice (some ⟨b, off + x.1 * a, none⟩) a a] W fun e W' =>
   (e = .returned (.bool true) ∧ J (pre ++ [x]) W' ∧ Box2 Bs Bn W W') ∨ (e = .returned (.bool false) ∧ Jx (pre ++ [x]) W'))
  (W : World) (hJ : AbidesFrom W.heap.size J) (hs : W.cell? ⟨Bs, 0, none⟩ = some (.slice (some ⟨b, off, none⟩) N cap)) (hk : W.cell? ⟨Bn, 0, none⟩ = some (.int .i64 a)) (h0 : J [] W) :
  CallsIn Fence.wide n Tryz.prog 77 #[.func (.yield l) #[] #[], .pointer (some ⟨Bs, 0, none⟩), .pointer (some ⟨Bn, 0, none⟩)] W fun e W' => (∃ v, e = .returned v) ∧
   ((∃ ys, ys = fins cnt cnt ∧ J ys W') ∨ (∃ pre, True ∧ Jx pre W')) := by
 refine callsIn_of_wp Tryz.func77 rfl trivial ?_ rfl
 simp only [Tryz.ntmps77, List.size_toArray, List.length_cons, List.length_nil, Nat.reduceAdd, Nat.reduceSub, Array.replicate_succ, Array.replicate_zero, List.push_toArray, List.append_toArray, List.nil_append, List.cons_append]
 gi_wp2
 gi_loopw [4] (fun i wr => ∃ (k i0 : Nat), k ≤ cnt ∧ Hid (i0 = k * a) ∧ i = .int .i64 i0 ∧ J (fins cnt k) wr ∧ Box2 Bs Bn W wr) (fun i _ => N - (intOf i).toNat)
 case atStart => exact ⟨0, 0, Nat.zero_le _, Lib.hid (by simp), rfl, h0, Box2.refl _ _ _⟩
 case round =>
  obtain ⟨k, i0, hk2, hi0, rfl, hJs, hB⟩ := hrel
  have hs' := hB.cell.1.trans hs
  have hk' := hB.cell.2.trans hk
  by_cases hlt : k < cnt
  ·have hdr : Hid (J (fins cnt k) wr.drew) := Lib.hid <| by
    have hb : Below wr.heap.size wr wr.drew := (Below.refl _ _).drew
    exact hJ _ _ _ none hJs ⟨hb.os, hb.tape, hb.output, hb.size, fun k hk _ => hb.block k hk⟩ (fun r e => by cases e)
   have hle : (k + 1) * a ≤ cnt * a := Nat.mul_le_mul_right a hlt
   rw [Nat.succ_mul, ← hi0.out, hN] at hle
   have h1 : (i0 : Int) < (N : Int) := by omega
   have hiN : (i0 : Int) ≤ (N : Int) := by omega
   have hm : min (a : Int) ((N : Int) - (i0 : Int)) = (a : Int) := by omega
   have hm2 : min (a : Int) ((N - i0 : Nat) : Int) = (a : Int) := by omega
   gi_wp2
   gi_region_both
   have hs3 : wr.drew.cell? ⟨Bs, 0, none⟩ = some (.slice (some ⟨b, off, none⟩) N cap) := hs'
   have hk3 : wr.drew.cell? ⟨Bn, 0, none⟩ = some (.int .i64 a) := hk'
   have hBd : Box2 Bs Bn W wr.drew := hB
   have hsub : i0 + a - i0 = a := by omega
   obtain ⟨V, hV⟩ : ∃ V, wr.drew = V := ⟨_, rfl⟩
   rw [hV] at hs3 hk3 hBd hdr ⊢
   clear hs' hk' hB hJs hV
   obtain ⟨fn, tmps, assign, body, hy, hR⟩ := hY _ ⟨k, hlt⟩ V hdr.out (by rw [fins_length k hk2]; exact hlt)
   dsimp only at hy
   rw [← hi0.out] at hy
   gi_wp2
   refine hR.mono ?_
   rintro e W3 (⟨rfl, hJ3, hk4⟩ | ⟨rfl, hJx3⟩)
   ·have hs4 := hk4.cell.1.trans hs3
    have hk5 := hk4.cell.2.trans hk3
    have HJ3 : Hid (J (fins cnt (k + 1)) W3) := Lib.hid (by rw [fins_succ hlt]; exact hJ3)
    clear hs3 hk3 hJ3 hy
    gi_wp2
    go_roundw
    case rel => exact ⟨k + 1, i0 + a, by omega, Lib.hid (by rw [Nat.succ_mul, hi0.out]), by go_num, HJ3.out, hBd.trans hk4⟩
    case measure => simp [intOf]; omega
   ·gi_wp2
    refine bodyPost_ret (results_none rfl _ _ _) rfl ?_
    exact ⟨⟨_, rfl⟩, .inr ⟨_, trivial, hJx3⟩⟩
  ·obtain rfl : k = cnt := by omega
   obtain rfl : i0 = N := by rw [hi0.out, hN]
   gi_wp2
   go_end0
   exact ⟨⟨_, rfl⟩, .inl ⟨_, rfl, hJs⟩⟩
end Go.Proofs.YtjoghbmedfmioaaGreat.Ms

namespace Go.Proofs.YtjoghbmedfmioaaGreat.Ms
open F8 Poly Rd Mat Wl
theorem pw_xp (x : F8) : ∀ k, pw x k = xpow x k
 | 0 => rfl
 | k + 1 => by simp only [pw, xpow]; rw [pw_xp x k]; first | rfl | rw [mul_comm]
theorem xp_add (x : F8) (m : Nat) : ∀ k, xpow x (m + k) = xpow x m * xpow x k
 | 0 => (mul_one _).symm
 | k + 1 => by rw [← Nat.add_assoc]; simp only [xpow]; rw [xp_add x m k, ← mul_assoc, ← mul_assoc, mul_comm x]
theorem coef_lo {s t : List F8} {i : Nat} (h : i < s.length) : coef (s ++ t) i = coef s i := by
 unfold coef; rw [List.getD_eq_getElem?_getD, List.getD_eq_getElem?_getD, List.getElem?_append_left h]
theorem coef_hi {s t : List F8} {i : Nat} : coef (s ++ t) (s.length + i) = coef t i := by
 unfold coef; rw [List.getD_eq_getElem?_getD, List.getD_eq_getElem?_getD, List.getElem?_append_right (by omega)]; congr 2; omega
theorem flat_at {f : Nat → List F8} {k i c : Nat} (hc : c < k) : ∀ n, (∀ q, q < n → (f q).length = k) → i < n → coef ((List.range n).flatMap f) (i * k + c) = coef (f i) c
 | 0, _, h => by omega
 | n + 1, h, hi => by
  have hl := flat_len n (fun q hq => h q (by omega))
  rw [List.range_succ, List.flatMap_append]
  by_cases e : i < n
  ·have h1 : (i + 1) * k ≤ n * k := Nat.mul_le_mul_right k e
   rw [Nat.succ_mul] at h1
   rw [coef_lo (by omega)]
   exact flat_at hc n (fun q hq => h q (by omega)) e
  ·obtain rfl : i = n := by omega
   rw [← hl, coef_hi]; simp
section
variable {a : Nat} {M N : Nat → List F8} (hM : Sym a M) (hN : Sym a N)
include hM hN
omit hN in
theorem both_lo {l c : Nat} (hl : l < a) (hc : c < a) : ent (bothL a M N) a l c = coef (M l) c := by
 have h1 := flat_len a hM.len
 have h2 : (l + 1) * a ≤ a * a := Nat.mul_le_mul_right a hl
 rw [Nat.succ_mul] at h2
 unfold ent bothL
 rw [coef_lo (by omega), flat_at hc a hM.len hl]
theorem both_hi {l c : Nat} (hl : l < a) (hc : c < a) : ent (bothL a M N) a (a + l) c = coef (N l) c := by
 have h1 := flat_len a hM.len
 unfold ent bothL
 rw [show (a + l) * a + c = ((List.range a).flatMap M).length + (l * a + c) by rw [h1, Nat.add_mul]; omega, coef_hi, flat_at hc a hN.len hl]
theorem prod_at (xs : List F8) {i c nx : Nat} (hi : i < nx) (hc : c < a) : mulF (2 * a) (ent (flat nx (2 * a) (powF xs)) (2 * a)) (ent (bothL a M N) a) i c = coef (shr a M N (coef xs i)) c := by
 unfold mulF
 rw [show 2 * a = a + a by omega, sum_split, coef_shr hc, eval_sum _ _ (Nat.le_of_eq (hM.len c hc)), eval_sum _ _ (Nat.le_of_eq (hN.len c hc)), ← mul_sum]
 congr 1
 ·refine sum_congr fun l hl => ?_
  rw [ent_flat hi (by omega), both_lo hM hl hc, hM.sym l c hl hc, mul_comm]
  unfold powF; rw [pw_xp]
 ·refine sum_congr fun l hl => ?_
  rw [ent_flat hi (by omega), both_hi hM hN hl hc, hN.sym l c hl hc]
  unfold powF; rw [pw_xp, xp_add, mul_assoc, mul_comm (coef (N c) l)]
theorem prod_node (xs : List F8) {v n nx j : Nat} (hnx : nx = n + v) (hj : j < n) :
  ((flat nx a (mulF (2 * a) (ent (flat nx (2 * a) (powF xs)) (2 * a)) (ent (bothL a M N) a))).drop ((v + j) * a)).take a = node xs v a M N j := by
 have hle : (v + j + 1) * a ≤ nx * a := Nat.mul_le_mul_right a (by omega)
 rw [Nat.succ_mul] at hle
 have hlen : (((flat nx a (mulF (2 * a) (ent (flat nx (2 * a) (powF xs)) (2 * a)) (ent (bothL a M N) a))).drop ((v + j) * a)).take a).length = a := by
  rw [List.length_take, List.length_drop, flat_length]; omega
 refine Mat.list_ext (by rw [hlen, node, shr_length]) fun c hc => ?_
 rw [hlen] at hc
 have e : coef (((flat nx a (mulF (2 * a) (ent (flat nx (2 * a) (powF xs)) (2 * a)) (ent (bothL a M N) a))).drop ((v + j) * a)).take a) c = ent (flat nx a (mulF (2 * a) (ent (flat nx (2 * a) (powF xs)) (2 * a)) (ent (bothL a M N) a))) a (v + j) c := by
  unfold ent coef
  rw [List.getD_eq_getElem?_getD, List.getD_eq_getElem?_getD, List.getElem?_take, if_pos hc, List.getElem?_drop]
 rw [e, ent_flat (by omega) hc, prod_at hM hN xs (by omega) hc]
 rfl
end
end Go.Proofs.YtjoghbmedfmioaaGreat.Ms
