/- Of the program, joined: GfTab, GfRef, PolyKit, Turn, PolyDown. -/
import Derived.Test.YtjoghbmedfmioabGreatPt02
import Derived.BigQuiet
import Derived.Deep.QuietTactic
import Derived.BigRegion
import Derived.StillTailTactics
import Derived.Deep.RegionWith
import Derived.Lib.Hide
import Derived.Test.YtjoghbmedfmioabGreatPt01
import Derived.RangeFuncNested
import Derived.RangeFuncBound
import Derived.Shelf.Abstract
import Derived.Shelf.RegionOpen
import Derived.WalkKit
import Derived.OwnWalkIn
import Derived.TacticsInMore
import Derived.LoopNIn
import Derived.LoopIn
namespace Go.Proofs.YtjoghbmedfmioabGreat.GF
open Go.RowKit
def fc (d s : Int) (k i : Nat) : Value :=
 if i = 0 then .int .u32 d else if i = 1 then .int .i32 s else if i = 2 then .int .u32 0
 else if i < 258 then .int .u8 ((if i - 3 < k then gp (i - 3) else 0 : Nat) : Int)
 else .int .u8 ((if gl (i - 258) < k ∧ i ≠ 258 then gl (i - 258) else 0 : Nat) : Int)
def fcells (d s : Int) (k : Nat) : Array Value := Array.ofFn (n := 514) fun i => fc d s k i
theorem zero_field (w : World) : (zeroValue 80).run Tryz.prog w = .ok (.agg (fcells 0 0 0)) w := by kernel_rfl
theorem new_calls (w : World) : Calls Tryz.prog 9 #[] w fun e w' => e = .returned (.pointer (some ⟨w.heap.size, 0, none⟩)) ∧ w' = w.alloc (.cells (fcells 0 0 0) 80) := by
 have hz := zero_field w
 go_enter Tryz.func9, Tryz.ntmps9
 go_wp2
 go_ret
 exact ⟨rfl, rfl⟩
set_option maxRecDepth 100000 in
set_option maxHeartbeats 400000 in
theorem timesG_calls (n : Nat) (hn : n < 256) (w : World) :
  Calls Tryz.prog 69 #[.int .i64 n] w fun e w' => e = .returned (.int .i64 (gx n)) ∧ w' = w := by
 have HX := Lib.hid (i64_xor (2 * n) 285 (by omega) (by omega))
 go_enter Tryz.func69, Tryz.ntmps69
 go_wp2
 all_goals
  go_ret
  refine ⟨ret_int ?_, rfl⟩
  unfold gx
 ·rw [if_pos (by omega), ← HX.out, show ((2 * n : Nat) : Int) = (n : Int) * 2 by omega]; rfl
 ·rw [if_neg (by omega)]; omega
theorem fcells_get (d s : Int) (k i : Nat) (hi : i < 514) : (fcells d s k)[i]? = some (fc d s k i) := by
 unfold fcells; rw [Array.getElem?_ofFn, dif_pos hi]
theorem fcells_set (d s d' s' : Int) (k k' j : Nat) (v : Value) (hv : ∀ i, i < 514 → fc d' s' k' i = if i = j then v else fc d s k i) : (fcells d s k).setIfInBounds j v = fcells d' s' k' := by
 apply Array.ext
 ·simp [fcells]
 ·intro i h1 h2
  have hi : i < 514 := by simpa [fcells] using h2
  rw [Array.getElem_setIfInBounds (by simpa [fcells] using hi)]
  simp only [fcells, Array.getElem_ofFn]
  rw [hv i hi]
  by_cases h : j = i
  ·rw [if_pos h, if_pos h.symm]
  ·rw [if_neg h, if_neg (fun e => h e.symm)]
theorem fcells_round (d s : Int) (k : Nat) (hk : k < 255) : ((fcells d s k).setIfInBounds (3 + k) (.int .u8 (gp k : Nat))).setIfInBounds (258 + gp k) (.int .u8 (k : Nat)) = fcells d s (k + 1) := by
 apply Array.ext
 ·simp [fcells]
 ·intro i h1 h2
  have hi : i < 514 := by simpa [fcells] using h2
  rw [Array.getElem_setIfInBounds (by simpa [fcells] using hi), Array.getElem_setIfInBounds (by simpa [fcells] using hi)]
  simp only [fcells, Array.getElem_ofFn]
  have hg := gp_lt k
  have h0 := gp_ne k
  unfold fc
  by_cases i0 : i = 0
  ·subst i0; rw [if_neg (by omega), if_neg (by omega)]; rfl
  by_cases i1 : i = 1
  ·subst i1; rw [if_neg (by omega), if_neg (by omega)]; rfl
  by_cases i2 : i = 2
  ·subst i2; rw [if_neg (by omega), if_neg (by omega)]; rfl
  simp only [if_neg i0, if_neg i1, if_neg i2]
  by_cases i3 : i < 258
  ·simp only [if_pos i3]
   rw [if_neg (by omega)]
   by_cases e : 3 + k = i
   ·rw [if_pos e, show i - 3 = k by omega, if_pos (by omega)]
   ·rw [if_neg e]
    by_cases h : i - 3 < k
    ·rw [if_pos h, if_pos (by omega)]
    ·rw [if_neg h, if_neg (by omega)]
  ·simp only [if_neg i3]
   by_cases e : 258 + gp k = i
   ·rw [if_pos e, show i - 258 = gp k by omega, gl_gp' k hk, if_pos ⟨by omega, by omega⟩]
   ·rw [if_neg e, if_neg (by omega)]
    have hne : i ≠ 258 → gl (i - 258) ≠ k := fun h e2 => e (by rw [← e2, gp_gl (by omega) (by omega)]; omega)
    by_cases h : i = 258
    ·rw [if_neg (by omega), if_neg (by omega)]
    ·have := hne h
     by_cases h2 : gl (i - 258) < k
     ·rw [if_pos ⟨h2, h⟩, if_pos ⟨by omega, h⟩]
     ·rw [if_neg (by omega), if_neg (by omega)]
set_option maxRecDepth 100000 in
set_option maxHeartbeats 1000000 in
theorem fill_calls (g : Nat) (pl : Addr) (hpb : pl.block ≠ g) (w : World) (hp : w.cell? pl = some (.pointer (some ⟨g, 0, none⟩))) (hB : Block w g 80 (fcells 0 1 0)) :
  Calls Tryz.prog 68 #[.pointer (some pl)] w fun e w' => e = .returned (.tuple #[]) ∧ Block w' g 80 (fcells 0 1 255) ∧ Past w.heap.size g w w' ∧ w'.heap.size = w.heap.size := by
 have HB := Lib.hid hB
 clear hB
 go_enter Tryz.func68, Tryz.ntmps68
 go_wp2
 go_loopw [1, 3] (fun el i wr => ∃ k : Nat, k ≤ 255 ∧ i = .int .i64 k ∧ el = .int .i64 (gp k : Nat) ∧ Past w.heap.size g w wr ∧ Hid (wr.heap.size = w.heap.size) ∧ Hid (Block wr g 80 (fcells 0 1 k))) (fun _ i _ => 255 - (intOf i).toNat)
 case atStart => exact ⟨0, by omega, rfl, rfl, Past.refl _ _ _, Lib.hid rfl, HB⟩
 case round =>
  clear HB
  obtain ⟨k, hk, rfl, rfl, HP, HS, HB⟩ := hrel
  have hpl : wr.cell? pl = some (.pointer (some ⟨g, 0, none⟩)) := (World.cell?_of_block (HP.block pl.block (cell_lt hp) hpb)).trans hp
  by_cases hlt : k < 255
  ·have hc1 := (HB.out.cell (3 + k)).trans (fcells_get _ _ _ (3 + k) (by omega))
   have hf1 := HB.out.frozen (3 + k)
   have hf2 := HB.out.frozen (258 + gp k)
   have hg := gp_lt k
   have HB2 := Lib.hid (HB.out.set_ (3 + k) (.int .u8 (gp k : Nat)))
   have hpl2 : (wr.setCell ⟨g, 3 + k, none⟩ (.int .u8 (gp k : Nat))).cell? pl = some (.pointer (some ⟨g, 0, none⟩)) := (World.cell?_setCell_other _ _ _ _ (fun h => hpb (by rw [← h]))).trans hpl
   have hc2 : (wr.setCell ⟨g, 3 + k, none⟩ (.int .u8 (gp k : Nat))).cell? ⟨g, 258 + gp k, none⟩ = some (fc 0 1 k (258 + gp k)) := by
    rw [HB2.out.cell, Array.getElem?_setIfInBounds_ne (by omega)]; exact fcells_get _ _ _ _ (by omega)
   go_wp2_with (go_at_call 69; refine (timesG_calls _ (by assumption) _).mono ?_; rintro e w' ⟨rfl, rfl⟩)
   go_roundw
   case rel => exact ⟨k + 1, by omega, by go_num, rfl, (HP.setCell (.inl rfl) _).setCell (.inl rfl) _, Lib.hid (by simp [World.setCell]; exact HS.out), by rw [← fcells_round 0 1 k hlt]; exact HB2.out.set_ _ _⟩
   case measure => simp [intOf]; omega
  ·obtain rfl : k = 255 := by omega
   go_wp2
   go_end0
   exact ⟨rfl, HB.out, HP, HS.out⟩
theorem setState (d s s' : Int) (k : Nat) : (fcells d s k).setIfInBounds 1 (.int .i32 s') = fcells d s' k :=
 fcells_set d s d s' k k 1 _ (fun i _ => by unfold fc; by_cases h : i = 1 <;> simp [h])
theorem setDone (d s d' : Int) (k : Nat) : (fcells d s k).setIfInBounds 0 (.int .u32 d') = fcells d' s k :=
 fcells_set d s d' s k k 0 _ (fun i _ => by unfold fc; by_cases h : i = 0 <;> simp [h])
set_option maxRecDepth 100000 in
set_option maxHeartbeats 1600000 in
theorem slow_calls (g : Nat) (pl : Addr) (hpb : pl.block ≠ g) (w : World) (hp : w.cell? pl = some (.pointer (some ⟨g, 0, none⟩))) (hB : Block w g 80 (fcells 0 0 0)) :
  Calls Tryz.prog 80 #[.pointer (some ⟨g, 0, none⟩), .func (.func 68) #[] #[.pointer (some pl)]] w fun e w' => e = .returned (.tuple #[]) ∧ Block w' g 80 (fcells 1 0 255) ∧ Past w.heap.size g w w' ∧ w'.heap.size = w.heap.size := by
 have c1 : w.cell? ⟨g, 1, none⟩ = some (.int .i32 0) := (hB.cell 1).trans (fcells_get _ _ _ 1 (by decide))
 have f1 : w.frozen? ⟨g, 1, none⟩ = false := hB.frozen 1
 have hB1 : Block (w.setCell ⟨g, 1, none⟩ (.int .i32 1)) g 80 (fcells 0 1 0) := by have := hB.set_ 1 (.int .i32 1); rw [setState] at this; exact this
 have hl := run_call_load (P := Tryz.prog) Tryz.func93 (by kernel_rfl) (by kernel_rfl) (by kernel_rfl) .u32 (by kernel_rfl) (w := w.setCell ⟨g, 1, none⟩ (.int .i32 1)) (a := ⟨g, 0, none⟩) (x := 0) ((hB1.cell 0).trans (fcells_get _ _ _ 0 (by decide)))
 have hp1 : (w.setCell ⟨g, 1, none⟩ (.int .i32 1)).cell? pl = some (.pointer (some ⟨g, 0, none⟩)) := (World.cell?_setCell_other _ _ _ _ (fun h => hpb (by rw [← h]))).trans hp
 have hnot : ∀ (x : Bool) (w : World), (Op.unary .not (.bool x)).run Tryz.prog w = .ok (.bool (!x)) w := fun _ _ => rfl
 have HB := Lib.hid hB
 have HB1 := Lib.hid hB1
 clear hB hB1
 go_enter_defers Tryz.func80, Tryz.ntmps80
 go_wp2_with (first | (go_at_call 94; refine (Once.lock_free ⟨g, 1, none⟩ _ (by assumption) (by assumption)).mono ?_; rintro e w' ⟨rfl, rfl⟩) | (go_at_call 79; go_in) | (go_at_call 68; refine (fill_calls g pl hpb _ hp1 HB1.out).mono ?_; rintro e w2 ⟨rfl, HB2, HP2, HS2⟩))
 have hs1 : (w.setCell ⟨g, 1, none⟩ (.int .i32 1)).heap.size = w.heap.size := by simp [World.setCell]
 refine leaves_cons (f := 96) (args := #[.pointer (some ⟨g, 0, none⟩), .bool true]) (by simp) (by simp [go_sem]) ?_
 refine (Once.store_deferred ⟨g, 0, none⟩ (.int .u32 0) .returning _ ((HB2.cell 0).trans (fcells_get _ _ _ 0 (by decide))) (HB2.frozen 0)).mono ?_
 rintro e u' w'' ⟨rfl, rfl, rfl⟩
 have HB3 : Block (w2.drew.setCell ⟨g, 0, none⟩ (.int .u32 1)) g 80 (fcells 1 1 255) := by have := HB2.drew.set_ 0 (.int .u32 1); rw [setDone] at this; exact this
 refine leaves_cons (f := 95) (args := #[.pointer (some ⟨g, 1, none⟩)]) (by simp [settle]) (by simp [go_sem]) ?_
 refine (Once.unlock_deferred ⟨g, 1, none⟩ _ _ ((HB3.cell 1).trans (fcells_get _ _ _ 1 (by decide))) (HB3.frozen 1)).mono ?_
 rintro e u' w'' ⟨rfl, rfl, rfl⟩
 have HB4 : Block ((w2.drew.setCell ⟨g, 0, none⟩ (.int .u32 1)).setCell ⟨g, 1, none⟩ (.int .i32 0)) g 80 (fcells 1 0 255) := by have := HB3.set_ 1 (.int .i32 0); rw [setState] at this; exact this
 have HP4 : Past w.heap.size g w ((w2.drew.setCell ⟨g, 0, none⟩ (.int .u32 1)).setCell ⟨g, 1, none⟩ (.int .i32 0)) := by
  rw [hs1] at HP2
  exact (((((Past.refl _ g w).setCell (.inl rfl) _).trans HP2).drew).setCell (.inl rfl) _).setCell (.inl rfl) _
 simp [Leaves, settle, results, Tryz.results80]
 exact ⟨HB4, HP4, by rw [hs1] at HS2; exact HS2⟩
set_option maxRecDepth 100000 in
set_option maxHeartbeats 1600000 in
theorem do_first (g : Nat) (pl : Addr) (hpb : pl.block ≠ g) (w : World) (hp : w.cell? pl = some (.pointer (some ⟨g, 0, none⟩))) (hB : Block w g 80 (fcells 0 0 0)) :
  Calls Tryz.prog 67 #[.pointer (some ⟨g, 0, none⟩), .func (.func 68) #[] #[.pointer (some pl)]] w fun e w' => e = .returned (.tuple #[]) ∧ Block w' g 80 (fcells 1 0 255) ∧ Past w.heap.size g w w' ∧ w'.heap.size = w.heap.size := by
 have hl := run_call_load (P := Tryz.prog) Tryz.func93 (by kernel_rfl) (by kernel_rfl) (by kernel_rfl) .u32 (by kernel_rfl) (w := w) (a := ⟨g, 0, none⟩) (x := 0) ((hB.cell 0).trans (fcells_get _ _ _ 0 (by decide)))
 have hnot : ∀ (x : Bool) (w : World), (Op.unary .not (.bool x)).run Tryz.prog w = .ok (.bool (!x)) w := fun _ _ => rfl
 have HB := Lib.hid hB
 clear hB
 go_enter Tryz.func67, Tryz.ntmps67
 go_wp2_with (first | (go_at_call 80; refine (slow_calls g pl hpb _ hp HB.out).mono ?_; rintro e w' ⟨rfl, h1, h2, h3⟩) | (go_at_call 79; go_in))
 go_end0
 exact ⟨rfl, h1, h2, h3⟩
def Fld (w : World) (g : Nat) : Prop := Block w g 80 (fcells 0 0 0) ∨ Block w g 80 (fcells 1 0 255)
def Made (w : World) (g : Nat) : Prop := Block w g 80 (fcells 1 0 255)
theorem Made.fld {w : World} {g : Nat} (h : Made w g) : Fld w g := .inr h
theorem Fld.lt {w : World} {g : Nat} (h : Fld w g) : g < w.heap.size := by rcases h with h | h <;> exact h.lt
theorem Fld.new (w : World) : Fld (w.alloc (.cells (fcells 0 0 0) 80)) w.heap.size := .inl (Block.new _ _ _)
theorem Fld.below {w w' : World} {g B : Nat} (h : Fld w g) (hb : Below B w w') (hg : g < B) : Fld w' g := h.imp (fun h => h.below hb hg) (fun h => h.below hb hg)
theorem Fld.alloc {w : World} {g : Nat} (h : Fld w g) (o : Obj) : Fld (w.alloc o) g := h.below ((Below.refl _ _).alloc (Nat.le_refl _) o) h.lt
theorem Made.pow {w : World} {g : Nat} (h : Made w g) (k : Nat) (hk : k < 255) : w.cell? ⟨g, 3 + k, none⟩ = some (.int .u8 (gp k : Nat)) := by
 rw [h.cell, fcells_get _ _ _ _ (by omega)]
 unfold fc
 rw [if_neg (by omega), if_neg (by omega), if_neg (by omega), if_pos (by omega), show 3 + k - 3 = k by omega, if_pos hk]
theorem Made.log {w : World} {g : Nat} (h : Made w g) (a : Nat) (ha : a < 256) : w.cell? ⟨g, 258 + a, none⟩ = some (.int .u8 (gl a : Nat)) := by
 rw [h.cell, fcells_get _ _ _ _ (by omega)]
 unfold fc
 rw [if_neg (by omega), if_neg (by omega), if_neg (by omega), if_neg (by omega), show 258 + a - 258 = a by omega]
 by_cases h0 : a = 0
 ·subst h0; rfl
 ·rw [if_pos ⟨gl_lt ha, by omega⟩]
set_option maxHeartbeats 1600000 in
theorem ready_calls (g : Nat) (w : World) (hF : Fld w g) :
  Calls Tryz.prog 51 #[.pointer (some ⟨g, 0, none⟩)] w fun e w' => e = .returned (.pointer (some ⟨g, 0, none⟩)) ∧ Made w' g ∧ Past w.heap.size g w w' := by
 have hmf : ∀ (fn : Fn) (first cap : Array Value) (w : World), (Instr.makeFunc fn first cap).run Tryz.prog w = .ok (.func fn first cap) w := fun _ _ _ _ => rfl
 have hne : w.heap.size ≠ g := by have := hF.lt; omega
 have p0 : (w.alloc (.cells #[.pointer (some ⟨g, 0, none⟩)] 30)).cell? ⟨w.heap.size, 0, none⟩ = some (.pointer (some ⟨g, 0, none⟩)) := by simp
 have HA := Lib.hid (hF.alloc (.cells #[.pointer (some ⟨g, 0, none⟩)] 30))
 rcases HA.out with h | h
 ·have H := Lib.hid h
  clear h hF HA
  go_enter Tryz.func51, Tryz.ntmps51
  go_wp2_with (go_at_call 67; refine (do_first g ⟨w.heap.size, 0, none⟩ hne _ p0 H.out).mono ?_; rintro e w' ⟨rfl, h1, h2, h3⟩; have p1 := (World.cell?_of_block (h2.block w.heap.size (by simp) hne)).trans p0; replace h3 := Lib.hid h3)
  go_ret
  exact ⟨rfl, h1, (Past.of_below ((Below.refl _ _).alloc (Nat.le_refl _) _) _).trans (h2.mono (by simp))⟩
 ·have H := Lib.hid h
  clear h hF HA
  go_enter Tryz.func51, Tryz.ntmps51
  go_wp2_with (go_at_call 67; refine (Once.do_done ⟨g, 0, none⟩ 1 (by decide) _ _ ((H.out.cell 0).trans (fcells_get _ _ _ 0 (by decide)))).mono ?_; rintro e w' ⟨rfl, rfl⟩)
  go_ret
  exact ⟨rfl, H.out, Past.of_below ((Below.refl _ _).alloc (Nat.le_refl _) _) _⟩
set_option maxHeartbeats 1600000 in
theorem ready_nil (w : World) :
  Calls Tryz.prog 51 #[.pointer none] w fun e w' => ∃ g, e = .returned (.pointer (some ⟨g, 0, none⟩)) ∧ Made w' g ∧ Below w.heap.size w w' ∧ w.heap.size ≤ g := by
 have hmf : ∀ (fn : Fn) (first cap : Array Value) (w : World), (Instr.makeFunc fn first cap).run Tryz.prog w = .ok (.func fn first cap) w := fun _ _ _ _ => rfl
 go_enter Tryz.func51, Tryz.ntmps51
 go_wp2_with (go_at_call 9; refine (new_calls _).mono ?_; rintro e w' ⟨rfl, rfl⟩)
 have HB : Hid (Block ((w.alloc (.cells #[.pointer (some ⟨w.heap.size + 1, 0, none⟩)] 30)).alloc (.cells (fcells 0 0 0) 80)) (w.heap.size + 1) 80 (fcells 0 0 0)) := by
  have := Block.new (w.alloc (.cells #[.pointer (some ⟨w.heap.size + 1, 0, none⟩)] 30)) 80 (fcells 0 0 0)
  exact Lib.hid (by simpa using this)
 have p0 : ((w.alloc (.cells #[.pointer (some ⟨w.heap.size + 1, 0, none⟩)] 30)).alloc (.cells (fcells 0 0 0) 80)).cell? ⟨w.heap.size, 0, none⟩ = some (.pointer (some ⟨w.heap.size + 1, 0, none⟩)) := by simp
 refine (do_first (w.heap.size + 1) ⟨w.heap.size, 0, none⟩ (by simp) _ p0 HB.out).mono ?_
 rintro e w' ⟨rfl, h1, h2, h3⟩
 have p1 := (World.cell?_of_block (h2.block w.heap.size (by simp; omega) (by omega))).trans p0
 replace h3 := Lib.hid h3
 go_wp2
 go_ret
 exact ⟨_, rfl, h1, ((Past.of_below (((Below.refl _ _).alloc (Nat.le_refl _) _).alloc (by simp) _) _).trans (h2.mono (by simp; omega))).below (by omega), by omega⟩
def FldP (w : World) (p : Option Addr) : Prop := p = none ∨ ∃ g, p = some ⟨g, 0, none⟩ ∧ Fld w g
def rb (w : World) (p : Option Addr) : Nat := match p with
 | some a => a.block
 | none => w.heap.size
theorem FldP.of {w : World} {g : Nat} (h : Fld w g) : FldP w (some ⟨g, 0, none⟩) := .inr ⟨g, rfl, h⟩
theorem FldP.fld {w : World} {g : Nat} (h : FldP w (some ⟨g, 0, none⟩)) : Fld w g := by
 rcases h with h | ⟨g', h, hf⟩
 ·cases h
 ·simp only [Option.some.injEq, Addr.mk.injEq] at h; obtain ⟨rfl, _⟩ := h; exact hf
theorem FldP.drewN {w : World} {p : Option Addr} (h : FldP w p) (n : Nat) : FldP (w.drewN n) p := h
theorem FldP.below {w w' : World} {p : Option Addr} (h : FldP w p) (hb : Below w.heap.size w w') : FldP w' p := by
 rcases h with h | ⟨g, h, hf⟩
 ·exact .inl h
 ·exact .inr ⟨g, h, hf.below hb hf.lt⟩
theorem ready_any (p : Option Addr) (w : World) (hp : FldP w p) :
  Calls Tryz.prog 51 #[.pointer p] w fun e w' => ∃ g, e = .returned (.pointer (some ⟨g, 0, none⟩)) ∧ Made w' g ∧ FldP w' p ∧ Past w.heap.size (rb w p) w w' ∧ (p = none ∧ w.heap.size ≤ g ∨ p = some ⟨g, 0, none⟩) := by
 rcases hp with rfl | ⟨g, rfl, hf⟩
 ·exact (ready_nil w).mono fun e w' ⟨g, h1, h2, h3, h4⟩ => ⟨g, h1, h2, .inl rfl, Past.of_below h3 _, .inl ⟨rfl, h4⟩⟩
 ·exact (ready_calls g w hf).mono fun e w' ⟨h1, h2, h3⟩ => ⟨g, h1, h2, FldP.of h2.fld, h3, .inr rfl⟩
end Go.Proofs.YtjoghbmedfmioabGreat.GF

namespace Go.Proofs.YtjoghbmedfmioabGreat.GF
open Go.RowKit
theorem rmA_step (a b k : Nat) : rmA a b (k + 1) = if b.testBit k then rmA a b k ^^^ (a <<< k) else rmA a b k := rfl
theorem rmR_step (n j : Nat) : rmR n (j + 1) = if (rmR n j).testBit (14 - j) then rmR n j ^^^ (285 <<< (6 - j)) else rmR n j := rfl
theorem shl_lt {a k : Nat} (ha : a < 512) (hk : k ≤ 8) : a <<< k < 131072 := by
 rw [Nat.shiftLeft_eq]
 have : 2 ^ k ≤ 2 ^ 8 := Nat.pow_le_pow_right (by decide) hk
 exact Nat.lt_of_le_of_lt (Nat.mul_le_mul_left a this) (by omega)
theorem shl_int (a k : Nat) : ((a <<< k : Nat) : Int) = (a : Int) * 2 ^ k := by rw [Nat.shiftLeft_eq]; simp
theorem shl_in {a k : Nat} (ha : a < 512) (hk : k ≤ 8) : IntKind.i64.wrap ((a : Int) * 2 ^ k) = (a : Int) * 2 ^ k := by
 have h := shl_lt ha hk
 rw [← shl_int]
 generalize a <<< k = y at h
 exact IntWalk.i64_in _ (by omega)
set_option maxRecDepth 100000 in
set_option maxHeartbeats 1600000 in
theorem refMul_calls (a b : Nat) (ha : a < 256) (hb : b < 256) (w : World) :
  Calls Tryz.prog 78 #[.int .u8 a, .int .u8 b] w fun e w' => e = .returned (.int .u8 (gm a b : Nat)) ∧ w' = w := by
 go_enter Tryz.func78, Tryz.ntmps78
 go_wp2
 go_loop [5, 6] (fun n i => ∃ k : Nat, k ≤ 8 ∧ i = .int .i64 k ∧ n = .int .i64 (rmA a b k : Nat)) (fun _ i => 8 - (intOf i).toNat)
 case atStart => exact ⟨0, by omega, rfl, rfl⟩
 case round =>
  obtain ⟨k, hk, rfl, rfl⟩ := hrel
  have hr := rmA_lt16 ha b k hk
  by_cases hlt : k < 8
  ·have HB := bit_u8 b k hb
   have hs := shl_lt (a := a) (k := k) (by omega) hk
   have HX := Lib.hid (i64_xor (rmA a b k) (a <<< k) (by omega) (by omega))
   have hsw := shl_in (a := a) (k := k) (by omega) hk
   have HS := Lib.hid (rmA_step a b k)
   by_cases hbit : b.testBit k = true
   ·rw [hbit] at HB
    go_wp2
    go_round
    case rel => exact ⟨k + 1, by omega, by go_num, by rw [HS.out, hbit, if_pos rfl, ← HX.out, shl_int]⟩
    case measure => simp [intOf]; omega
   ·have hb2 : b.testBit k = false := by simpa using hbit
    rw [hb2] at HB
    go_wp2
    go_round
    case rel => exact ⟨k + 1, by omega, by go_num, by rw [HS.out, hb2]; rfl⟩
    case measure => simp [intOf]; omega
  ·obtain rfl : k = 8 := by omega
   have hx : rmA a b 8 < 65536 := hr
   have HF : Hid (rmR (rmA a b 8) 7 % 256 = gm a b) := Lib.hid (rm_eq ha hb)
   clear hr hlt hk
   obtain ⟨x, hxx⟩ : ∃ x : Nat, rmA a b 8 = x := ⟨_, rfl⟩
   rw [hxx] at hx HF
   simp only [Int.cast_ofNat_Int, hxx]
   clear hxx
   go_wp2
   go_loop [5, 7] (fun n i => ∃ m : Nat, 7 ≤ m ∧ m ≤ 14 ∧ i = .int .i64 m ∧ n = .int .i64 (rmR x (14 - m) : Nat)) (fun _ i => (intOf i).toNat)
   case atStart => exact ⟨14, by omega, by omega, rfl, rfl⟩
   case round =>
    obtain ⟨m, hm7, hm14, rfl, rfl⟩ := hrel
    have hr := rmR_lt hx (14 - m)
    by_cases hge : 8 ≤ m
    ·obtain ⟨d, hd⟩ : ∃ d : Nat, (m : Int) - 8 = (d : Int) := ⟨m - 8, by omega⟩
     have hdm : d = m - 8 := by omega
     have HB := bit_i64 (rmR x (14 - m)) m (by omega)
     have hs := shl_lt (a := 285) (k := d) (by omega) (by omega)
     have HX := Lib.hid (i64_xor (rmR x (14 - m)) (285 <<< d) (by omega) (by omega))
     have hsw : IntKind.i64.wrap ((285 : Int) * 2 ^ d) = (285 : Int) * 2 ^ d := shl_in (a := 285) (k := d) (by omega) (by omega)
     have HS : Hid (rmR x (14 - (m - 1)) = if (rmR x (14 - m)).testBit m then rmR x (14 - m) ^^^ (285 <<< d) else rmR x (14 - m)) := by
      have := rmR_step x (14 - m)
      rw [show 14 - (14 - m) = m by omega, show 6 - (14 - m) = d by omega, show 14 - m + 1 = 14 - (m - 1) by omega] at this
      exact Lib.hid this
     clear hdm
     by_cases hbit : (rmR x (14 - m)).testBit m = true
     ·rw [hbit] at HB
      go_wp2
      go_round
      case rel => exact ⟨m - 1, by omega, by omega, val_int (by omega), by rw [HS.out, hbit, if_pos rfl, ← HX.out, shl_int]; rfl⟩
      case measure => simp [intOf]; omega
     ·have hb2 : (rmR x (14 - m)).testBit m = false := by simpa using hbit
      rw [hb2] at HB
      go_wp2
      go_round
      case rel => exact ⟨m - 1, by omega, by omega, val_int (by omega), by rw [HS.out, hb2]; rfl⟩
      case measure => simp [intOf]; omega
    ·obtain rfl : m = 7 := by omega
     go_wp2
     go_ret
     exact ⟨ret_int (by rw [← HF.out]; simp), rfl⟩
theorem gq_ne {b : Nat} (hb : b < 256) (h0 : b ≠ 0) : gq 1 b ≠ 0 := fun h => by
 have := gm_gq (a := 1) (by decide) hb h0
 rw [h, zero_gm] at this
 exact absurd this (by decide)
theorem gq_of {a b : Nat} (ha : a < 256) (hb : b < 256) (h : gm a b = 1) : b = gq 1 a := by
 have a0 : a ≠ 0 := fun e => by subst e; rw [zero_gm] at h; cases h
 rw [← h, gm_comm, gq_gm hb ha a0]
theorem gm_gq1 {a b : Nat} (ha : a < 256) (hb : b < 256) (h0 : b ≠ 0) : gm a (gq 1 b) = gq a b := by
 refine gm_cancel (gm_lt _ _) (gq_lt _ _) hb h0 ?_
 rw [gm_gq ha hb h0, gm_assoc ha (gq_lt _ _) hb, gm_gq (by decide) hb h0, gm_one ha]
set_option maxRecDepth 100000 in
set_option maxHeartbeats 1600000 in
theorem refInv_calls (a : Nat) (ha : a < 256) (a0 : a ≠ 0) (w : World) :
  Calls Tryz.prog 91 #[.int .u8 a] w fun e w' => e = .returned (.tuple #[.int .u8 (gq 1 a : Nat), .bool true]) ∧ w = w' := by
 have hq := gq_lt 1 a
 have hq0 := gq_ne ha a0
 have HQ := Lib.hid (gm_comm _ _ ▸ gm_gq (a := 1) (by decide) ha a0 : gm a (gq 1 a) = 1)
 go_enter Tryz.func91, Tryz.ntmps91
 go_wp2
 go_loop [4] (fun i => ∃ k : Nat, 1 ≤ k ∧ k ≤ gq 1 a ∧ i = .int .i64 k) (fun i => 256 - (intOf i).toNat)
 case atStart => exact ⟨1, by omega, by omega, rfl⟩
 case round =>
  obtain ⟨k, hk1, hkq, rfl⟩ := hrel
  have hk : k < 256 := by omega
  have hg := gm_lt a k
  have hwr : IntKind.u8.wrap (k : Int) = (k : Int) := by rw [IntKind.wrap_u8']; omega
  by_cases h1 : gm a k = 1
  ·have H1 := Lib.hid h1
   have hb : (((gm a k : Nat) : Int) == 1) = true := by simp; omega
   clear h1
   go_wp2_with (go_at_call 78; refine (refMul_calls _ _ ha hk _).mono ?_; rintro e w' ⟨rfl, rfl⟩)
   go_ret2
   exact ⟨ret_pair (gq_of ha hk H1.out), rfl⟩
  ·have hb : (((gm a k : Nat) : Int) == 1) = false := by simp; omega
   have hne : k ≠ gq 1 a := fun e => h1 (by rw [e]; exact HQ.out)
   clear h1
   go_wp2_with (go_at_call 78; refine (refMul_calls _ _ ha hk _).mono ?_; rintro e w' ⟨rfl, rfl⟩)
   go_round
   case rel => exact ⟨k + 1, by omega, by omega, by go_num⟩
   case measure => simp [intOf]; omega
set_option maxRecDepth 100000 in
set_option maxHeartbeats 1600000 in
theorem refInv_zero (w : World) :
  Calls Tryz.prog 91 #[.int .u8 0] w fun e w' => e = .returned (.tuple #[.int .u8 0, .bool false]) ∧ w = w' := by
 go_enter Tryz.func91, Tryz.ntmps91
 go_wp2
 go_loop [4] (fun i => ∃ k : Nat, 1 ≤ k ∧ k ≤ 256 ∧ i = .int .i64 k) (fun i => 256 - (intOf i).toNat)
 case atStart => exact ⟨1, by omega, by omega, rfl⟩
 case round =>
  obtain ⟨k, hk1, hkq, rfl⟩ := hrel
  by_cases hk : k < 256
  ·have hwr : IntKind.u8.wrap (k : Int) = (k : Int) := by rw [IntKind.wrap_u8']; omega
   have hm := refMul_calls 0 k (by decide) hk
   rw [zero_gm] at hm
   go_wp2_with (go_at_call 78; refine (hm _).mono ?_; rintro e w' ⟨rfl, rfl⟩)
   go_round
   case rel => exact ⟨k + 1, by omega, by omega, by go_num⟩
   case measure => simp [intOf]; omega
  ·obtain rfl : k = 256 := by omega
   go_wp2
   go_ret2
   exact ⟨rfl, rfl⟩
theorem refDiv_zero (a : Nat) (w : World) :
  Calls Tryz.prog 74 #[.int .u8 a, .int .u8 0] w fun e w' => e = .returned (.tuple #[.int .u8 0, .bool false]) ∧ w = w' := by
 go_enter Tryz.func74, Tryz.ntmps74
 go_wp2_with (go_at_call 91; refine (refInv_zero _).mono ?_; rintro e w' ⟨rfl, rfl⟩)
 go_ret2
 exact ⟨rfl, rfl⟩
theorem refDiv_calls (a b : Nat) (ha : a < 256) (hb : b < 256) (b0 : b ≠ 0) (w : World) :
  Calls Tryz.prog 74 #[.int .u8 a, .int .u8 b] w fun e w' => e = .returned (.tuple #[.int .u8 (gq a b : Nat), .bool true]) ∧ w = w' := by
 have HQ := Lib.hid (gm_gq1 ha hb b0)
 go_enter Tryz.func74, Tryz.ntmps74
 go_wp2_with (first | (go_at_call 91; refine (refInv_calls b hb b0 _).mono ?_; rintro e w' ⟨rfl, rfl⟩) | (go_at_call 78; refine (refMul_calls _ _ ha (gq_lt _ _) _).mono ?_; rintro e w' ⟨rfl, rfl⟩))
 go_ret2
 exact ⟨ret_pair HQ.out, rfl⟩
set_option maxRecDepth 100000 in
set_option maxHeartbeats 1600000 in
theorem refPow_calls (a : Nat) (ha : a < 256) (n : Int) (hl : -9223372036854775808 ≤ n) (hh : n < 9223372036854775808) (w : World) :
  Calls Tryz.prog 77 #[.int .u8 a, .int .i64 n] w fun e w' => e = .returned (.int .u8 (gpow a n : Nat)) ∧ w = w' := by
 by_cases n0 : n = 0
 ·subst n0
  rw [show gpow a 0 = 1 from rfl]
  go_enter Tryz.func77, Tryz.ntmps77
  go_wp2
  go_ret
  exact ⟨rfl, rfl⟩
 have h0 : (n == 0) = false := by simp; omega
 by_cases a0 : a = 0
 ·subst a0
  rw [show gpow 0 n = 0 by unfold gpow; rw [if_neg n0]; rfl]
  go_enter Tryz.func77, Tryz.ntmps77
  go_wp2
  go_ret
  exact ⟨rfl, rfl⟩
 have h1 : ((a : Int) == 0) = false := by simp; omega
 have ht := tmod255 n
 have hm : IntKind.i64.wrap (n.tmod 255) = n.tmod 255 := IntWalk.i64_in _ (by omega)
 have HG := Lib.hid (rpow_eq ha a0 n)
 obtain ⟨c, hcn⟩ : ∃ c : Nat, c = (n % 255).toNat := ⟨_, rfl⟩
 rw [← hcn] at HG
 have hc255 : c < 255 := by omega
 obtain ⟨m, hmm⟩ : ∃ m : Int, n.tmod 255 = m := ⟨_, rfl⟩
 rw [hmm] at hm ht
 by_cases hneg : m < 0
 ·have hm2 : m + 255 = (c : Int) := by omega
  clear hcn ht
  go_enter Tryz.func77, Tryz.ntmps77
  go_wp2
  go_loop [6, 7] (fun x i => ∃ k : Nat, k ≤ c ∧ i = .int .i64 k ∧ x = .int .u8 (rpow a k : Nat)) (fun _ i => c - (intOf i).toNat)
  case atStart => exact ⟨0, by omega, rfl, rfl⟩
  case round =>
   obtain ⟨k, hk, rfl, rfl⟩ := hrel
   have hc : ∀ w, Calls Tryz.prog 78 #[.int .u8 (rpow a k : Nat), .int .u8 a] w fun e w' => e = .returned (.int .u8 (rpow a (k + 1) : Nat)) ∧ w' = w := refMul_calls (rpow a k) a (rpow_lt a k) ha
   by_cases hlt : k < c
   ·go_wp2_with (go_at_call 78; refine (hc _).mono ?_; rintro e w' ⟨rfl, rfl⟩)
    go_round
    case rel => exact ⟨k + 1, by omega, by go_num, rfl⟩
    case measure => simp [intOf]; omega
   ·obtain rfl : k = c := by omega
    go_wp2
    go_ret
    exact ⟨ret_nat HG.out, rfl⟩
 ·obtain rfl : m = (c : Int) := by omega
  clear hcn ht
  go_enter Tryz.func77, Tryz.ntmps77
  go_wp2
  go_loop [6, 7] (fun x i => ∃ k : Nat, k ≤ c ∧ i = .int .i64 k ∧ x = .int .u8 (rpow a k : Nat)) (fun _ i => c - (intOf i).toNat)
  case atStart => exact ⟨0, by omega, rfl, rfl⟩
  case round =>
   obtain ⟨k, hk, rfl, rfl⟩ := hrel
   have hc : ∀ w, Calls Tryz.prog 78 #[.int .u8 (rpow a k : Nat), .int .u8 a] w fun e w' => e = .returned (.int .u8 (rpow a (k + 1) : Nat)) ∧ w' = w := refMul_calls (rpow a k) a (rpow_lt a k) ha
   by_cases hlt : k < c
   ·go_wp2_with (go_at_call 78; refine (hc _).mono ?_; rintro e w' ⟨rfl, rfl⟩)
    go_round
    case rel => exact ⟨k + 1, by omega, by go_num, rfl⟩
    case measure => simp [intOf]; omega
   ·obtain rfl : k = c := by omega
    go_wp2
    go_ret
    exact ⟨ret_nat HG.out, rfl⟩
end Go.Proofs.YtjoghbmedfmioabGreat.GF

namespace Go.Proofs.YtjoghbmedfmioabGreat.Poly
open Go.RowKit F8
theorem info_u8 : (Tryz.prog.info? 5).map (fun i => (i.zero, i.size, i.bytes)) = some (some (.int .u8 0), 1, 1) := by kernel_rfl
theorem bvs_length (p : List F8) : (bv (bs p)).length = p.length := by rw [bv_length, bs_length]
def Res (w w' : World) (e : Ending) (p : List F8) : Prop :=
 ∃ A c, e = .returned (.slice A p.length c) ∧ p.length ≤ c ∧ Own w' w.heap.size 5 (.slice A p.length c) (bv (bs p)) ∧ Below w.heap.size w w'
theorem Own.shape {w : World} {B : Nat} {e : TypeId} {v : Value} {p : List F8} (h : Own w B e v (bv (bs p))) : ∃ A c, v = .slice A p.length c ∧ p.length ≤ c := by
 have hl := bvs_length p
 rcases h.2 with ⟨rfl, hn⟩ | ⟨g, cap, cur, rfl, _, _, h3, _⟩
 ·exact ⟨none, 0, by rw [← hl, hn], by omega⟩
 ·exact ⟨some ⟨g, 0, none⟩, cap, by rw [hl], by omega⟩
theorem Own.bytes {w : World} {B : Nat} {e : TypeId} {A : Option Addr} {n c : Nat} {p : List F8} (h : Own w B e (.slice A n c) (bv (bs p))) : Bytes w A (bs p) := by
 obtain ⟨A', c', e1, hc⟩ := Own.shape h
 injection e1 with e2 e3 e4
 subst e2 e3 e4
 unfold Own at h
 rw [bvs_length] at h
 exact ⟨Row.of_own h, bs_lt p⟩
theorem Res.mk {w w' : World} {v : Value} {p : List F8} (h : Own w' w.heap.size 5 v (bv (bs p))) (hb : Below w.heap.size w w') : Res w w' (.returned v) p := by
 obtain ⟨A, c, rfl, hc⟩ := Own.shape h
 exact ⟨A, c, rfl, hc, h, hb⟩
theorem cellF {w : World} {A : Option Addr} {p : List F8} (h : Bytes w A (bs p)) (k : Nat) (hk : k < p.length) : ∃ b off, A = some ⟨b, off, none⟩ ∧ w.cell? ⟨b, off + k, none⟩ = some (.int .u8 ((coef p k).n : Int)) := by
 obtain ⟨b, off, h1, h2, _⟩ := h.at_ (k := k) (by rw [bs_length]; exact hk)
 refine ⟨b, off, h1, ?_⟩
 rw [h2, coef_of_lt hk]
 simp [bs]
theorem where_ {w : World} {A : Option Addr} {p : List F8} (h : Bytes w A (bs p)) (h0 : 0 < p.length) : ∃ b off, A = some ⟨b, off, none⟩ := by
 obtain ⟨b, off, h1, _⟩ := cellF h 0 h0; exact ⟨b, off, h1⟩
theorem cellAt {w : World} {b off : Nat} {p : List F8} (h : Bytes w (some ⟨b, off, none⟩) (bs p)) (k : Nat) (hk : k < p.length) : w.cell? ⟨b, off + k, none⟩ = some (.int .u8 ((coef p k).n : Int)) := by
 obtain ⟨b', off', h1, h2⟩ := cellF h k hk
 simp only [Option.some.injEq, Addr.mk.injEq] at h1
 obtain ⟨rfl, rfl, _⟩ := h1
 exact h2
theorem bytes_take {w : World} {A : Option Addr} {p : List F8} (h : Bytes w A (bs p)) (n : Nat) : Bytes w A (bs (p.take n)) := by
 refine ⟨fun k u hu => h.row k u ?_, bs_lt _⟩
 simp only [bv, bs, List.map_take, List.getElem?_take] at hu ⊢
 split at hu
 ·exact hu
 ·cases hu
theorem bytes_drop {w : World} {b off : Nat} {p : List F8} (h : Bytes w (some ⟨b, off, none⟩) (bs p)) (n : Nat) : Bytes w (some ⟨b, off + n, none⟩) (bs (p.drop n)) := by
 refine ⟨fun k u hu => ?_, bs_lt _⟩
 simp only [bv, bs, List.map_drop, List.getElem?_drop] at hu
 obtain ⟨b', off', e, hc⟩ := h.row (n + k) u hu
 simp only [Option.some.injEq, Addr.mk.injEq] at e
 obtain ⟨rfl, rfl, _⟩ := e
 exact ⟨_, _, rfl, by rw [← hc, Nat.add_assoc]⟩
theorem n_beq (a b : F8) : (((a.n : Int) == (b.n : Int)) = true) ↔ a = b := by
 rw [← F8.n_inj, beq_iff_eq]; omega
theorem n_beq_false {a b : F8} (h : a ≠ b) : ((a.n : Int) == (b.n : Int)) = false := by
 rw [Bool.eq_false_iff]; exact fun e => h ((n_beq a b).1 e)
theorem n_beq0 {a : F8} (h : a ≠ 0) : ((a.n : Int) == 0) = false := n_beq_false h
theorem f8_bounds (a : F8) : (0 : Int) ≤ a.n ∧ (a.n : Int) < 256 := by have := a.h; omega
theorem addr_add (b off k : Nat) : (⟨b, off, none⟩ : Addr).add k = ⟨b, off + k, none⟩ := by unfold Addr.add; split <;> simp_all
theorem slice_to {w : World} {A : Option Addr} {p : List F8} (h : Bytes w A (bs p)) (c n : Nat) (hn : n ≤ p.length) (hc : p.length ≤ c) :
  ∃ A2, (∀ w, (Instr.slice 35 (.slice A p.length c) none (some (.int .i64 (n : Int))) none).run Tryz.prog w = .ok (.slice A2 n c) w) ∧ Bytes w A2 (bs (p.take n)) ∧ ∀ a, A2 = some a → ∃ a0, A = some a0 ∧ a0.block = a.block := by
 refine ⟨if c = 0 then A else A.map (·.add (0 * 1)), fun w => ?_, ?_, ?_⟩
 ·obtain ⟨i, hi, _, hi2, _⟩ := info_parts info_u8
  simp [Instr.slice, Instr.sliceBounds, Instr.sliceBound, run_underlying Tryz.underlying35, asIntOf, sizeOf, typeInfo, Sem.run_bind, hi]
  intro h; omega
 ·by_cases hl : p = []
  ·subst hl; simp only [List.take_nil]; exact Bytes.nil _ _
  ·have h0 : 0 < p.length := List.length_pos_iff.2 hl
   obtain ⟨b, off, rfl⟩ := where_ h h0
   rw [if_neg (by omega)]
   simp only [Option.map_some, Nat.zero_mul, addr_add, Nat.add_zero]
   exact bytes_take h n
 ·intro a ha
  split at ha
  ·exact ⟨a, ha, rfl⟩
  ·obtain ⟨a0, e, rfl⟩ := Option.map_eq_some_iff.1 ha
   exact ⟨a0, e, by unfold Addr.add; split <;> rfl⟩
theorem slice_from {w : World} {A : Option Addr} {p : List F8} (h : Bytes w A (bs p)) (c n : Nat) (hn : n ≤ p.length) (hc : p.length ≤ c) :
  ∃ A2, (∀ w, (Instr.slice 35 (.slice A p.length c) (some (.int .i64 (n : Int))) none none).run Tryz.prog w = .ok (.slice A2 (p.length - n) (c - n)) w) ∧ Bytes w A2 (bs (p.drop n)) ∧ ∀ a, A2 = some a → ∃ a0, A = some a0 ∧ a0.block = a.block := by
 refine ⟨if c = n then A else A.map (·.add (n * 1)), fun w => ?_, ?_, ?_⟩
 ·obtain ⟨i, hi, _, hi2, _⟩ := info_parts info_u8
  simp [Instr.slice, Instr.sliceBounds, Instr.sliceBound, run_underlying Tryz.underlying35, asIntOf, sizeOf, typeInfo, Sem.run_bind, hi, hi2]
  intro h; omega
 ·by_cases hl : p.drop n = []
  ·rw [hl]; exact Bytes.nil _ _
  ·have h0 : 0 < p.length := by rcases p with _ | ⟨x, p⟩; simp at hl; simp
   obtain ⟨b, off, rfl⟩ := where_ h h0
   have : c ≠ n := by rintro rfl; exact hl (List.drop_eq_nil_of_le hc)
   rw [if_neg this]
   simp only [Option.map_some, Nat.mul_one, addr_add]
   exact bytes_drop h n
 ·intro a ha
  split at ha
  ·exact ⟨a, ha, rfl⟩
  ·obtain ⟨a0, e, rfl⟩ := Option.map_eq_some_iff.1 ha
   exact ⟨a0, e, by unfold Addr.add; split <;> rfl⟩
theorem made_bytes (n : Nat) : (madeCells (Value.int .u8 0).cells (n * 1)).toList = bv (bs (List.replicate n 0)) := by
 apply List.ext_getElem
 ·simp [madeCells, bv, bs]
 ·intro i h1 h2
  simp [madeCells, bv, bs, Value.cells, Nat.mod_one]; rfl
theorem make_run (w : World) (n : Nat) (hn : n ≤ 1000000000) :
  ∃ w', (Instr.makeSlice 35 (.int .i64 (n : Int)) (.int .i64 (n : Int))).run Tryz.prog w = .ok (.slice (some ⟨w.heap.size, 0, none⟩) n n) w' ∧ Own w' w.heap.size 5 (.slice (some ⟨w.heap.size, 0, none⟩) n n) (bv (bs (List.replicate n 0))) ∧ Below w.heap.size w w' := by
 obtain ⟨i0, hi, hi1, hi2, hi3⟩ := info_parts info_u8
 obtain ⟨w1, hmk, ho, hg⟩ := run_make_full (P := Tryz.prog) w w.heap.size 35 5 i0 _ 1 Tryz.underlying35 hi hi1 hi2 .i64 .i64 n (by rw [hi3]; omega) (by simp only [maxLen]; omega) (Nat.le_refl _)
 rw [made_bytes] at ho
 refine ⟨w1, hmk, ?_, (Below.refl w.heap.size w).grown hg (Nat.le_refl _) (fun _ h => by cases h)⟩
 unfold Own; rw [bvs_length, List.length_replicate]; exact ho
theorem step_app {P : Program} (w : World) {ops : Array Oper} {o : Oper} {a : Act} {K : Act → World → Prop} {Q : Exit → Act → World → Prop} {E : Prop} (hgd : o.guard = none) (s x : Operand) (t : TypeId)
  (ho : o.op = .call { callee := .builtin .append, args := #[s, x], argTypes := #[t, t] })
  (B : Nat) (e : TypeId) (z : Value) (bytes : Nat) (ht : P.underlying t = some (.slice e)) (hinfo : (P.info? e).map (fun i => (i.zero, i.size, i.bytes)) = some (some z, 1, bytes)) (hz : z.cells.size = 1) (hb : 0 < bytes)
  (v : Value) (xs : List Value) (hs : a.eval s = v) (hown : Own w B e v xs) (A : Option Addr) (m c : Nat) (ys : List Value) (hx : a.eval x = .slice A m c) (hm : ys.length = m) (hr : Row w A ys) (h1 : ∀ u ∈ ys, u.oneCell' = true)
  (hlen : (xs.length + m) * bytes ≤ 140737488355328) (hB : B ≤ w.heap.size)
  (h : ∀ v' w', Own w' B e v' (xs ++ ys) → w.grownBy w' v.ownBlock → (v'.ownBlock = v.ownBlock ∨ v'.ownBlock = some w.heap.size) → K (a.put o.dst v') w') :
  if Region.wanted o (yielded ops a.tmps) = true then Oper.wp P o a w K Q else E := by
 have hw : Region.wanted o (yielded ops a.tmps) = true := by simp [Region.wanted, hgd]
 rw [if_pos hw]
 exact wp_app w s x t ho B e z bytes ht hinfo hz hb v xs hs hown A m c ys hx hm hr h1 hlen hB h
end Go.Proofs.YtjoghbmedfmioabGreat.Poly

namespace Go.Proofs.YtjoghbmedfmioabGreat.Poly
open Go.RowKit Go.Shelf
attribute [local go_sem] Oper.semAt_some
structure Turn (B : Nat) (W W' : World) : Prop where
 below : Below B W W'
 cells : ∀ (k : Nat) (cs : Array Value) (t : TypeId) (fr : Nat × Nat), W.heap[k]? = some (Obj.cells cs t fr) → W'.heap[k]? = some (Obj.cells cs t fr)
section
variable {B g : Nat} {W W' W'' : World}
theorem Turn.trans (h : Turn B W W') (k : Turn B W' W'') : Turn B W W'' := ⟨h.below.trans k.below, fun i cs t fr hi => k.cells i cs t fr (h.cells i cs t fr hi)⟩
theorem Turn.alloc (hB : B ≤ W.heap.size) (o : Obj) : Turn B W (W.alloc o) :=
 ⟨(Below.refl _ _).alloc hB o, fun k _ _ _ h => (Below.heap_alloc W o k (Array.getElem?_eq_some_iff.1 h).1).trans h⟩
theorem Turn.put {l : Nat} {o : Obj} (h : W.heap[l]? = some o) (ho : o.isCells = false) (hB : B ≤ l) (o' : Obj) : Turn B W (W.putObj l o') := by
 have hl := (Array.getElem?_eq_some_iff.1 h).1
 refine ⟨(Below.refl B W).grown (grownBy_putObj' W l o') (by omega) (fun k e => by cases e; exact hB), fun k cs t fr hk => ?_⟩
 by_cases e : k = l
 ·subst e; rw [h] at hk; cases hk; cases ho
 ·exact (World.putObj_heap_other e).trans hk
theorem Turn.cell (h : Turn B W W') {p : Addr} {v : Value} (hc : W.cell? p = some v) : W'.cell? p = some v := by
 unfold World.cell? at hc ⊢
 cases ho : W.heap[p.block]? with
 | none => rw [ho] at hc; cases hc
 | some o =>
  rw [ho] at hc
  cases o with
  | cells cs t fr => rw [h.cells _ _ _ _ ho]; exact hc
  | _ => cases hc
theorem Turn.block {t : TypeId} {cs : Array Value} (h : Turn B W W') (hb : Block W g t cs) : Block W' g t cs := h.cells _ _ _ _ hb
theorem Turn.row {A : Option Addr} {xs : List Value} (h : Turn B W W') (hr : Row W A xs) : Row W' A xs := fun k u hu => by
 obtain ⟨b, off, e, hc⟩ := hr k u hu
 exact ⟨b, off, e, h.cell hc⟩
theorem Turn.bytes {A : Option Addr} {l : List Nat} (h : Turn B W W') (hr : Bytes W A l) : Bytes W' A l := ⟨h.row hr.row, hr.lt⟩
theorem Turn.own {B0 : Nat} {e : TypeId} {v : Value} {xs : List Value} (h : Turn B W W') (ho : Own W B0 e v xs) : Own W' B0 e v xs := by
 refine ⟨ho.1, ?_⟩
 rcases ho.2 with hn | ⟨g, cap, cur, h1, h2, h3, h4⟩
 ·exact .inl hn
 ·exact .inr ⟨g, cap, cur, h1, h2, h.cells _ _ _ _ h3, h4⟩
theorem Turn.past {B0 g : Nat} {w : World} (h : Turn B W W') (hp : Past B0 g w W) (hB : B0 ≤ B) : Past B0 g w W' := hp.trans ((Past.of_below h.below g).mono hB)
theorem Turn.size (h : Turn B W W') : W.heap.size ≤ W'.heap.size := h.below.size
theorem keeps_past {l : Nat} (h : Past W.heap.size g W W') (hg : W.heap.size ≤ g ∨ ∃ cs t fr, W.heap[g]? = some (.cells cs t fr)) : KeepsFrom l W W' :=
 ⟨h.size, fun k o _ hk ho => by
  have hlt := (Array.getElem?_eq_some_iff.1 hk).1
  refine (h.block k hlt ?_).trans hk
  rintro rfl
  rcases hg with hg | ⟨cs, t, fr, hg⟩
  ·omega
  ·rw [hg] at hk; cases hk; cases ho⟩
theorem keeps_below {l : Nat} (h : Below W.heap.size W W') : KeepsFrom l W W' := keeps_past (g := W.heap.size) (Past.of_below h _) (.inl (Nat.le_refl _))
end
theorem zip2 (s1 s2 : Tmp) (u v : Value) (t : Array Value) :
  Array.foldl (fun (tmps : Array Value) (x : Tmp × Value) => match x with | (t, a) => tmps.setIfInBounds t a) t ((#[s1, s2] : Array Tmp).zip #[u, v]) = (t.setIfInBounds s1 u).setIfInBounds s2 v := by simp
end Go.Proofs.YtjoghbmedfmioabGreat.Poly

namespace Go.Proofs.YtjoghbmedfmioabGreat.Poly
open Go.RowKit Go.Shelf F8
attribute [local go_sem] Oper.semAt_some
def DownPost (B : Nat) (I : List F8 → World → Prop) (Ix : Code → World → Prop) (W : World) : Exit → Act → World → Prop
 | .normal, _, W' => KeepsFrom B W W' ∧ ∃ p, I p W'
 | .ret, _, W' => KeepsFrom B W W' ∧ Ix .ret W'
 | .exit id, _, W' => KeepsFrom B W W' ∧ Ix (.exit id) W'
 | _, _, _ => False
set_option maxRecDepth 100000 in
set_option maxHeartbeats 2000000 in
theorem down1_in (n : Nat) (hn : 1 ≤ n) (l Bn m c : Nat) (A : Option Addr) (hm : m ≤ 1000000) (J : Nat → List F8 → World → Prop) (Jx : World → Prop)
  (hJ : ∀ k p W, J k p W → p.length = m ∧ Bytes W A (bs p) ∧ W.cell? ⟨Bn, 0, none⟩ = some (.slice A m c))
  (hY : ∀ k p W, k < m → J (k + 1) p W → YieldAt Fence.wide (n - 1) Tryz.prog l #[.int .i64 k, .int .u8 (coef p k).n] W fun e W' =>
   (e = .returned (.bool true) ∧ ∃ p', J k p' W') ∨ (e = .returned (.bool false) ∧ Jx W'))
  (W : World) (p : List F8) (h0 : J m p W) :
  CallsIn Fence.wide n Tryz.prog 100 #[.func (.yield l) #[] #[], .pointer (some ⟨Bn, 0, none⟩)] W fun e W' => (∃ v, e = .returned v) ∧ ((∃ p', J 0 p' W') ∨ Jx W') := by
 refine callsIn_of_wp Tryz.func100 rfl trivial ?_ rfl
 simp only [Tryz.ntmps100, List.size_toArray, List.length_cons, List.length_nil, Nat.reduceAdd, Nat.reduceSub, Array.replicate_succ, Array.replicate_zero, List.push_toArray, List.append_toArray, List.nil_append, List.cons_append]
 have hb0 := (hJ _ _ _ h0).2.2
 gi_wp2
 gi_loopw [3] (fun i wr => ∃ (k : Nat) (p : List F8), k ≤ m ∧ i = .int .i64 ((k : Int) - 1) ∧ J k p wr) (fun i _ => (intOf i + 1).toNat)
 case atStart => exact ⟨m, p, Nat.le_refl _, rfl, h0⟩
 case round =>
  obtain ⟨k, q, hk, rfl, hj⟩ := hrel
  obtain ⟨hl, hB, hbx⟩ := hJ _ _ _ hj
  rcases Nat.eq_zero_or_pos k with rfl | hpos
  ·gi_wp2
   go_end0
   exact ⟨⟨_, rfl⟩, .inl ⟨q, hj⟩⟩
  ·obtain ⟨j, rfl⟩ : ∃ j, k = j + 1 := ⟨k - 1, by omega⟩
   obtain ⟨b, off, rfl, hc⟩ := cellF hB j (by omega)
   obtain ⟨fn, tmps, assign, body, hy, hR⟩ := hY j q wr (by omega) hj
   have e1 : (((j + 1 : Nat) : Int) - 1) = (j : Int) := by omega
   rw [e1]
   clear e1
   gi_wp2
   refine hR.mono ?_
   rintro e W3 (⟨rfl, q', hJ3⟩ | ⟨rfl, hJx3⟩)
   ·gi_wp2
    go_roundw
    case rel => exact ⟨j, q', by omega, rfl, hJ3⟩
    case measure => simp [intOf]
   ·gi_wp2
    refine bodyPost_ret (results_none rfl _ _ _) rfl ?_
    exact ⟨⟨_, rfl⟩, .inr hJx3⟩
set_option maxRecDepth 100000 in
set_option maxHeartbeats 2000000 in
theorem wpIn_down {n : Nat} (h1 : 3 ≤ n) {g : Operand} {s1 s2 : Tmp} {assign body : Code} {Q : Exit → Act → World → Prop} {a : Act} {w : World} {Bn m c : Nat} {A : Option Addr} (hm : m ≤ 1000000)
  (hg : a.eval g = .func (.func 100) #[] #[.pointer (some ⟨Bn, 0, none⟩)])
  (I : Nat → List F8 → World → Prop) (Ix : Code → World → Prop)
  (hI : ∀ k p W W', I k p W → Turn w.heap.size W W' → I k p W') (hIx : ∀ c W W', Ix c W → Turn w.heap.size W W' → Ix c W')
  (hrd : ∀ k p W, I k p W → p.length = m ∧ Bytes W A (bs p) ∧ W.cell? ⟨Bn, 0, none⟩ = some (.slice A m c))
  (p0 : List F8) (h0 : I m p0 w) (a₁ : Nat → F8 → Act)
  (hassign : ∀ (l k : Nat) (x : F8) (W : World) (K : Act → World → Prop), K (a₁ k x) W →
   assign.wpIn (Fence.wide.inRound l) (n - 1 - 1) Tryz.prog (Exit.then K (fun _ _ _ => False)) { tmps := (a.tmps.setIfInBounds s1 (.int .i64 k)).setIfInBounds s2 (.int .u8 x.n), defers := [] } W)
  (hbody : ∀ (l k : Nat) (p : List F8) (W : World), k < m → I (k + 1) p W → w.heap.size ≤ W.heap.size → body.wpIn (Fence.wide.inRound l) (n - 1 - 1) Tryz.prog (DownPost w.heap.size (I k) Ix W) (a₁ k (coef p k)) W)
  (hdone : ∀ (p : List F8) (W : World), I 0 p W → W.heap[w.heap.size]? = some (.deferred (some [])) → Q .normal { a with defers := { target := .collected w.heap.size, args := #[] } :: a.defers } W)
  (hstop : ∀ (c : Code) (W : World), Ix c W → W.heap[w.heap.size]? = some (.deferred (some [])) → c.wpIn Fence.wide n Tryz.prog Q { a with defers := { target := .collected w.heap.size, args := #[] } :: a.defers } W) :
  (Code.rangeFunc g #[s1, s2] assign body).wpIn Fence.wide n Tryz.prog Q a w := by
 refine wpIn_rangeFunc fun fn hfn => ?_
 obtain ⟨D, hD⟩ : ∃ D, D = w.heap.size := ⟨_, rfl⟩
 obtain ⟨R, hR⟩ : ∃ R : LoopState → Option Code → Obj, R = fun st j => .loop { state := st, pending := j, fn, tmps := a.tmps, params := #[s1, s2], assign, body, defers := D } := ⟨_, rfl⟩
 have hRc : ∀ st j, (R st j).isCells = false := by intro st j; rw [hR]; rfl
 let Bk : LoopState → Option Code → World → Prop := fun st j W => W.heap[D + 1]? = some (R st j) ∧ W.heap[D]? = some (.deferred (some []))
 have bk_put : ∀ {st j st' j'} {W : World}, Bk st j W → Bk st' j' (W.putObj (D + 1) (R st' j')) := fun {st j st' j' W} h =>
  ⟨World.putObj_heap_same (Array.getElem?_eq_some_iff.1 h.1).1, (World.putObj_heap_other (by omega)).trans h.2⟩
 have tn_put : ∀ {st j st' j'} {W : World}, Bk st j W → Turn D W (W.putObj (D + 1) (R st' j')) := fun {st j st' j' W} h => Turn.put h.1 (hRc _ _) (by omega) _
 have bk_keep : ∀ {st j} {W W' : World}, Bk st j W → KeepsFrom D W W' → Bk st j W' := fun {st j W W'} h k => ⟨k.same _ _ (by omega) h.1 (hRc _ _), k.same _ _ (Nat.le_refl _) h.2 rfl⟩
 have ends : ∀ {W : World} (j : Option Code), Bk .busy none W → (Instr.endRound (D + 1) j).run Tryz.prog W = .ok (.bool j.isNone) (W.putObj (D + 1) (R (if j.isNone then .ready else .done) j)) := by
  intro W j h
  have h2 := h.1
  rw [hR] at h2 ⊢
  exact run_endRound j h2
 have out : ∀ {W : World} {st j}, st ≠ .busy → Bk st j W → (Instr.endLoop (D + 1)).run Tryz.prog W = .ok j (W.putObj (D + 1) (R .exhausted j)) := by
  intro W st j hst h
  have h2 := h.1
  rw [hR] at h2 ⊢
  exact run_endLoop h2 hst
 rw [← hD] at hI hIx hbody hdone hstop
 obtain ⟨W1, hW1⟩ : ∃ W1, (w.alloc (.deferred (some []))).alloc (R .ready none) = W1 := ⟨_, rfl⟩
 have t1 : Turn D w W1 := by
  rw [← hW1]
  exact (Turn.alloc (by omega) _).trans (Turn.alloc (by simp; omega) _)
 have b1 : Bk .ready none W1 := by
  have e1 := World.alloc_heap_new (w.alloc (.deferred (some []))) (R .ready none)
  have e2 := (Below.heap_alloc (w.alloc (.deferred (some []))) (R .ready none) w.heap.size (by simp)).trans (World.alloc_heap_new w _)
  rw [World.size_alloc, hW1, ← hD] at e1
  rw [hW1, ← hD] at e2
  exact ⟨e1, e2⟩
 refine ⟨D + 1, [{ target := .collected D, args := #[] }], W1, { target := .fn (.func 100) #[.pointer (some ⟨Bn, 0, none⟩)], args := #[.func (.yield (D + 1)) #[] #[]] }, W1, 100,
  #[.func (.yield (D + 1)) #[] #[]] ++ #[.pointer (some ⟨Bn, 0, none⟩)], W1, ?_, ?_, fun _ _ => trivial, ?_, (fun h => by cases h), ?_⟩
 ·rw [← hW1, hR, hD]; exact run_enterLoop_outer _ _ _ _ _
 ·simp only [resolve, hg]; simp [go_sem]
 ·simp [invoke, go_sem]
 ·refine (down1_in (n - 1) (by omega) (D + 1) Bn m c A hm (fun k p W => I k p W ∧ Bk .ready none W ∧ D ≤ W.heap.size) (fun W => ∃ j, Ix j W ∧ Bk .done (some j) W ∧ D ≤ W.heap.size)
   (fun k p W h => hrd k p W h.1) ?_ W1 p0 ⟨hI _ _ _ _ h0 t1, b1, by have := t1.size; omega⟩).mono ?_
  ·
   rintro k p W hk ⟨hi, hb, hsz⟩
   have hy := run_yield (P := Tryz.prog) (args := #[.int .i64 k, .int .u8 (coef p k).n]) (l := D + 1) (by have h2 := hb.1; rw [hR] at h2; exact h2) rfl
   have hbr := run_beginRound (P := Tryz.prog) (l := D + 1) (by have h2 := hb.1; rw [hR] at h2; exact h2) rfl
   refine ⟨fn, _, assign, body, hy, roundIn_of_wpIn hfn ?_⟩
   clear hy
   dsimp only
   rw [zip2]
   refine hassign _ k (coef p k) W _ ?_
   refine ⟨_, hbr, ?_⟩
   clear hbr
   have hb2 : Bk .busy none (W.putObj (D + 1) (R .busy none)) := bk_put hb
   have hi2 := hI _ _ _ _ hi (tn_put (st' := .busy) (j' := none) hb)
   have hwp := hbody (D + 1) k p (W.putObj (D + 1) (R .busy none)) hk hi2 (by simp; omega)
   rw [hR] at hwp
   refine wpIn_mono hwp ?_
   rintro e a3 W3 hp
   have fin : ∀ (j : Option Code), KeepsFrom D (W.putObj (D + 1) (R .busy none)) W3 → (Instr.endRound (D + 1) j).run Tryz.prog W3 = .ok (.bool j.isNone) (W3.putObj (D + 1) (R (if j.isNone then .ready else .done) j)) ∧
     Bk (if j.isNone then .ready else .done) j (W3.putObj (D + 1) (R (if j.isNone then .ready else .done) j)) ∧ Turn D W3 (W3.putObj (D + 1) (R (if j.isNone then .ready else .done) j)) ∧ D ≤ (W3.putObj (D + 1) (R (if j.isNone then .ready else .done) j)).heap.size := fun j hkf => by
    have hb3 := bk_keep hb2 hkf
    refine ⟨ends j hb3, bk_put hb3, tn_put hb3, ?_⟩
    have := hkf.size
    simp at this ⊢
    omega
   have key : ∀ {W4 : World}, KeepsFrom D (W.putObj (D + 1) ((fun st j => Obj.loop { state := st, pending := j, fn, tmps := a.tmps, params := #[s1, s2], assign, body, defers := D }) .busy none)) W4 → KeepsFrom D (W.putObj (D + 1) (R .busy none)) W4 := by
    intro W4 h; rw [hR]; exact h
   cases e with
   | normal =>
    obtain ⟨hkf, q, hq⟩ := hp
    obtain ⟨f1, f2, f3, f4⟩ := fin none (key hkf)
    exact ⟨_, _, f1, .inl ⟨rfl, q, hI _ _ _ _ hq f3, f2, f4⟩⟩
   | ret =>
    obtain ⟨hkf, hq⟩ := hp
    obtain ⟨f1, f2, f3, f4⟩ := fin (some .ret) (key hkf)
    exact ⟨_, _, f1, .inr ⟨rfl, .ret, hIx _ _ _ hq f3, f2, f4⟩⟩
   | exit id =>
    obtain ⟨hkf, hq⟩ := hp
    obtain ⟨f1, f2, f3, f4⟩ := fin (some (.exit id)) (key hkf)
    exact ⟨_, _, f1, .inr ⟨rfl, .exit id, hIx _ _ _ hq f3, f2, f4⟩⟩
   | goto t => exact hp.elim
   | panic ch => exact hp.elim
   | outgrown => exact hp.elim
  ·rintro e W2 ⟨⟨v, rfl⟩, ⟨q, hi, hb, _⟩ | ⟨j, hi, hb, _⟩⟩
   ·exact ⟨none, _, out (by simp) hb, hdone q _ (hI _ _ _ _ hi (tn_put hb)) (bk_put (st' := .exhausted) (j' := none) hb).2⟩
   ·exact ⟨some j, _, out (by simp) hb, hstop j _ (hIx _ _ _ hi (tn_put hb)) (bk_put (st' := .exhausted) (j' := some j) hb).2⟩
end Go.Proofs.YtjoghbmedfmioabGreat.Poly
