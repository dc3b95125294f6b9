/- A field's cells, and the calls that make them: New, the product with g, the tables. -/
import Derived.Test.YtikfjbomogekbaaGfOnce
import Derived.Test.YtikfjbomogekbaaGfBits
import Derived.BigQuiet
import Derived.Deep.QuietTactic
import Derived.BigRegion
import Derived.StillTailTactics
import Derived.Deep.RegionWith
import Derived.Lib.Hide
namespace Go.Proofs.Ytikfjbomogekbaa.GF
open Go.RowKit

/-- The cells of a field: done, the lock's word, k powers and their logarithms. -/
def fc (d s : Int) (k i : Nat) : Value :=
  if i = 0 then .int .u32 d else if i = 1 then .int .i32 s else if i = 2 then .int .u32 0
  else if i < 258 then .int .u8 ((if i - 3 < k then gp (i - 3) else 0 : Nat) : Int)
  else .int .u8 ((if gl (i - 258) < k ∧ i ≠ 258 then gl (i - 258) else 0 : Nat) : Int)
def fcells (d s : Int) (k : Nat) : Array Value := Array.ofFn (n := 514) fun i => fc d s k i

theorem zero_field (w : World) : (zeroValue 76).run Try.prog w = .ok (.agg (fcells 0 0 0)) w := by kernel_rfl
theorem new_calls (w : World) : Calls Try.prog 16 #[] w fun e w' => e = .returned (.pointer (some ⟨w.heap.size, 0, none⟩)) ∧ w' = w.alloc (.cells (fcells 0 0 0) 76) := by
  have hz := zero_field w
  go_enter Try.func16, Try.ntmps16
  go_wp2
  go_ret
  exact ⟨rfl, rfl⟩

set_option maxRecDepth 100000 in
set_option maxHeartbeats 400000 in
theorem timesG_calls (n : Nat) (hn : n < 256) (w : World) :
    Calls Try.prog 82 #[.int .i64 n] w fun e w' => e = .returned (.int .i64 (gx n)) ∧ w' = w := by
  have HX := Lib.hid (i64_xor (2 * n) 285 (by omega) (by omega))
  go_enter Try.func82, Try.ntmps82
  go_wp2
  all_goals
    go_ret
    refine ⟨ret_int ?_, rfl⟩
    unfold gx
  · rw [if_pos (by omega), ← HX.out, show ((2 * n : Nat) : Int) = (n : Int) * 2 by omega]; rfl
  · rw [if_neg (by omega)]; omega

theorem fcells_size (d s : Int) (k : Nat) : (fcells d s k).size = 514 := by simp [fcells]
theorem fcells_get (d s : Int) (k i : Nat) (hi : i < 514) : (fcells d s k)[i]? = some (fc d s k i) := by
  unfold fcells; rw [Array.getElem?_ofFn, dif_pos hi]
theorem fcells_set (d s d' s' : Int) (k k' j : Nat) (v : Value) (hv : ∀ i, i < 514 → fc d' s' k' i = if i = j then v else fc d s k i) : (fcells d s k).setIfInBounds j v = fcells d' s' k' := by
  apply Array.ext
  · simp [fcells]
  · intro i h1 h2
    have hi : i < 514 := by simpa [fcells] using h2
    rw [Array.getElem_setIfInBounds (by simpa [fcells] using hi)]
    simp only [fcells, Array.getElem_ofFn]
    rw [hv i hi]
    by_cases h : j = i
    · rw [if_pos h, if_pos h.symm]
    · rw [if_neg h, if_neg (fun e => h e.symm)]
/-- Both stores of a round. -/
theorem fcells_round (d s : Int) (k : Nat) (hk : k < 255) : ((fcells d s k).setIfInBounds (3 + k) (.int .u8 (gp k : Nat))).setIfInBounds (258 + gp k) (.int .u8 (k : Nat)) = fcells d s (k + 1) := by
  apply Array.ext
  · simp [fcells]
  · intro i h1 h2
    have hi : i < 514 := by simpa [fcells] using h2
    rw [Array.getElem_setIfInBounds (by simpa [fcells] using hi), Array.getElem_setIfInBounds (by simpa [fcells] using hi)]
    simp only [fcells, Array.getElem_ofFn]
    have hg := gp_lt k
    have h0 := gp_ne k
    unfold fc
    by_cases i0 : i = 0
    · subst i0; rw [if_neg (by omega), if_neg (by omega)]; rfl
    by_cases i1 : i = 1
    · subst i1; rw [if_neg (by omega), if_neg (by omega)]; rfl
    by_cases i2 : i = 2
    · subst i2; rw [if_neg (by omega), if_neg (by omega)]; rfl
    simp only [if_neg i0, if_neg i1, if_neg i2]
    by_cases i3 : i < 258
    · simp only [if_pos i3]
      rw [if_neg (by omega)]
      by_cases e : 3 + k = i
      · rw [if_pos e, show i - 3 = k by omega, if_pos (by omega)]
      · rw [if_neg e]
        by_cases h : i - 3 < k
        · rw [if_pos h, if_pos (by omega)]
        · rw [if_neg h, if_neg (by omega)]
    · simp only [if_neg i3]
      by_cases e : 258 + gp k = i
      · rw [if_pos e, show i - 258 = gp k by omega, gl_gp' k hk, if_pos ⟨by omega, by omega⟩]
      · rw [if_neg e, if_neg (by omega)]
        have hne : i ≠ 258 → gl (i - 258) ≠ k := fun h e2 => e (by rw [← e2, gp_gl (by omega) (by omega)]; omega)
        by_cases h : i = 258
        · rw [if_neg (by omega), if_neg (by omega)]
        · have := hne h
          by_cases h2 : gl (i - 258) < k
          · rw [if_pos ⟨h2, h⟩, if_pos ⟨by omega, h⟩]
          · rw [if_neg (by omega), if_neg (by omega)]

set_option maxRecDepth 100000 in
set_option maxHeartbeats 1000000 in
theorem fill_calls (g : Nat) (pl : Addr) (hpb : pl.block ≠ g) (w : World) (hp : w.cell? pl = some (.pointer (some ⟨g, 0, none⟩))) (hB : Block w g 76 (fcells 0 1 0)) :
    Calls Try.prog 81 #[.pointer (some pl)] w fun e w' => e = .returned (.tuple #[]) ∧ Block w' g 76 (fcells 0 1 255) ∧ Past w.heap.size g w w' ∧ w'.heap.size = w.heap.size := by
  have HB := Lib.hid hB
  clear hB
  go_enter Try.func81, Try.ntmps81
  go_wp2
  go_loopw [1, 3] (fun el i wr => ∃ k : Nat, k ≤ 255 ∧ i = .int .i64 k ∧ el = .int .i64 (gp k : Nat) ∧ Past w.heap.size g w wr ∧ Hid (wr.heap.size = w.heap.size) ∧ Hid (Block wr g 76 (fcells 0 1 k))) (fun _ i _ => 255 - (intOf i).toNat)
  case atStart => exact ⟨0, by omega, rfl, rfl, Past.refl _ _ _, Lib.hid rfl, HB⟩
  case round =>
    clear HB
    obtain ⟨k, hk, rfl, rfl, HP, HS, HB⟩ := hrel
    have hpl : wr.cell? pl = some (.pointer (some ⟨g, 0, none⟩)) := (World.cell?_of_block (HP.block pl.block (cell_lt hp) hpb)).trans hp
    by_cases hlt : k < 255
    · have hc1 := (HB.out.cell (3 + k)).trans (fcells_get _ _ _ (3 + k) (by omega))
      have hf1 := HB.out.frozen (3 + k)
      have hf2 := HB.out.frozen (258 + gp k)
      have hg := gp_lt k
      have HB2 := Lib.hid (HB.out.set_ (3 + k) (.int .u8 (gp k : Nat)))
      have hpl2 : (wr.setCell ⟨g, 3 + k, none⟩ (.int .u8 (gp k : Nat))).cell? pl = some (.pointer (some ⟨g, 0, none⟩)) := (World.cell?_setCell_other _ _ _ _ (fun h => hpb (by rw [← h]))).trans hpl
      have hc2 : (wr.setCell ⟨g, 3 + k, none⟩ (.int .u8 (gp k : Nat))).cell? ⟨g, 258 + gp k, none⟩ = some (fc 0 1 k (258 + gp k)) := by
        rw [HB2.out.cell, Array.getElem?_setIfInBounds_ne (by omega)]; exact fcells_get _ _ _ _ (by omega)
      go_wp2_with (go_at_call 82; refine (timesG_calls _ (by assumption) _).mono ?_; rintro e w' ⟨rfl, rfl⟩)
      go_roundw
      case rel => exact ⟨k + 1, by omega, by go_num, rfl, (HP.setCell (.inl rfl) _).setCell (.inl rfl) _, Lib.hid (by simp [World.setCell]; exact HS.out), by rw [← fcells_round 0 1 k hlt]; exact HB2.out.set_ _ _⟩
      case measure => simp [intOf]; omega
    · obtain rfl : k = 255 := by omega
      go_wp2
      go_end0
      exact ⟨rfl, HB.out, HP, HS.out⟩
theorem setState (d s s' : Int) (k : Nat) : (fcells d s k).setIfInBounds 1 (.int .i32 s') = fcells d s' k :=
  fcells_set d s d s' k k 1 _ (fun i _ => by unfold fc; by_cases h : i = 1 <;> simp [h])
theorem setDone (d s d' : Int) (k : Nat) : (fcells d s k).setIfInBounds 0 (.int .u32 d') = fcells d' s k :=
  fcells_set d s d' s k k 0 _ (fun i _ => by unfold fc; by_cases h : i = 0 <;> simp [h])

set_option maxRecDepth 100000 in
set_option maxHeartbeats 1600000 in
/-- '(*sync.Once).doSlow', not yet done. -/
theorem slow_calls (g : Nat) (pl : Addr) (hpb : pl.block ≠ g) (w : World) (hp : w.cell? pl = some (.pointer (some ⟨g, 0, none⟩))) (hB : Block w g 76 (fcells 0 0 0)) :
    Calls Try.prog 96 #[.pointer (some ⟨g, 0, none⟩), .func (.func 81) #[] #[.pointer (some pl)]] w fun e w' => e = .returned (.tuple #[]) ∧ Block w' g 76 (fcells 1 0 255) ∧ Past w.heap.size g w w' ∧ w'.heap.size = w.heap.size := by
  have c1 : w.cell? ⟨g, 1, none⟩ = some (.int .i32 0) := (hB.cell 1).trans (fcells_get _ _ _ 1 (by decide))
  have f1 : w.frozen? ⟨g, 1, none⟩ = false := hB.frozen 1
  have hB1 : Block (w.setCell ⟨g, 1, none⟩ (.int .i32 1)) g 76 (fcells 0 1 0) := by have := hB.set_ 1 (.int .i32 1); rw [setState] at this; exact this
  have hl := run_call_load (P := Try.prog) Try.func103 (by kernel_rfl) (by kernel_rfl) (by kernel_rfl) .u32 (by kernel_rfl) (w := w.setCell ⟨g, 1, none⟩ (.int .i32 1)) (a := ⟨g, 0, none⟩) (x := 0) ((hB1.cell 0).trans (fcells_get _ _ _ 0 (by decide)))
  have hp1 : (w.setCell ⟨g, 1, none⟩ (.int .i32 1)).cell? pl = some (.pointer (some ⟨g, 0, none⟩)) := (World.cell?_setCell_other _ _ _ _ (fun h => hpb (by rw [← h]))).trans hp
  have hnot : ∀ (x : Bool) (w : World), (Op.unary .not (.bool x)).run Try.prog w = .ok (.bool (!x)) w := fun _ _ => rfl
  have HB := Lib.hid hB
  have HB1 := Lib.hid hB1
  clear hB hB1
  go_enter_defers Try.func96, Try.ntmps96
  go_wp2_with (first | (go_at_call 104; refine (Once.lock_free ⟨g, 1, none⟩ _ (by assumption) (by assumption)).mono ?_; rintro e w' ⟨rfl, rfl⟩) | (go_at_call 95; go_in) | (go_at_call 81; refine (fill_calls g pl hpb _ hp1 HB1.out).mono ?_; rintro e w2 ⟨rfl, HB2, HP2, HS2⟩))
  have hs1 : (w.setCell ⟨g, 1, none⟩ (.int .i32 1)).heap.size = w.heap.size := by simp [World.setCell]
  refine leaves_cons (f := 106) (args := #[.pointer (some ⟨g, 0, none⟩), .bool true]) (by simp) (by simp [go_sem]) ?_
  refine (Once.store_deferred ⟨g, 0, none⟩ (.int .u32 0) .returning _ ((HB2.cell 0).trans (fcells_get _ _ _ 0 (by decide))) (HB2.frozen 0)).mono ?_
  rintro e u' w'' ⟨rfl, rfl, rfl⟩
  have HB3 : Block (w2.drew.setCell ⟨g, 0, none⟩ (.int .u32 1)) g 76 (fcells 1 1 255) := by have := HB2.drew.set_ 0 (.int .u32 1); rw [setDone] at this; exact this
  refine leaves_cons (f := 105) (args := #[.pointer (some ⟨g, 1, none⟩)]) (by simp [settle]) (by simp [go_sem]) ?_
  refine (Once.unlock_deferred ⟨g, 1, none⟩ _ _ ((HB3.cell 1).trans (fcells_get _ _ _ 1 (by decide))) (HB3.frozen 1)).mono ?_
  rintro e u' w'' ⟨rfl, rfl, rfl⟩
  have HB4 : Block ((w2.drew.setCell ⟨g, 0, none⟩ (.int .u32 1)).setCell ⟨g, 1, none⟩ (.int .i32 0)) g 76 (fcells 1 0 255) := by have := HB3.set_ 1 (.int .i32 0); rw [setState] at this; exact this
  have HP4 : Past w.heap.size g w ((w2.drew.setCell ⟨g, 0, none⟩ (.int .u32 1)).setCell ⟨g, 1, none⟩ (.int .i32 0)) := by
    rw [hs1] at HP2
    exact (((((Past.refl _ g w).setCell (.inl rfl) _).trans HP2).drew).setCell (.inl rfl) _).setCell (.inl rfl) _
  simp [Leaves, settle, results, Try.results96]
  exact ⟨HB4, HP4, by rw [hs1] at HS2; exact HS2⟩

set_option maxRecDepth 100000 in
set_option maxHeartbeats 1600000 in
/-- '(*sync.Once).Do', not yet done. -/
theorem do_first (g : Nat) (pl : Addr) (hpb : pl.block ≠ g) (w : World) (hp : w.cell? pl = some (.pointer (some ⟨g, 0, none⟩))) (hB : Block w g 76 (fcells 0 0 0)) :
    Calls Try.prog 80 #[.pointer (some ⟨g, 0, none⟩), .func (.func 81) #[] #[.pointer (some pl)]] w fun e w' => e = .returned (.tuple #[]) ∧ Block w' g 76 (fcells 1 0 255) ∧ Past w.heap.size g w w' ∧ w'.heap.size = w.heap.size := by
  have hl := run_call_load (P := Try.prog) Try.func103 (by kernel_rfl) (by kernel_rfl) (by kernel_rfl) .u32 (by kernel_rfl) (w := w) (a := ⟨g, 0, none⟩) (x := 0) ((hB.cell 0).trans (fcells_get _ _ _ 0 (by decide)))
  have hnot : ∀ (x : Bool) (w : World), (Op.unary .not (.bool x)).run Try.prog w = .ok (.bool (!x)) w := fun _ _ => rfl
  have HB := Lib.hid hB
  clear hB
  go_enter Try.func80, Try.ntmps80
  go_wp2_with (first | (go_at_call 96; refine (slow_calls g pl hpb _ hp HB.out).mono ?_; rintro e w' ⟨rfl, h1, h2, h3⟩) | (go_at_call 95; go_in))
  go_end0
  exact ⟨rfl, h1, h2, h3⟩

/-- A field at g, made or not. -/
def Fld (w : World) (g : Nat) : Prop := Block w g 76 (fcells 0 0 0) ∨ Block w g 76 (fcells 1 0 255)
def Made (w : World) (g : Nat) : Prop := Block w g 76 (fcells 1 0 255)
theorem Made.fld {w : World} {g : Nat} (h : Made w g) : Fld w g := .inr h
theorem Fld.lt {w : World} {g : Nat} (h : Fld w g) : g < w.heap.size := by rcases h with h | h <;> exact h.lt
theorem Fld.new (w : World) : Fld (w.alloc (.cells (fcells 0 0 0) 76)) w.heap.size := .inl (Block.new _ _ _)
theorem Fld.below {w w' : World} {g B : Nat} (h : Fld w g) (hb : Below B w w') (hg : g < B) : Fld w' g := h.imp (fun h => h.below hb hg) (fun h => h.below hb hg)
theorem Fld.past {w w' : World} {g g' B : Nat} (h : Fld w g) (hb : Past B g' w w') (hg : g < B) (hn : g ≠ g') : Fld w' g := h.imp (fun h => h.past hb hg hn) (fun h => h.past hb hg hn)
theorem Fld.drewN {w : World} {g : Nat} (h : Fld w g) (n : Nat) : Fld (w.drewN n) g := h
theorem Fld.alloc {w : World} {g : Nat} (h : Fld w g) (o : Obj) : Fld (w.alloc o) g := h.below ((Below.refl _ _).alloc (Nat.le_refl _) o) h.lt
theorem Made.pow {w : World} {g : Nat} (h : Made w g) (k : Nat) (hk : k < 255) : w.cell? ⟨g, 3 + k, none⟩ = some (.int .u8 (gp k : Nat)) := by
  rw [h.cell, fcells_get _ _ _ _ (by omega)]
  unfold fc
  rw [if_neg (by omega), if_neg (by omega), if_neg (by omega), if_pos (by omega), show 3 + k - 3 = k by omega, if_pos hk]
theorem Made.log {w : World} {g : Nat} (h : Made w g) (a : Nat) (ha : a < 256) : w.cell? ⟨g, 258 + a, none⟩ = some (.int .u8 (gl a : Nat)) := by
  rw [h.cell, fcells_get _ _ _ _ (by omega)]
  unfold fc
  rw [if_neg (by omega), if_neg (by omega), if_neg (by omega), if_neg (by omega), show 258 + a - 258 = a by omega]
  by_cases h0 : a = 0
  · subst h0; rfl
  · rw [if_pos ⟨gl_lt ha, by omega⟩]

set_option maxHeartbeats 1600000 in
/-- A field's tables are there. -/
theorem ready_calls (g : Nat) (w : World) (hF : Fld w g) :
    Calls Try.prog 54 #[.pointer (some ⟨g, 0, none⟩)] w fun e w' => e = .returned (.pointer (some ⟨g, 0, none⟩)) ∧ Made w' g ∧ Past w.heap.size g w w' := by
  have hmf : ∀ (fn : Fn) (first cap : Array Value) (w : World), (Instr.makeFunc fn first cap).run Try.prog w = .ok (.func fn first cap) w := fun _ _ _ _ => rfl
  have hne : w.heap.size ≠ g := by have := hF.lt; omega
  have p0 : (w.alloc (.cells #[.pointer (some ⟨g, 0, none⟩)] 41)).cell? ⟨w.heap.size, 0, none⟩ = some (.pointer (some ⟨g, 0, none⟩)) := by simp
  have HA := Lib.hid (hF.alloc (.cells #[.pointer (some ⟨g, 0, none⟩)] 41))
  rcases HA.out with h | h
  · have H := Lib.hid h
    clear h hF HA
    go_enter Try.func54, Try.ntmps54
    go_wp2_with (go_at_call 80; refine (do_first g ⟨w.heap.size, 0, none⟩ hne _ p0 H.out).mono ?_; rintro e w' ⟨rfl, h1, h2, h3⟩; have p1 := (World.cell?_of_block (h2.block w.heap.size (by simp) hne)).trans p0; replace h3 := Lib.hid h3)
    go_ret
    exact ⟨rfl, h1, (Past.of_below ((Below.refl _ _).alloc (Nat.le_refl _) _) _).trans (h2.mono (by simp))⟩
  · have H := Lib.hid h
    clear h hF HA
    go_enter Try.func54, Try.ntmps54
    go_wp2_with (go_at_call 80; refine (Once.do_done ⟨g, 0, none⟩ 1 (by decide) _ _ ((H.out.cell 0).trans (fcells_get _ _ _ 0 (by decide)))).mono ?_; rintro e w' ⟨rfl, rfl⟩)
    go_ret
    exact ⟨rfl, H.out, Past.of_below ((Below.refl _ _).alloc (Nat.le_refl _) _) _⟩

set_option maxHeartbeats 1600000 in
/-- Of a nil one another one's are. -/
theorem ready_nil (w : World) :
    Calls Try.prog 54 #[.pointer none] w fun e w' => ∃ g, e = .returned (.pointer (some ⟨g, 0, none⟩)) ∧ Made w' g ∧ Below w.heap.size w w' ∧ w.heap.size ≤ g := by
  have hmf : ∀ (fn : Fn) (first cap : Array Value) (w : World), (Instr.makeFunc fn first cap).run Try.prog w = .ok (.func fn first cap) w := fun _ _ _ _ => rfl
  go_enter Try.func54, Try.ntmps54
  go_wp2_with (go_at_call 16; refine (new_calls _).mono ?_; rintro e w' ⟨rfl, rfl⟩)
  have HB : Hid (Block ((w.alloc (.cells #[.pointer (some ⟨w.heap.size + 1, 0, none⟩)] 41)).alloc (.cells (fcells 0 0 0) 76)) (w.heap.size + 1) 76 (fcells 0 0 0)) := by
    have := Block.new (w.alloc (.cells #[.pointer (some ⟨w.heap.size + 1, 0, none⟩)] 41)) 76 (fcells 0 0 0)
    exact Lib.hid (by simpa using this)
  have p0 : ((w.alloc (.cells #[.pointer (some ⟨w.heap.size + 1, 0, none⟩)] 41)).alloc (.cells (fcells 0 0 0) 76)).cell? ⟨w.heap.size, 0, none⟩ = some (.pointer (some ⟨w.heap.size + 1, 0, none⟩)) := by simp
  refine (do_first (w.heap.size + 1) ⟨w.heap.size, 0, none⟩ (by simp) _ p0 HB.out).mono ?_
  rintro e w' ⟨rfl, h1, h2, h3⟩
  have p1 := (World.cell?_of_block (h2.block w.heap.size (by simp; omega) (by omega))).trans p0
  replace h3 := Lib.hid h3
  go_wp2
  go_ret
  exact ⟨_, rfl, h1, ((Past.of_below (((Below.refl _ _).alloc (Nat.le_refl _) _).alloc (by simp) _) _).trans (h2.mono (by simp; omega))).below (by omega), by omega⟩

/-- A receiver: nil or a field; the block that a call on it may turn. -/
def FldP (w : World) (p : Option Addr) : Prop := p = none ∨ ∃ g, p = some ⟨g, 0, none⟩ ∧ Fld w g
def rb (w : World) (p : Option Addr) : Nat := match p with
  | some a => a.block
  | none => w.heap.size
theorem FldP.nil (w : World) : FldP w none := .inl rfl
theorem FldP.of {w : World} {g : Nat} (h : Fld w g) : FldP w (some ⟨g, 0, none⟩) := .inr ⟨g, rfl, h⟩
theorem FldP.fld {w : World} {g : Nat} (h : FldP w (some ⟨g, 0, none⟩)) : Fld w g := by
  rcases h with h | ⟨g', h, hf⟩
  · cases h
  · simp only [Option.some.injEq, Addr.mk.injEq] at h; obtain ⟨rfl, _⟩ := h; exact hf
theorem FldP.drewN {w : World} {p : Option Addr} (h : FldP w p) (n : Nat) : FldP (w.drewN n) p := h
theorem FldP.below {w w' : World} {p : Option Addr} (h : FldP w p) (hb : Below w.heap.size w w') : FldP w' p := by
  rcases h with h | ⟨g, h, hf⟩
  · exact .inl h
  · exact .inr ⟨g, h, hf.below hb hf.lt⟩
theorem ready_any (p : Option Addr) (w : World) (hp : FldP w p) :
    Calls Try.prog 54 #[.pointer p] w fun e w' => ∃ g, e = .returned (.pointer (some ⟨g, 0, none⟩)) ∧ Made w' g ∧ FldP w' p ∧ Past w.heap.size (rb w p) w w' ∧ (p = none ∧ w.heap.size ≤ g ∨ p = some ⟨g, 0, none⟩) := by
  rcases hp with rfl | ⟨g, rfl, hf⟩
  · exact (ready_nil w).mono fun e w' ⟨g, h1, h2, h3, h4⟩ => ⟨g, h1, h2, .inl rfl, Past.of_below h3 _, .inl ⟨rfl, h4⟩⟩
  · exact (ready_calls g w hf).mono fun e w' ⟨h1, h2, h3⟩ => ⟨g, h1, h2, FldP.of h2.fld, h3, .inr rfl⟩
/-- Behind a further call on what ready gave. -/
theorem FldP.further {w w' w2 : World} {p : Option Addr} {g : Nat} (hg : p = none ∧ w.heap.size ≤ g ∨ p = some ⟨g, 0, none⟩) (hP : Past w.heap.size (rb w p) w w') (h2 : FldP w2 (some ⟨g, 0, none⟩)) (hP2 : Past w'.heap.size g w' w2) :
    FldP w2 p ∧ Past w.heap.size (rb w p) w w2 := by
  rcases hg with ⟨rfl, hg⟩ | rfl
  · exact ⟨.inl rfl, hP.trans (Past.of_below ((hP2.mono hP.size).below hg) _)⟩
  · exact ⟨h2, hP.trans (hP2.mono hP.size)⟩
end Go.Proofs.Ytikfjbomogekbaa.GF
