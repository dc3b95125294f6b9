/- Of the program, joined: CfCode8, CfCode9. -/
import Derived.Test.YtjoghbmedfmioabPc02
import Derived.MapKept
import Derived.Deep.RegionWith
namespace Go.Proofs.Ytjoghbmedfmioab.Cf
open Go.RowKit
attribute [local go_sem] Oper.semAt_some
set_option linter.unusedVariables false
set_option linter.unusedSimpArgs false
def mapAt (w : World) (R : Nat) (es : Array MapEntry) (clock : Nat) : World := { w with heap := w.heap.setIfInBounds R (.map es clock) }
theorem mapAt_at {w : World} {R : Nat} (h : R < w.heap.size) (es : Array MapEntry) (clock : Nat) : (mapAt w R es clock).heap[R]? = some (.map es clock) := by
 simp [mapAt, h]
theorem mapAt_other {w : World} {R : Nat} (es : Array MapEntry) (clock : Nat) {k : Nat} (h : k ≠ R) : (mapAt w R es clock).heap[k]? = w.heap[k]? := by
 simp [mapAt, Ne.symm h]
theorem mapAt_below {B : Nat} {a w : World} (h : Below B a w) {R : Nat} (hR : B ≤ R) (es : Array MapEntry) (clock : Nat) : Below B a (mapAt w R es clock) :=
 ⟨h.os, h.tape, h.output, by simpa [mapAt] using h.size, fun k hk => by rw [mapAt_other es clock (by omega)]; exact h.block k hk⟩
theorem mapAt_size (w : World) (R : Nat) (es : Array MapEntry) (clock : Nat) : (mapAt w R es clock).heap.size = w.heap.size := by simp [mapAt]
def clo (f : FuncId) (b : Nat) : Value := .func (.func f) #[] #[.pointer (some ⟨b, 0, none⟩)]
def ent (i : Nat) (f : FuncId) (b : Nat) : MapEntry := { key := .int .u8 ((i + 1 : Nat) : Int), val := clo f b, born := i }
def ents (b : Nat) : List MapEntry := [ent 0 49 b, ent 1 50 b, ent 2 52 b, ent 3 54 b, ent 4 55 b]
theorem und_map : Try.prog.underlying 89 = some (.map 5 88) := Try.underlying89
theorem ins {w : World} {R clock : Nat} {es : List MapEntry} {key : Int} {val : Value} (hb : w.heap[R]? = some (.map es.toArray clock)) (hno : Instr.findNow (.int .u8) (.int .u8 key) es 0 = some none) :
  (Instr.mapUpdate 89 (.map (some R)) (.int .u8 key) val).run Try.prog w = .ok () (mapAt w R (es ++ [({ key := .int .u8 key, val := val, born := clock } : MapEntry)]).toArray (clock + 1)) := by
 have hck : (Instr.checkKey false 10000 5 (.int .u8 key)).run Try.prog w = .ok () w := MapKept.run_checkKey Try.underlying5 (by simp [MapKept.IsKey]) _ _
 have hfk := MapKept.run_findKey (P := Try.prog) (w := w) Try.underlying5 hno
 simp only [Instr.mapUpdate, Sem.run_bind, run_underlying und_map, MapKept.run_getObj_map hb, hck, hfk, Result.andThen, MapKept.run_setObj_map _ hb]
 simp [mapAt]
def fnV (n b : Nat) : Value := if n = 1 then clo 49 b else if n = 2 then clo 50 b else if n = 3 then clo 52 b else if n = 4 then clo 54 b else if n = 5 then clo 55 b else .nilFunc
theorem zero_fn (w : World) : (zeroValue 88).run Try.prog w = .ok .nilFunc w := by kernel_rfl
theorem look {w : World} {R clock b n : Nat} (hb : w.heap[R]? = some (.map (ents b).toArray clock)) :
  (Instr.lookup 89 (.map (some R)) (.int .u8 (n : Nat)) false).run Try.prog w = .ok (fnV n b) w := by
 have hck : ∀ e, (Instr.checkKey e 10000 5 (.int .u8 (n : Nat))).run Try.prog w = .ok () w := fun e => MapKept.run_checkKey Try.underlying5 (by simp [MapKept.IsKey]) _ _
 have hf : ∃ a, Instr.findNow (.int .u8) (.int .u8 (n : Nat)) (ents b) 0 = some a ∧ fnV n b = (match a with | some (_, v) => v | none => .nilFunc) := by
  unfold ents fnV
  by_cases h1 : n = 1
  ·subst h1; exact ⟨_, rfl, rfl⟩
  by_cases h2 : n = 2
  ·subst h2; exact ⟨_, rfl, rfl⟩
  by_cases h3 : n = 3
  ·subst h3; exact ⟨_, rfl, rfl⟩
  by_cases h4 : n = 4
  ·subst h4; exact ⟨_, rfl, rfl⟩
  by_cases h5 : n = 5
  ·subst h5; exact ⟨_, rfl, rfl⟩
  refine ⟨none, ?_, ?_⟩
  ·have e1 : ((n : Int) == 1) = false := by simp; omega
   have e2 : ((n : Int) == 2) = false := by simp; omega
   have e3 : ((n : Int) == 3) = false := by simp; omega
   have e4 : ((n : Int) == 4) = false := by simp; omega
   have e5 : ((n : Int) == 5) = false := by simp; omega
   simp [Instr.findNow, Instr.sameNow, ent, e1, e2, e3, e4, e5]
  ·rw [if_neg h1, if_neg h2, if_neg h3, if_neg h4, if_neg h5]
 obtain ⟨a, ha, hv⟩ := hf
 have hfk := MapKept.run_findKey (P := Try.prog) (w := w) Try.underlying5 ha
 rw [hv]
 simp only [Instr.lookup, Sem.run_bind, run_underlying und_map, Result.andThen, MapKept.run_getObj_map hb, Sem.run_pure, hck]
 rw [hfk]
 cases a with
 | none => simp [Result.andThen, zero_fn]
 | some p => simp [Result.andThen]
set_option maxRecDepth 100000 in
set_option maxHeartbeats 3200000 in
theorem kinds_calls (c : C) (w : World) : Calls Try.prog 32 #[.agg (cV c)] w fun e w' => ∃ R B, e = .returned (.map (some R)) ∧ w'.heap[R]? = some (.map (ents B).toArray 5) ∧ Block w' B 23 (cV c) ∧ Below w.heap.size w w' := by
 obtain ⟨V0, hV0⟩ : ∃ V, w.alloc (.cells (cV c) 23) = V := ⟨_, rfl⟩
 obtain ⟨V1, hV1⟩ : ∃ V, V0.alloc (.map #[] 0) = V := ⟨_, rfl⟩
 have hb0 : Block V0 w.heap.size 23 (cV c) := by rw [← hV0]; exact Block.new w _ _
 have hl0 : Below w.heap.size w V0 := by rw [← hV0]; exact (Below.refl _ _).alloc (Nat.le_refl _) _
 have hs0 : V0.heap.size = w.heap.size + 1 := by rw [← hV0, World.size_alloc]
 obtain ⟨R, hR⟩ : ∃ R, V0.heap.size = R := ⟨_, rfl⟩
 have hm1 : V1.heap[R]? = some (.map ([] : List MapEntry).toArray 0) := by rw [← hV1, ← hR]; exact (MapKept.heap_alloc V0 _).1
 have hl1 : Below w.heap.size w V1 := by rw [← hV1]; exact hl0.alloc (by omega) _
 have hb1 : Block V1 w.heap.size 23 (cV c) := by rw [← hV1]; exact hb0.alloc _
 have hlt1 : R < V1.heap.size := (Array.getElem?_eq_some_iff.1 hm1).1
 have hRw : w.heap.size ≤ R := by omega
 have I1 := ins (es := []) (val := clo 49 w.heap.size) (key := 1) hm1 rfl
 have hm2 := mapAt_at hlt1 ([] ++ [({ key := .int .u8 1, val := clo 49 w.heap.size, born := 0 } : MapEntry)]).toArray (0 + 1)
 have hl2 := mapAt_below hl1 hRw ([] ++ [({ key := .int .u8 1, val := clo 49 w.heap.size, born := 0 } : MapEntry)]).toArray (0 + 1)
 have hb2 : Block (mapAt V1 R ([] ++ [({ key := .int .u8 1, val := clo 49 w.heap.size, born := 0 } : MapEntry)]).toArray (0 + 1)) w.heap.size 23 (cV c) := (mapAt_other _ _ (by omega)).trans hb1
 have hlt2 := hlt1
 rw [← mapAt_size V1 R ([] ++ [({ key := .int .u8 1, val := clo 49 w.heap.size, born := 0 } : MapEntry)]).toArray (0 + 1)] at hlt2
 obtain ⟨V2, hV2⟩ : ∃ V, mapAt V1 R ([] ++ [({ key := .int .u8 1, val := clo 49 w.heap.size, born := 0 } : MapEntry)]).toArray (0 + 1) = V := ⟨_, rfl⟩
 rw [hV2] at I1 hm2 hl2 hb2 hlt2
 have I2 := ins (es := [ent 0 49 w.heap.size]) (val := clo 50 w.heap.size) (key := 2) hm2 rfl
 have hm3 := mapAt_at hlt2 ([ent 0 49 w.heap.size] ++ [({ key := .int .u8 2, val := clo 50 w.heap.size, born := 1 } : MapEntry)]).toArray (1 + 1)
 have hl3 := mapAt_below hl2 hRw ([ent 0 49 w.heap.size] ++ [({ key := .int .u8 2, val := clo 50 w.heap.size, born := 1 } : MapEntry)]).toArray (1 + 1)
 have hb3 : Block (mapAt V2 R ([ent 0 49 w.heap.size] ++ [({ key := .int .u8 2, val := clo 50 w.heap.size, born := 1 } : MapEntry)]).toArray (1 + 1)) w.heap.size 23 (cV c) := (mapAt_other _ _ (by omega)).trans hb2
 have hlt3 := hlt2
 rw [← mapAt_size V2 R ([ent 0 49 w.heap.size] ++ [({ key := .int .u8 2, val := clo 50 w.heap.size, born := 1 } : MapEntry)]).toArray (1 + 1)] at hlt3
 obtain ⟨V3, hV3⟩ : ∃ V, mapAt V2 R ([ent 0 49 w.heap.size] ++ [({ key := .int .u8 2, val := clo 50 w.heap.size, born := 1 } : MapEntry)]).toArray (1 + 1) = V := ⟨_, rfl⟩
 rw [hV3] at I2 hm3 hl3 hb3 hlt3
 have I3 := ins (es := [ent 0 49 w.heap.size, ent 1 50 w.heap.size]) (val := clo 52 w.heap.size) (key := 3) hm3 rfl
 have hm4 := mapAt_at hlt3 ([ent 0 49 w.heap.size, ent 1 50 w.heap.size] ++ [({ key := .int .u8 3, val := clo 52 w.heap.size, born := 2 } : MapEntry)]).toArray (2 + 1)
 have hl4 := mapAt_below hl3 hRw ([ent 0 49 w.heap.size, ent 1 50 w.heap.size] ++ [({ key := .int .u8 3, val := clo 52 w.heap.size, born := 2 } : MapEntry)]).toArray (2 + 1)
 have hb4 : Block (mapAt V3 R ([ent 0 49 w.heap.size, ent 1 50 w.heap.size] ++ [({ key := .int .u8 3, val := clo 52 w.heap.size, born := 2 } : MapEntry)]).toArray (2 + 1)) w.heap.size 23 (cV c) := (mapAt_other _ _ (by omega)).trans hb3
 have hlt4 := hlt3
 rw [← mapAt_size V3 R ([ent 0 49 w.heap.size, ent 1 50 w.heap.size] ++ [({ key := .int .u8 3, val := clo 52 w.heap.size, born := 2 } : MapEntry)]).toArray (2 + 1)] at hlt4
 obtain ⟨V4, hV4⟩ : ∃ V, mapAt V3 R ([ent 0 49 w.heap.size, ent 1 50 w.heap.size] ++ [({ key := .int .u8 3, val := clo 52 w.heap.size, born := 2 } : MapEntry)]).toArray (2 + 1) = V := ⟨_, rfl⟩
 rw [hV4] at I3 hm4 hl4 hb4 hlt4
 have I4 := ins (es := [ent 0 49 w.heap.size, ent 1 50 w.heap.size, ent 2 52 w.heap.size]) (val := clo 54 w.heap.size) (key := 4) hm4 rfl
 have hm5 := mapAt_at hlt4 ([ent 0 49 w.heap.size, ent 1 50 w.heap.size, ent 2 52 w.heap.size] ++ [({ key := .int .u8 4, val := clo 54 w.heap.size, born := 3 } : MapEntry)]).toArray (3 + 1)
 have hl5 := mapAt_below hl4 hRw ([ent 0 49 w.heap.size, ent 1 50 w.heap.size, ent 2 52 w.heap.size] ++ [({ key := .int .u8 4, val := clo 54 w.heap.size, born := 3 } : MapEntry)]).toArray (3 + 1)
 have hb5 : Block (mapAt V4 R ([ent 0 49 w.heap.size, ent 1 50 w.heap.size, ent 2 52 w.heap.size] ++ [({ key := .int .u8 4, val := clo 54 w.heap.size, born := 3 } : MapEntry)]).toArray (3 + 1)) w.heap.size 23 (cV c) := (mapAt_other _ _ (by omega)).trans hb4
 have hlt5 := hlt4
 rw [← mapAt_size V4 R ([ent 0 49 w.heap.size, ent 1 50 w.heap.size, ent 2 52 w.heap.size] ++ [({ key := .int .u8 4, val := clo 54 w.heap.size, born := 3 } : MapEntry)]).toArray (3 + 1)] at hlt5
 obtain ⟨V5, hV5⟩ : ∃ V, mapAt V4 R ([ent 0 49 w.heap.size, ent 1 50 w.heap.size, ent 2 52 w.heap.size] ++ [({ key := .int .u8 4, val := clo 54 w.heap.size, born := 3 } : MapEntry)]).toArray (3 + 1) = V := ⟨_, rfl⟩
 rw [hV5] at I4 hm5 hl5 hb5 hlt5
 have I5 := ins (es := [ent 0 49 w.heap.size, ent 1 50 w.heap.size, ent 2 52 w.heap.size, ent 3 54 w.heap.size]) (val := clo 55 w.heap.size) (key := 5) hm5 rfl
 have hm6 := mapAt_at hlt5 ([ent 0 49 w.heap.size, ent 1 50 w.heap.size, ent 2 52 w.heap.size, ent 3 54 w.heap.size] ++ [({ key := .int .u8 5, val := clo 55 w.heap.size, born := 4 } : MapEntry)]).toArray (4 + 1)
 have hl6 := mapAt_below hl5 hRw ([ent 0 49 w.heap.size, ent 1 50 w.heap.size, ent 2 52 w.heap.size, ent 3 54 w.heap.size] ++ [({ key := .int .u8 5, val := clo 55 w.heap.size, born := 4 } : MapEntry)]).toArray (4 + 1)
 have hb6 : Block (mapAt V5 R ([ent 0 49 w.heap.size, ent 1 50 w.heap.size, ent 2 52 w.heap.size, ent 3 54 w.heap.size] ++ [({ key := .int .u8 5, val := clo 55 w.heap.size, born := 4 } : MapEntry)]).toArray (4 + 1)) w.heap.size 23 (cV c) := (mapAt_other _ _ (by omega)).trans hb5
 have hlt6 := hlt5
 rw [← mapAt_size V5 R ([ent 0 49 w.heap.size, ent 1 50 w.heap.size, ent 2 52 w.heap.size, ent 3 54 w.heap.size] ++ [({ key := .int .u8 5, val := clo 55 w.heap.size, born := 4 } : MapEntry)]).toArray (4 + 1)] at hlt6
 obtain ⟨V6, hV6⟩ : ∃ V, mapAt V5 R ([ent 0 49 w.heap.size, ent 1 50 w.heap.size, ent 2 52 w.heap.size, ent 3 54 w.heap.size] ++ [({ key := .int .u8 5, val := clo 55 w.heap.size, born := 4 } : MapEntry)]).toArray (4 + 1) = V := ⟨_, rfl⟩
 rw [hV6] at I5 hm6 hl6 hb6 hlt6
 have HF : Hid (V6.heap[R]? = some (.map (ents w.heap.size).toArray 5) ∧ Block V6 w.heap.size 23 (cV c) ∧ Below w.heap.size w V6) := Lib.hid ⟨hm6, hb6, hl6⟩
 clear hm1 hm2 hm3 hm4 hm5 hm6 hb0 hb1 hb2 hb3 hb4 hb5 hb6 hl0 hl1 hl2 hl3 hl4 hl5 hl6 hV2 hV3 hV4 hV5 hV6 hlt1 hlt2 hlt3 hlt4 hlt5 hlt6 hs0 hRw
 have IM : (Instr.makeMap 89 none).run Try.prog V0 = .ok (.map (some R)) V1 := by rw [← hV1, ← hR]; simp [Instr.makeMap, Result.andThen]
 clear hV1 hR
 have hmf : ∀ (fn : Fn) (first cap : Array Value) (w : World), (Instr.makeFunc fn first cap).run Try.prog w = .ok (.func fn first cap) w := fun _ _ _ _ => rfl
 unfold clo at I1 I2 I3 I4 I5
 unfold cV at hV0 HF ⊢
 go_enter Try.func32, Try.ntmps32
 go_wp2_with fail
 go_ret
 exact ⟨R, w.heap.size, rfl, HF.out⟩
theorem put5' {B R : Nat} {w w1 : World} {t : TypeId} {a0 a1 a2 a3 a4 : Value} (hb : Below B w w1) (hBR : B ≤ R) (hR : Block w1 R t #[a0, a1, a2, a3, a4]) (v0 v1 v2 v3 v4 : Value) :
  ∃ W, ((((w1.setCell ⟨R, 0, none⟩ v0).setCell ⟨R, 1, none⟩ v1).setCell ⟨R, 2, none⟩ v2).setCell ⟨R, 3, none⟩ v3).setCell ⟨R, 4, none⟩ v4 = W ∧ Block W R t #[v0, v1, v2, v3, v4] ∧ Below B w W :=
 ⟨_, rfl, ((((hR.set_ 0 v0).set_ 1 v1).set_ 2 v2).set_ 3 v3).set_ 4 v4, ((((hb.setCell hBR v0).setCell hBR v1).setCell hBR v2).setCell hBR v3).setCell hBR v4⟩
theorem sV_agg (o : Option Sh) : ∃ a b s q l : Int, sV o = .agg #[.int .i64 a, .int .i64 b, .int .i64 s, .int .i64 q, .int .i64 l] := by
 cases o with
 | none => exact ⟨_, _, _, _, _, rfl⟩
 | some s => exact ⟨_, _, _, _, _, rfl⟩
theorem eq_nil (w : World) : (binOp .eql 88 .nilFunc .nilFunc).run Try.prog w = .ok (.bool true) w := by kernel_rfl
theorem eq_fn (f : Fn) (a b : Array Value) (w : World) : (binOp .eql 88 (.func f a b) .nilFunc).run Try.prog w = .ok (.bool false) w := by kernel_rfl
set_option maxRecDepth 100000 in
set_option maxHeartbeats 3200000 in
theorem shapeOf_none (c : C) (w : World) (hn : ∀ b, fnV c.code b = .nilFunc) : Calls Try.prog 19 #[.agg (cV c)] w fun e w' => e = .returned (sV none) ∧ Below w.heap.size w w' := by
 obtain ⟨code, n, k, d, r, t, ww⟩ := c
 obtain ⟨U, hU⟩ : ∃ V, w.alloc (.cells #[.int .u8 (code : Nat), .int .i64 n, .int .i64 k, .int .i64 d, .int .i64 r, .int .i64 t, .int .i64 ww] 23) = V := ⟨_, rfl⟩
 obtain ⟨V, hV⟩ : ∃ V, U.alloc (.cells #[.int .i64 0, .int .i64 0, .int .i64 0, .int .i64 0, .int .i64 0] 25) = V := ⟨_, rfl⟩
 have hus : U.heap.size = w.heap.size + 1 := by rw [← hU, World.size_alloc]
 have hbc : Block V w.heap.size 23 #[.int .u8 (code : Nat), .int .i64 n, .int .i64 k, .int .i64 d, .int .i64 r, .int .i64 t, .int .i64 ww] := by rw [← hV, ← hU]; exact (Block.new w _ _).alloc _
 have hbr : Block V (w.heap.size + 1) 25 #[.int .i64 0, .int .i64 0, .int .i64 0, .int .i64 0, .int .i64 0] := by rw [← hus, ← hV]; exact Block.new U _ _
 have hbel : Below w.heap.size w V := by rw [← hV]; exact (by rw [← hU]; exact (Below.refl _ _).alloc (Nat.le_refl _) _ : Below w.heap.size w U).alloc (by omega) _
 have HK : Hid (∀ X : World, Calls Try.prog 32 #[.agg #[.int .u8 (code : Nat), .int .i64 n, .int .i64 k, .int .i64 d, .int .i64 r, .int .i64 t, .int .i64 ww]] X fun e w' => ∃ R B, e = .returned (.map (some R)) ∧ w'.heap[R]? = some (.map (ents B).toArray 5) ∧ Block w' B 23 #[.int .u8 (code : Nat), .int .i64 n, .int .i64 k, .int .i64 d, .int .i64 r, .int .i64 t, .int .i64 ww] ∧ Below X.heap.size X w') := Lib.hid (kinds_calls ⟨code, n, k, d, r, t, ww⟩)
 unfold cV
 dsimp only at hn ⊢
 have HSc : Hid (∀ X : World, Block X w.heap.size 23 #[.int .u8 (code : Nat), .int .i64 n, .int .i64 k, .int .i64 d, .int .i64 r, .int .i64 t, .int .i64 ww] → (fun X => X.cell? ⟨w.heap.size, 0, none⟩ = some (.int .u8 (code : Nat)) ∧ X.cell? ⟨w.heap.size, 1, none⟩ = some (.int .i64 n) ∧ X.cell? ⟨w.heap.size, 2, none⟩ = some (.int .i64 k) ∧ X.cell? ⟨w.heap.size, 3, none⟩ = some (.int .i64 d) ∧ X.cell? ⟨w.heap.size, 4, none⟩ = some (.int .i64 r) ∧ X.cell? ⟨w.heap.size, 5, none⟩ = some (.int .i64 t) ∧ X.cell? ⟨w.heap.size, 6, none⟩ = some (.int .i64 ww)) X) := Lib.hid fun X h => ⟨h.cell 0, h.cell 1, h.cell 2, h.cell 3, h.cell 4, h.cell 5, h.cell 6⟩
 have HC := Lib.hid hbc.drew
 have HR := Lib.hid hbr.drew
 have HB := Lib.hid hbel.drew
 clear hbc hbr hbel
 have hq1 := eq_nil
 have hq2 := eq_fn
 go_enter Try.func19, Try.ntmps19
 go_wp2_with fail
 clear hU hV hus
 go_region_held (fun X => X.cell? ⟨w.heap.size, 0, none⟩ = some (.int .u8 (code : Nat)) ∧ X.cell? ⟨w.heap.size, 1, none⟩ = some (.int .i64 n) ∧ X.cell? ⟨w.heap.size, 2, none⟩ = some (.int .i64 k) ∧ X.cell? ⟨w.heap.size, 3, none⟩ = some (.int .i64 d) ∧ X.cell? ⟨w.heap.size, 4, none⟩ = some (.int .i64 r) ∧ X.cell? ⟨w.heap.size, 5, none⟩ = some (.int .i64 t) ∧ X.cell? ⟨w.heap.size, 6, none⟩ = some (.int .i64 ww)) (exact HSc.out _ HC.out) ((go_at_call 32; (with_reducible refine (HK.out _).mono ?_); rintro e w1 ⟨R, Bc, rfl, hmap, hbB, hb1⟩; replace HC := Lib.hid (HC.out.below hb1 HC.out.lt); replace HR := Lib.hid (HR.out.below hb1 HR.out.lt); replace HB := Lib.hid (HB.out.trans (hb1.mono HB.out.size)); have hLk := look (n := code) hmap; have HBB := Lib.hid hbB; clear hmap hbB hb1))
 obtain ⟨x0, x1, x2, x3, x4, x5, x6⟩ := HSc.out _ HC.out
 clear hLk HSc HK
 have y0 := HR.out.cell 0
 have y1 := HR.out.cell 1
 have y2 := HR.out.cell 2
 have y3 := HR.out.cell 3
 have y4 := HR.out.cell 4
 have f0 := HR.out.frozen 0
 have f1 := HR.out.frozen 1
 have f2 := HR.out.frozen 2
 have f3 := HR.out.frozen 3
 have f4 := HR.out.frozen 4
 go_wp2_with fail
 obtain ⟨W, hW, hP, hBW⟩ := put5' HB.out (by omega) HR.out (.int .i64 0) (.int .i64 0) (.int .i64 0) (.int .i64 0) (.int .i64 0)
 rw [hW]
 have p0 := hP.cell 0
 have p1 := hP.cell 1
 have p2 := hP.cell 2
 have p3 := hP.cell 3
 have p4 := hP.cell 4
 refine bodyPost_ret (v := .agg #[.int .i64 0, .int .i64 0, .int .i64 0, .int .i64 0, .int .i64 0]) (by simp [results, Try.results19, go_sem, p0, p1, p2, p3, p4]) rfl ?_
 exact ⟨rfl, hBW⟩
set_option maxRecDepth 100000 in
set_option maxHeartbeats 3200000 in
theorem shapeOf_out (c : C) (w : World) (f : FuncId) (ks : C → Option Sh) (hn : ∀ b, fnV c.code b = .func (.func f) #[] #[.pointer (some ⟨b, 0, none⟩)]) (hni : ¬ In c) :
  Calls Try.prog 19 #[.agg (cV c)] w fun e w' => e = .returned (sV (if In c then ks c else none)) ∧ Below w.heap.size w w' := by
 obtain ⟨code, n, k, d, r, t, ww⟩ := c
 obtain ⟨U, hU⟩ : ∃ V, w.alloc (.cells #[.int .u8 (code : Nat), .int .i64 n, .int .i64 k, .int .i64 d, .int .i64 r, .int .i64 t, .int .i64 ww] 23) = V := ⟨_, rfl⟩
 obtain ⟨V, hV⟩ : ∃ V, U.alloc (.cells #[.int .i64 0, .int .i64 0, .int .i64 0, .int .i64 0, .int .i64 0] 25) = V := ⟨_, rfl⟩
 have hus : U.heap.size = w.heap.size + 1 := by rw [← hU, World.size_alloc]
 have hbc : Block V w.heap.size 23 #[.int .u8 (code : Nat), .int .i64 n, .int .i64 k, .int .i64 d, .int .i64 r, .int .i64 t, .int .i64 ww] := by rw [← hV, ← hU]; exact (Block.new w _ _).alloc _
 have hbr : Block V (w.heap.size + 1) 25 #[.int .i64 0, .int .i64 0, .int .i64 0, .int .i64 0, .int .i64 0] := by rw [← hus, ← hV]; exact Block.new U _ _
 have hbel : Below w.heap.size w V := by rw [← hV]; exact (by rw [← hU]; exact (Below.refl _ _).alloc (Nat.le_refl _) _ : Below w.heap.size w U).alloc (by omega) _
 have HK : Hid (∀ X : World, Calls Try.prog 32 #[.agg #[.int .u8 (code : Nat), .int .i64 n, .int .i64 k, .int .i64 d, .int .i64 r, .int .i64 t, .int .i64 ww]] X fun e w' => ∃ R B, e = .returned (.map (some R)) ∧ w'.heap[R]? = some (.map (ents B).toArray 5) ∧ Block w' B 23 #[.int .u8 (code : Nat), .int .i64 n, .int .i64 k, .int .i64 d, .int .i64 r, .int .i64 t, .int .i64 ww] ∧ Below X.heap.size X w') := Lib.hid (kinds_calls ⟨code, n, k, d, r, t, ww⟩)
 unfold cV
 dsimp only at hn ⊢
 have HSc : Hid (∀ X : World, Block X w.heap.size 23 #[.int .u8 (code : Nat), .int .i64 n, .int .i64 k, .int .i64 d, .int .i64 r, .int .i64 t, .int .i64 ww] → (fun X => X.cell? ⟨w.heap.size, 0, none⟩ = some (.int .u8 (code : Nat)) ∧ X.cell? ⟨w.heap.size, 1, none⟩ = some (.int .i64 n) ∧ X.cell? ⟨w.heap.size, 2, none⟩ = some (.int .i64 k) ∧ X.cell? ⟨w.heap.size, 3, none⟩ = some (.int .i64 d) ∧ X.cell? ⟨w.heap.size, 4, none⟩ = some (.int .i64 r) ∧ X.cell? ⟨w.heap.size, 5, none⟩ = some (.int .i64 t) ∧ X.cell? ⟨w.heap.size, 6, none⟩ = some (.int .i64 ww)) X) := Lib.hid fun X h => ⟨h.cell 0, h.cell 1, h.cell 2, h.cell 3, h.cell 4, h.cell 5, h.cell 6⟩
 have HC := Lib.hid hbc.drew
 have HR := Lib.hid hbr.drew
 have HB := Lib.hid hbel.drew
 clear hbc hbr hbel
 have hq1 := eq_nil
 have hq2 := eq_fn
 have hno : ¬ In ⟨code, n, k, d, r, t, ww⟩ → sV (if In ⟨code, n, k, d, r, t, ww⟩ then ks ⟨code, n, k, d, r, t, ww⟩ else none) = .agg #[.int .i64 0, .int .i64 0, .int .i64 0, .int .i64 0, .int .i64 0] := fun h => by rw [if_neg h]; rfl
 obtain ⟨AV, hAV⟩ : ∃ AV, sV (if In ⟨code, n, k, d, r, t, ww⟩ then ks ⟨code, n, k, d, r, t, ww⟩ else none) = AV := ⟨_, rfl⟩
 rw [hAV] at hno ⊢
 have HAV := Lib.hid hAV
 clear hAV
 by_cases h1 : n < 1
 ·have HZ := Lib.hid (hno fun hg => by unfold In at hg; dsimp only at hg; omega)
  have d1 : decide (n < 1) = true := decide_eq_true h1
  clear hno hni
  go_enter Try.func19, Try.ntmps19
  go_wp2_with fail
  clear hU hV hus
  go_region_held (fun X => X.cell? ⟨w.heap.size, 0, none⟩ = some (.int .u8 (code : Nat)) ∧ X.cell? ⟨w.heap.size, 1, none⟩ = some (.int .i64 n) ∧ X.cell? ⟨w.heap.size, 2, none⟩ = some (.int .i64 k) ∧ X.cell? ⟨w.heap.size, 3, none⟩ = some (.int .i64 d) ∧ X.cell? ⟨w.heap.size, 4, none⟩ = some (.int .i64 r) ∧ X.cell? ⟨w.heap.size, 5, none⟩ = some (.int .i64 t) ∧ X.cell? ⟨w.heap.size, 6, none⟩ = some (.int .i64 ww)) (exact HSc.out _ HC.out) ((go_at_call 32; (with_reducible refine (HK.out _).mono ?_); rintro e w1 ⟨R, Bc, rfl, hmap, hbB, hb1⟩; replace HC := Lib.hid (HC.out.below hb1 HC.out.lt); replace HR := Lib.hid (HR.out.below hb1 HR.out.lt); replace HB := Lib.hid (HB.out.trans (hb1.mono HB.out.size)); have hLk := look (n := code) hmap; have HBB := Lib.hid hbB; clear hmap hbB hb1))
  obtain ⟨x0, x1, x2, x3, x4, x5, x6⟩ := HSc.out _ HC.out
  clear hLk HSc HK
  have y0 := HR.out.cell 0
  have y1 := HR.out.cell 1
  have y2 := HR.out.cell 2
  have y3 := HR.out.cell 3
  have y4 := HR.out.cell 4
  have f0 := HR.out.frozen 0
  have f1 := HR.out.frozen 1
  have f2 := HR.out.frozen 2
  have f3 := HR.out.frozen 3
  have f4 := HR.out.frozen 4
  go_wp2_with fail
  obtain ⟨W, hW, hP, hBW⟩ := put5' HB.out (by omega) HR.out (.int .i64 0) (.int .i64 0) (.int .i64 0) (.int .i64 0) (.int .i64 0)
  rw [hW]
  have p0 := hP.cell 0
  have p1 := hP.cell 1
  have p2 := hP.cell 2
  have p3 := hP.cell 3
  have p4 := hP.cell 4
  refine bodyPost_ret (v := .agg #[.int .i64 0, .int .i64 0, .int .i64 0, .int .i64 0, .int .i64 0]) (by simp [results, Try.results19, go_sem, p0, p1, p2, p3, p4]) rfl ?_
  exact ⟨by rw [HZ.out], hBW⟩
 have d1 : decide (n < 1) = false := decide_eq_false h1
 by_cases h2 : 255 < n
 ·have HZ := Lib.hid (hno fun hg => by unfold In at hg; dsimp only at hg; omega)
  have d2 : decide (255 < n) = true := decide_eq_true h2
  clear hno hni
  go_enter Try.func19, Try.ntmps19
  go_wp2_with fail
  clear hU hV hus
  go_region_held (fun X => X.cell? ⟨w.heap.size, 0, none⟩ = some (.int .u8 (code : Nat)) ∧ X.cell? ⟨w.heap.size, 1, none⟩ = some (.int .i64 n) ∧ X.cell? ⟨w.heap.size, 2, none⟩ = some (.int .i64 k) ∧ X.cell? ⟨w.heap.size, 3, none⟩ = some (.int .i64 d) ∧ X.cell? ⟨w.heap.size, 4, none⟩ = some (.int .i64 r) ∧ X.cell? ⟨w.heap.size, 5, none⟩ = some (.int .i64 t) ∧ X.cell? ⟨w.heap.size, 6, none⟩ = some (.int .i64 ww)) (exact HSc.out _ HC.out) ((go_at_call 32; (with_reducible refine (HK.out _).mono ?_); rintro e w1 ⟨R, Bc, rfl, hmap, hbB, hb1⟩; replace HC := Lib.hid (HC.out.below hb1 HC.out.lt); replace HR := Lib.hid (HR.out.below hb1 HR.out.lt); replace HB := Lib.hid (HB.out.trans (hb1.mono HB.out.size)); have hLk := look (n := code) hmap; have HBB := Lib.hid hbB; clear hmap hbB hb1))
  obtain ⟨x0, x1, x2, x3, x4, x5, x6⟩ := HSc.out _ HC.out
  clear hLk HSc HK
  have y0 := HR.out.cell 0
  have y1 := HR.out.cell 1
  have y2 := HR.out.cell 2
  have y3 := HR.out.cell 3
  have y4 := HR.out.cell 4
  have f0 := HR.out.frozen 0
  have f1 := HR.out.frozen 1
  have f2 := HR.out.frozen 2
  have f3 := HR.out.frozen 3
  have f4 := HR.out.frozen 4
  go_wp2_with fail
  obtain ⟨W, hW, hP, hBW⟩ := put5' HB.out (by omega) HR.out (.int .i64 0) (.int .i64 0) (.int .i64 0) (.int .i64 0) (.int .i64 0)
  rw [hW]
  have p0 := hP.cell 0
  have p1 := hP.cell 1
  have p2 := hP.cell 2
  have p3 := hP.cell 3
  have p4 := hP.cell 4
  refine bodyPost_ret (v := .agg #[.int .i64 0, .int .i64 0, .int .i64 0, .int .i64 0, .int .i64 0]) (by simp [results, Try.results19, go_sem, p0, p1, p2, p3, p4]) rfl ?_
  exact ⟨by rw [HZ.out], hBW⟩
 have d2 : decide (255 < n) = false := decide_eq_false h2
 by_cases h3 : t < 0
 ·have HZ := Lib.hid (hno fun hg => by unfold In at hg; dsimp only at hg; omega)
  have d3 : decide (t < 0) = true := decide_eq_true h3
  clear hno hni
  go_enter Try.func19, Try.ntmps19
  go_wp2_with fail
  clear hU hV hus
  go_region_held (fun X => X.cell? ⟨w.heap.size, 0, none⟩ = some (.int .u8 (code : Nat)) ∧ X.cell? ⟨w.heap.size, 1, none⟩ = some (.int .i64 n) ∧ X.cell? ⟨w.heap.size, 2, none⟩ = some (.int .i64 k) ∧ X.cell? ⟨w.heap.size, 3, none⟩ = some (.int .i64 d) ∧ X.cell? ⟨w.heap.size, 4, none⟩ = some (.int .i64 r) ∧ X.cell? ⟨w.heap.size, 5, none⟩ = some (.int .i64 t) ∧ X.cell? ⟨w.heap.size, 6, none⟩ = some (.int .i64 ww)) (exact HSc.out _ HC.out) ((go_at_call 32; (with_reducible refine (HK.out _).mono ?_); rintro e w1 ⟨R, Bc, rfl, hmap, hbB, hb1⟩; replace HC := Lib.hid (HC.out.below hb1 HC.out.lt); replace HR := Lib.hid (HR.out.below hb1 HR.out.lt); replace HB := Lib.hid (HB.out.trans (hb1.mono HB.out.size)); have hLk := look (n := code) hmap; have HBB := Lib.hid hbB; clear hmap hbB hb1))
  obtain ⟨x0, x1, x2, x3, x4, x5, x6⟩ := HSc.out _ HC.out
  clear hLk HSc HK
  have y0 := HR.out.cell 0
  have y1 := HR.out.cell 1
  have y2 := HR.out.cell 2
  have y3 := HR.out.cell 3
  have y4 := HR.out.cell 4
  have f0 := HR.out.frozen 0
  have f1 := HR.out.frozen 1
  have f2 := HR.out.frozen 2
  have f3 := HR.out.frozen 3
  have f4 := HR.out.frozen 4
  go_wp2_with fail
  obtain ⟨W, hW, hP, hBW⟩ := put5' HB.out (by omega) HR.out (.int .i64 0) (.int .i64 0) (.int .i64 0) (.int .i64 0) (.int .i64 0)
  rw [hW]
  have p0 := hP.cell 0
  have p1 := hP.cell 1
  have p2 := hP.cell 2
  have p3 := hP.cell 3
  have p4 := hP.cell 4
  refine bodyPost_ret (v := .agg #[.int .i64 0, .int .i64 0, .int .i64 0, .int .i64 0, .int .i64 0]) (by simp [results, Try.results19, go_sem, p0, p1, p2, p3, p4]) rfl ?_
  exact ⟨by rw [HZ.out], hBW⟩
 have d3 : decide (t < 0) = false := decide_eq_false h3
 by_cases h4 : 127 < t
 ·have HZ := Lib.hid (hno fun hg => by unfold In at hg; dsimp only at hg; omega)
  have d4 : decide (127 < t) = true := decide_eq_true h4
  clear hno hni
  go_enter Try.func19, Try.ntmps19
  go_wp2_with fail
  clear hU hV hus
  go_region_held (fun X => X.cell? ⟨w.heap.size, 0, none⟩ = some (.int .u8 (code : Nat)) ∧ X.cell? ⟨w.heap.size, 1, none⟩ = some (.int .i64 n) ∧ X.cell? ⟨w.heap.size, 2, none⟩ = some (.int .i64 k) ∧ X.cell? ⟨w.heap.size, 3, none⟩ = some (.int .i64 d) ∧ X.cell? ⟨w.heap.size, 4, none⟩ = some (.int .i64 r) ∧ X.cell? ⟨w.heap.size, 5, none⟩ = some (.int .i64 t) ∧ X.cell? ⟨w.heap.size, 6, none⟩ = some (.int .i64 ww)) (exact HSc.out _ HC.out) ((go_at_call 32; (with_reducible refine (HK.out _).mono ?_); rintro e w1 ⟨R, Bc, rfl, hmap, hbB, hb1⟩; replace HC := Lib.hid (HC.out.below hb1 HC.out.lt); replace HR := Lib.hid (HR.out.below hb1 HR.out.lt); replace HB := Lib.hid (HB.out.trans (hb1.mono HB.out.size)); have hLk := look (n := code) hmap; have HBB := Lib.hid hbB; clear hmap hbB hb1))
  obtain ⟨x0, x1, x2, x3, x4, x5, x6⟩ := HSc.out _ HC.out
  clear hLk HSc HK
  have y0 := HR.out.cell 0
  have y1 := HR.out.cell 1
  have y2 := HR.out.cell 2
  have y3 := HR.out.cell 3
  have y4 := HR.out.cell 4
  have f0 := HR.out.frozen 0
  have f1 := HR.out.frozen 1
  have f2 := HR.out.frozen 2
  have f3 := HR.out.frozen 3
  have f4 := HR.out.frozen 4
  go_wp2_with fail
  obtain ⟨W, hW, hP, hBW⟩ := put5' HB.out (by omega) HR.out (.int .i64 0) (.int .i64 0) (.int .i64 0) (.int .i64 0) (.int .i64 0)
  rw [hW]
  have p0 := hP.cell 0
  have p1 := hP.cell 1
  have p2 := hP.cell 2
  have p3 := hP.cell 3
  have p4 := hP.cell 4
  refine bodyPost_ret (v := .agg #[.int .i64 0, .int .i64 0, .int .i64 0, .int .i64 0, .int .i64 0]) (by simp [results, Try.results19, go_sem, p0, p1, p2, p3, p4]) rfl ?_
  exact ⟨by rw [HZ.out], hBW⟩
 have d4 : decide (127 < t) = false := decide_eq_false h4
 exact absurd (show In ⟨code, n, k, d, r, t, ww⟩ by unfold In; dsimp only; omega) hni
end Go.Proofs.Ytjoghbmedfmioab.Cf

namespace Go.Proofs.Ytjoghbmedfmioab.Cf
open Go.RowKit
attribute [local go_sem] Oper.semAt_some
set_option linter.unusedVariables false
set_option maxRecDepth 100000 in
set_option maxHeartbeats 3200000 in
theorem shapeOf_1 (c : C) (w : World) (hn : ∀ b, fnV c.code b = .func (.func 49) #[] #[.pointer (some ⟨b, 0, none⟩)]) (hin : In c) (hok : c.Ok) :
  Calls Try.prog 19 #[.agg (cV c)] w fun e w' => e = .returned (sV (kReed c)) ∧ Below w.heap.size w w' := by
 have HKs := Lib.hid (reed_calls c hin hok)
 obtain ⟨code, n, k, d, r, t, ww⟩ := c
 obtain ⟨U, hU⟩ : ∃ V, w.alloc (.cells #[.int .u8 (code : Nat), .int .i64 n, .int .i64 k, .int .i64 d, .int .i64 r, .int .i64 t, .int .i64 ww] 23) = V := ⟨_, rfl⟩
 obtain ⟨V, hV⟩ : ∃ V, U.alloc (.cells #[.int .i64 0, .int .i64 0, .int .i64 0, .int .i64 0, .int .i64 0] 25) = V := ⟨_, rfl⟩
 have hus : U.heap.size = w.heap.size + 1 := by rw [← hU, World.size_alloc]
 have hbc : Block V w.heap.size 23 #[.int .u8 (code : Nat), .int .i64 n, .int .i64 k, .int .i64 d, .int .i64 r, .int .i64 t, .int .i64 ww] := by rw [← hV, ← hU]; exact (Block.new w _ _).alloc _
 have hbr : Block V (w.heap.size + 1) 25 #[.int .i64 0, .int .i64 0, .int .i64 0, .int .i64 0, .int .i64 0] := by rw [← hus, ← hV]; exact Block.new U _ _
 have hbel : Below w.heap.size w V := by rw [← hV]; exact (by rw [← hU]; exact (Below.refl _ _).alloc (Nat.le_refl _) _ : Below w.heap.size w U).alloc (by omega) _
 have HK : Hid (∀ X : World, Calls Try.prog 32 #[.agg #[.int .u8 (code : Nat), .int .i64 n, .int .i64 k, .int .i64 d, .int .i64 r, .int .i64 t, .int .i64 ww]] X fun e w' => ∃ R B, e = .returned (.map (some R)) ∧ w'.heap[R]? = some (.map (ents B).toArray 5) ∧ Block w' B 23 #[.int .u8 (code : Nat), .int .i64 n, .int .i64 k, .int .i64 d, .int .i64 r, .int .i64 t, .int .i64 ww] ∧ Below X.heap.size X w') := Lib.hid (kinds_calls ⟨code, n, k, d, r, t, ww⟩)
 unfold cV at HKs ⊢
 dsimp only at hn HKs ⊢
 have HSc : Hid (∀ X : World, Block X w.heap.size 23 #[.int .u8 (code : Nat), .int .i64 n, .int .i64 k, .int .i64 d, .int .i64 r, .int .i64 t, .int .i64 ww] → (fun X => X.cell? ⟨w.heap.size, 0, none⟩ = some (.int .u8 (code : Nat)) ∧ X.cell? ⟨w.heap.size, 1, none⟩ = some (.int .i64 n) ∧ X.cell? ⟨w.heap.size, 2, none⟩ = some (.int .i64 k) ∧ X.cell? ⟨w.heap.size, 3, none⟩ = some (.int .i64 d) ∧ X.cell? ⟨w.heap.size, 4, none⟩ = some (.int .i64 r) ∧ X.cell? ⟨w.heap.size, 5, none⟩ = some (.int .i64 t) ∧ X.cell? ⟨w.heap.size, 6, none⟩ = some (.int .i64 ww)) X) := Lib.hid fun X h => ⟨h.cell 0, h.cell 1, h.cell 2, h.cell 3, h.cell 4, h.cell 5, h.cell 6⟩
 have HC := Lib.hid hbc.drew
 have HR := Lib.hid hbr.drew
 have HB := Lib.hid hbel.drew
 clear hbc hbr hbel
 have hq1 := eq_nil
 have hq2 := eq_fn
 obtain ⟨v0, v1, v2, v3, v4, hv⟩ := sV_agg (kReed ⟨code, n, k, d, r, t, ww⟩)
 rw [hv] at HKs ⊢
 unfold In at hin
 dsimp only at hin
 have d1 : decide (n < 1) = false := decide_eq_false (by omega)
 have d2 : decide (255 < n) = false := decide_eq_false (by omega)
 have d3 : decide (t < 0) = false := decide_eq_false (by omega)
 have d4 : decide (127 < t) = false := decide_eq_false (by omega)
 clear hin hok hv
 go_enter Try.func19, Try.ntmps19
 go_wp2_with fail
 clear hU hV hus
 go_region_held (fun X => X.cell? ⟨w.heap.size, 0, none⟩ = some (.int .u8 (code : Nat)) ∧ X.cell? ⟨w.heap.size, 1, none⟩ = some (.int .i64 n) ∧ X.cell? ⟨w.heap.size, 2, none⟩ = some (.int .i64 k) ∧ X.cell? ⟨w.heap.size, 3, none⟩ = some (.int .i64 d) ∧ X.cell? ⟨w.heap.size, 4, none⟩ = some (.int .i64 r) ∧ X.cell? ⟨w.heap.size, 5, none⟩ = some (.int .i64 t) ∧ X.cell? ⟨w.heap.size, 6, none⟩ = some (.int .i64 ww)) (exact HSc.out _ HC.out) ((go_at_call 32; (with_reducible refine (HK.out _).mono ?_); rintro e w1 ⟨R, Bc, rfl, hmap, hbB, hb1⟩; replace HC := Lib.hid (HC.out.below hb1 HC.out.lt); replace HR := Lib.hid (HR.out.below hb1 HR.out.lt); replace HB := Lib.hid (HB.out.trans (hb1.mono HB.out.size)); have hLk := look (n := code) hmap; have HBB := Lib.hid hbB; clear hmap hbB hb1))
 obtain ⟨x0, x1, x2, x3, x4, x5, x6⟩ := HSc.out _ HC.out
 clear hLk HSc HK
 have y0 := HR.out.cell 0
 have y1 := HR.out.cell 1
 have y2 := HR.out.cell 2
 have y3 := HR.out.cell 3
 have y4 := HR.out.cell 4
 have f0 := HR.out.frozen 0
 have f1 := HR.out.frozen 1
 have f2 := HR.out.frozen 2
 have f3 := HR.out.frozen 3
 have f4 := HR.out.frozen 4
 go_wp2_with (go_at_call 49; (with_reducible refine (HKs.out Bc _ HBB.out).mono ?_); rintro e w2 ⟨rfl, hb2⟩; have hR2 := HR.out.below hb2 HR.out.lt; clear y0 y1 y2 y3 y4 f0 f1 f2 f3 f4; have y0 := hR2.cell 0; have y1 := hR2.cell 1; have y2 := hR2.cell 2; have y3 := hR2.cell 3; have y4 := hR2.cell 4; have f0 := hR2.frozen 0; have f1 := hR2.frozen 1; have f2 := hR2.frozen 2; have f3 := hR2.frozen 3; have f4 := hR2.frozen 4; have HR2 := Lib.hid hR2; have HB2 := Lib.hid (HB.out.trans (hb2.mono HB.out.size)); clear hR2 hb2)
 obtain ⟨W, hW, hP, hBW⟩ := put5' HB2.out (by omega) HR2.out (.int .i64 v0) (.int .i64 v1) (.int .i64 v2) (.int .i64 v3) (.int .i64 v4)
 rw [hW]
 have p0 := hP.cell 0
 have p1 := hP.cell 1
 have p2 := hP.cell 2
 have p3 := hP.cell 3
 have p4 := hP.cell 4
 refine bodyPost_ret (v := .agg #[.int .i64 v0, .int .i64 v1, .int .i64 v2, .int .i64 v3, .int .i64 v4]) (by simp [results, Try.results19, go_sem, p0, p1, p2, p3, p4]) rfl ?_
 exact ⟨rfl, hBW⟩
set_option maxRecDepth 100000 in
set_option maxHeartbeats 3200000 in
theorem shapeOf_2 (c : C) (w : World) (hn : ∀ b, fnV c.code b = .func (.func 50) #[] #[.pointer (some ⟨b, 0, none⟩)]) (hin : In c) (hok : c.Ok) :
  Calls Try.prog 19 #[.agg (cV c)] w fun e w' => e = .returned (sV (kMsr c)) ∧ Below w.heap.size w w' := by
 have HKs := Lib.hid (msr_calls c hin hok)
 obtain ⟨code, n, k, d, r, t, ww⟩ := c
 obtain ⟨U, hU⟩ : ∃ V, w.alloc (.cells #[.int .u8 (code : Nat), .int .i64 n, .int .i64 k, .int .i64 d, .int .i64 r, .int .i64 t, .int .i64 ww] 23) = V := ⟨_, rfl⟩
 obtain ⟨V, hV⟩ : ∃ V, U.alloc (.cells #[.int .i64 0, .int .i64 0, .int .i64 0, .int .i64 0, .int .i64 0] 25) = V := ⟨_, rfl⟩
 have hus : U.heap.size = w.heap.size + 1 := by rw [← hU, World.size_alloc]
 have hbc : Block V w.heap.size 23 #[.int .u8 (code : Nat), .int .i64 n, .int .i64 k, .int .i64 d, .int .i64 r, .int .i64 t, .int .i64 ww] := by rw [← hV, ← hU]; exact (Block.new w _ _).alloc _
 have hbr : Block V (w.heap.size + 1) 25 #[.int .i64 0, .int .i64 0, .int .i64 0, .int .i64 0, .int .i64 0] := by rw [← hus, ← hV]; exact Block.new U _ _
 have hbel : Below w.heap.size w V := by rw [← hV]; exact (by rw [← hU]; exact (Below.refl _ _).alloc (Nat.le_refl _) _ : Below w.heap.size w U).alloc (by omega) _
 have HK : Hid (∀ X : World, Calls Try.prog 32 #[.agg #[.int .u8 (code : Nat), .int .i64 n, .int .i64 k, .int .i64 d, .int .i64 r, .int .i64 t, .int .i64 ww]] X fun e w' => ∃ R B, e = .returned (.map (some R)) ∧ w'.heap[R]? = some (.map (ents B).toArray 5) ∧ Block w' B 23 #[.int .u8 (code : Nat), .int .i64 n, .int .i64 k, .int .i64 d, .int .i64 r, .int .i64 t, .int .i64 ww] ∧ Below X.heap.size X w') := Lib.hid (kinds_calls ⟨code, n, k, d, r, t, ww⟩)
 unfold cV at HKs ⊢
 dsimp only at hn HKs ⊢
 have HSc : Hid (∀ X : World, Block X w.heap.size 23 #[.int .u8 (code : Nat), .int .i64 n, .int .i64 k, .int .i64 d, .int .i64 r, .int .i64 t, .int .i64 ww] → (fun X => X.cell? ⟨w.heap.size, 0, none⟩ = some (.int .u8 (code : Nat)) ∧ X.cell? ⟨w.heap.size, 1, none⟩ = some (.int .i64 n) ∧ X.cell? ⟨w.heap.size, 2, none⟩ = some (.int .i64 k) ∧ X.cell? ⟨w.heap.size, 3, none⟩ = some (.int .i64 d) ∧ X.cell? ⟨w.heap.size, 4, none⟩ = some (.int .i64 r) ∧ X.cell? ⟨w.heap.size, 5, none⟩ = some (.int .i64 t) ∧ X.cell? ⟨w.heap.size, 6, none⟩ = some (.int .i64 ww)) X) := Lib.hid fun X h => ⟨h.cell 0, h.cell 1, h.cell 2, h.cell 3, h.cell 4, h.cell 5, h.cell 6⟩
 have HC := Lib.hid hbc.drew
 have HR := Lib.hid hbr.drew
 have HB := Lib.hid hbel.drew
 clear hbc hbr hbel
 have hq1 := eq_nil
 have hq2 := eq_fn
 obtain ⟨v0, v1, v2, v3, v4, hv⟩ := sV_agg (kMsr ⟨code, n, k, d, r, t, ww⟩)
 rw [hv] at HKs ⊢
 unfold In at hin
 dsimp only at hin
 have d1 : decide (n < 1) = false := decide_eq_false (by omega)
 have d2 : decide (255 < n) = false := decide_eq_false (by omega)
 have d3 : decide (t < 0) = false := decide_eq_false (by omega)
 have d4 : decide (127 < t) = false := decide_eq_false (by omega)
 clear hin hok hv
 go_enter Try.func19, Try.ntmps19
 go_wp2_with fail
 clear hU hV hus
 go_region_held (fun X => X.cell? ⟨w.heap.size, 0, none⟩ = some (.int .u8 (code : Nat)) ∧ X.cell? ⟨w.heap.size, 1, none⟩ = some (.int .i64 n) ∧ X.cell? ⟨w.heap.size, 2, none⟩ = some (.int .i64 k) ∧ X.cell? ⟨w.heap.size, 3, none⟩ = some (.int .i64 d) ∧ X.cell? ⟨w.heap.size, 4, none⟩ = some (.int .i64 r) ∧ X.cell? ⟨w.heap.size, 5, none⟩ = some (.int .i64 t) ∧ X.cell? ⟨w.heap.size, 6, none⟩ = some (.int .i64 ww)) (exact HSc.out _ HC.out) ((go_at_call 32; (with_reducible refine (HK.out _).mono ?_); rintro e w1 ⟨R, Bc, rfl, hmap, hbB, hb1⟩; replace HC := Lib.hid (HC.out.below hb1 HC.out.lt); replace HR := Lib.hid (HR.out.below hb1 HR.out.lt); replace HB := Lib.hid (HB.out.trans (hb1.mono HB.out.size)); have hLk := look (n := code) hmap; have HBB := Lib.hid hbB; clear hmap hbB hb1))
 obtain ⟨x0, x1, x2, x3, x4, x5, x6⟩ := HSc.out _ HC.out
 clear hLk HSc HK
 have y0 := HR.out.cell 0
 have y1 := HR.out.cell 1
 have y2 := HR.out.cell 2
 have y3 := HR.out.cell 3
 have y4 := HR.out.cell 4
 have f0 := HR.out.frozen 0
 have f1 := HR.out.frozen 1
 have f2 := HR.out.frozen 2
 have f3 := HR.out.frozen 3
 have f4 := HR.out.frozen 4
 go_wp2_with (go_at_call 50; (with_reducible refine (HKs.out Bc _ HBB.out).mono ?_); rintro e w2 ⟨rfl, hb2⟩; have hR2 := HR.out.below hb2 HR.out.lt; clear y0 y1 y2 y3 y4 f0 f1 f2 f3 f4; have y0 := hR2.cell 0; have y1 := hR2.cell 1; have y2 := hR2.cell 2; have y3 := hR2.cell 3; have y4 := hR2.cell 4; have f0 := hR2.frozen 0; have f1 := hR2.frozen 1; have f2 := hR2.frozen 2; have f3 := hR2.frozen 3; have f4 := hR2.frozen 4; have HR2 := Lib.hid hR2; have HB2 := Lib.hid (HB.out.trans (hb2.mono HB.out.size)); clear hR2 hb2)
 obtain ⟨W, hW, hP, hBW⟩ := put5' HB2.out (by omega) HR2.out (.int .i64 v0) (.int .i64 v1) (.int .i64 v2) (.int .i64 v3) (.int .i64 v4)
 rw [hW]
 have p0 := hP.cell 0
 have p1 := hP.cell 1
 have p2 := hP.cell 2
 have p3 := hP.cell 3
 have p4 := hP.cell 4
 refine bodyPost_ret (v := .agg #[.int .i64 v0, .int .i64 v1, .int .i64 v2, .int .i64 v3, .int .i64 v4]) (by simp [results, Try.results19, go_sem, p0, p1, p2, p3, p4]) rfl ?_
 exact ⟨rfl, hBW⟩
set_option maxRecDepth 100000 in
set_option maxHeartbeats 3200000 in
theorem shapeOf_3 (c : C) (w : World) (hn : ∀ b, fnV c.code b = .func (.func 52) #[] #[.pointer (some ⟨b, 0, none⟩)]) (hin : In c) (hok : c.Ok) :
  Calls Try.prog 19 #[.agg (cV c)] w fun e w' => e = .returned (sV (kMbr c)) ∧ Below w.heap.size w w' := by
 have HKs := Lib.hid (mbr_calls c hin hok)
 obtain ⟨code, n, k, d, r, t, ww⟩ := c
 obtain ⟨U, hU⟩ : ∃ V, w.alloc (.cells #[.int .u8 (code : Nat), .int .i64 n, .int .i64 k, .int .i64 d, .int .i64 r, .int .i64 t, .int .i64 ww] 23) = V := ⟨_, rfl⟩
 obtain ⟨V, hV⟩ : ∃ V, U.alloc (.cells #[.int .i64 0, .int .i64 0, .int .i64 0, .int .i64 0, .int .i64 0] 25) = V := ⟨_, rfl⟩
 have hus : U.heap.size = w.heap.size + 1 := by rw [← hU, World.size_alloc]
 have hbc : Block V w.heap.size 23 #[.int .u8 (code : Nat), .int .i64 n, .int .i64 k, .int .i64 d, .int .i64 r, .int .i64 t, .int .i64 ww] := by rw [← hV, ← hU]; exact (Block.new w _ _).alloc _
 have hbr : Block V (w.heap.size + 1) 25 #[.int .i64 0, .int .i64 0, .int .i64 0, .int .i64 0, .int .i64 0] := by rw [← hus, ← hV]; exact Block.new U _ _
 have hbel : Below w.heap.size w V := by rw [← hV]; exact (by rw [← hU]; exact (Below.refl _ _).alloc (Nat.le_refl _) _ : Below w.heap.size w U).alloc (by omega) _
 have HK : Hid (∀ X : World, Calls Try.prog 32 #[.agg #[.int .u8 (code : Nat), .int .i64 n, .int .i64 k, .int .i64 d, .int .i64 r, .int .i64 t, .int .i64 ww]] X fun e w' => ∃ R B, e = .returned (.map (some R)) ∧ w'.heap[R]? = some (.map (ents B).toArray 5) ∧ Block w' B 23 #[.int .u8 (code : Nat), .int .i64 n, .int .i64 k, .int .i64 d, .int .i64 r, .int .i64 t, .int .i64 ww] ∧ Below X.heap.size X w') := Lib.hid (kinds_calls ⟨code, n, k, d, r, t, ww⟩)
 unfold cV at HKs ⊢
 dsimp only at hn HKs ⊢
 have HSc : Hid (∀ X : World, Block X w.heap.size 23 #[.int .u8 (code : Nat), .int .i64 n, .int .i64 k, .int .i64 d, .int .i64 r, .int .i64 t, .int .i64 ww] → (fun X => X.cell? ⟨w.heap.size, 0, none⟩ = some (.int .u8 (code : Nat)) ∧ X.cell? ⟨w.heap.size, 1, none⟩ = some (.int .i64 n) ∧ X.cell? ⟨w.heap.size, 2, none⟩ = some (.int .i64 k) ∧ X.cell? ⟨w.heap.size, 3, none⟩ = some (.int .i64 d) ∧ X.cell? ⟨w.heap.size, 4, none⟩ = some (.int .i64 r) ∧ X.cell? ⟨w.heap.size, 5, none⟩ = some (.int .i64 t) ∧ X.cell? ⟨w.heap.size, 6, none⟩ = some (.int .i64 ww)) X) := Lib.hid fun X h => ⟨h.cell 0, h.cell 1, h.cell 2, h.cell 3, h.cell 4, h.cell 5, h.cell 6⟩
 have HC := Lib.hid hbc.drew
 have HR := Lib.hid hbr.drew
 have HB := Lib.hid hbel.drew
 clear hbc hbr hbel
 have hq1 := eq_nil
 have hq2 := eq_fn
 obtain ⟨v0, v1, v2, v3, v4, hv⟩ := sV_agg (kMbr ⟨code, n, k, d, r, t, ww⟩)
 rw [hv] at HKs ⊢
 unfold In at hin
 dsimp only at hin
 have d1 : decide (n < 1) = false := decide_eq_false (by omega)
 have d2 : decide (255 < n) = false := decide_eq_false (by omega)
 have d3 : decide (t < 0) = false := decide_eq_false (by omega)
 have d4 : decide (127 < t) = false := decide_eq_false (by omega)
 clear hin hok hv
 go_enter Try.func19, Try.ntmps19
 go_wp2_with fail
 clear hU hV hus
 go_region_held (fun X => X.cell? ⟨w.heap.size, 0, none⟩ = some (.int .u8 (code : Nat)) ∧ X.cell? ⟨w.heap.size, 1, none⟩ = some (.int .i64 n) ∧ X.cell? ⟨w.heap.size, 2, none⟩ = some (.int .i64 k) ∧ X.cell? ⟨w.heap.size, 3, none⟩ = some (.int .i64 d) ∧ X.cell? ⟨w.heap.size, 4, none⟩ = some (.int .i64 r) ∧ X.cell? ⟨w.heap.size, 5, none⟩ = some (.int .i64 t) ∧ X.cell? ⟨w.heap.size, 6, none⟩ = some (.int .i64 ww)) (exact HSc.out _ HC.out) ((go_at_call 32; (with_reducible refine (HK.out _).mono ?_); rintro e w1 ⟨R, Bc, rfl, hmap, hbB, hb1⟩; replace HC := Lib.hid (HC.out.below hb1 HC.out.lt); replace HR := Lib.hid (HR.out.below hb1 HR.out.lt); replace HB := Lib.hid (HB.out.trans (hb1.mono HB.out.size)); have hLk := look (n := code) hmap; have HBB := Lib.hid hbB; clear hmap hbB hb1))
 obtain ⟨x0, x1, x2, x3, x4, x5, x6⟩ := HSc.out _ HC.out
 clear hLk HSc HK
 have y0 := HR.out.cell 0
 have y1 := HR.out.cell 1
 have y2 := HR.out.cell 2
 have y3 := HR.out.cell 3
 have y4 := HR.out.cell 4
 have f0 := HR.out.frozen 0
 have f1 := HR.out.frozen 1
 have f2 := HR.out.frozen 2
 have f3 := HR.out.frozen 3
 have f4 := HR.out.frozen 4
 go_wp2_with (go_at_call 52; (with_reducible refine (HKs.out Bc _ HBB.out).mono ?_); rintro e w2 ⟨rfl, hb2⟩; have hR2 := HR.out.below hb2 HR.out.lt; clear y0 y1 y2 y3 y4 f0 f1 f2 f3 f4; have y0 := hR2.cell 0; have y1 := hR2.cell 1; have y2 := hR2.cell 2; have y3 := hR2.cell 3; have y4 := hR2.cell 4; have f0 := hR2.frozen 0; have f1 := hR2.frozen 1; have f2 := hR2.frozen 2; have f3 := hR2.frozen 3; have f4 := hR2.frozen 4; have HR2 := Lib.hid hR2; have HB2 := Lib.hid (HB.out.trans (hb2.mono HB.out.size)); clear hR2 hb2)
 obtain ⟨W, hW, hP, hBW⟩ := put5' HB2.out (by omega) HR2.out (.int .i64 v0) (.int .i64 v1) (.int .i64 v2) (.int .i64 v3) (.int .i64 v4)
 rw [hW]
 have p0 := hP.cell 0
 have p1 := hP.cell 1
 have p2 := hP.cell 2
 have p3 := hP.cell 3
 have p4 := hP.cell 4
 refine bodyPost_ret (v := .agg #[.int .i64 v0, .int .i64 v1, .int .i64 v2, .int .i64 v3, .int .i64 v4]) (by simp [results, Try.results19, go_sem, p0, p1, p2, p3, p4]) rfl ?_
 exact ⟨rfl, hBW⟩
set_option maxRecDepth 100000 in
set_option maxHeartbeats 3200000 in
theorem shapeOf_4 (c : C) (w : World) (hn : ∀ b, fnV c.code b = .func (.func 54) #[] #[.pointer (some ⟨b, 0, none⟩)]) (hin : In c) (hok : c.Ok) :
  Calls Try.prog 19 #[.agg (cV c)] w fun e w' => e = .returned (sV (kTr c)) ∧ Below w.heap.size w w' := by
 have HKs := Lib.hid (tr_calls c hin hok)
 obtain ⟨code, n, k, d, r, t, ww⟩ := c
 obtain ⟨U, hU⟩ : ∃ V, w.alloc (.cells #[.int .u8 (code : Nat), .int .i64 n, .int .i64 k, .int .i64 d, .int .i64 r, .int .i64 t, .int .i64 ww] 23) = V := ⟨_, rfl⟩
 obtain ⟨V, hV⟩ : ∃ V, U.alloc (.cells #[.int .i64 0, .int .i64 0, .int .i64 0, .int .i64 0, .int .i64 0] 25) = V := ⟨_, rfl⟩
 have hus : U.heap.size = w.heap.size + 1 := by rw [← hU, World.size_alloc]
 have hbc : Block V w.heap.size 23 #[.int .u8 (code : Nat), .int .i64 n, .int .i64 k, .int .i64 d, .int .i64 r, .int .i64 t, .int .i64 ww] := by rw [← hV, ← hU]; exact (Block.new w _ _).alloc _
 have hbr : Block V (w.heap.size + 1) 25 #[.int .i64 0, .int .i64 0, .int .i64 0, .int .i64 0, .int .i64 0] := by rw [← hus, ← hV]; exact Block.new U _ _
 have hbel : Below w.heap.size w V := by rw [← hV]; exact (by rw [← hU]; exact (Below.refl _ _).alloc (Nat.le_refl _) _ : Below w.heap.size w U).alloc (by omega) _
 have HK : Hid (∀ X : World, Calls Try.prog 32 #[.agg #[.int .u8 (code : Nat), .int .i64 n, .int .i64 k, .int .i64 d, .int .i64 r, .int .i64 t, .int .i64 ww]] X fun e w' => ∃ R B, e = .returned (.map (some R)) ∧ w'.heap[R]? = some (.map (ents B).toArray 5) ∧ Block w' B 23 #[.int .u8 (code : Nat), .int .i64 n, .int .i64 k, .int .i64 d, .int .i64 r, .int .i64 t, .int .i64 ww] ∧ Below X.heap.size X w') := Lib.hid (kinds_calls ⟨code, n, k, d, r, t, ww⟩)
 unfold cV at HKs ⊢
 dsimp only at hn HKs ⊢
 have HSc : Hid (∀ X : World, Block X w.heap.size 23 #[.int .u8 (code : Nat), .int .i64 n, .int .i64 k, .int .i64 d, .int .i64 r, .int .i64 t, .int .i64 ww] → (fun X => X.cell? ⟨w.heap.size, 0, none⟩ = some (.int .u8 (code : Nat)) ∧ X.cell? ⟨w.heap.size, 1, none⟩ = some (.int .i64 n) ∧ X.cell? ⟨w.heap.size, 2, none⟩ = some (.int .i64 k) ∧ X.cell? ⟨w.heap.size, 3, none⟩ = some (.int .i64 d) ∧ X.cell? ⟨w.heap.size, 4, none⟩ = some (.int .i64 r) ∧ X.cell? ⟨w.heap.size, 5, none⟩ = some (.int .i64 t) ∧ X.cell? ⟨w.heap.size, 6, none⟩ = some (.int .i64 ww)) X) := Lib.hid fun X h => ⟨h.cell 0, h.cell 1, h.cell 2, h.cell 3, h.cell 4, h.cell 5, h.cell 6⟩
 have HC := Lib.hid hbc.drew
 have HR := Lib.hid hbr.drew
 have HB := Lib.hid hbel.drew
 clear hbc hbr hbel
 have hq1 := eq_nil
 have hq2 := eq_fn
 obtain ⟨v0, v1, v2, v3, v4, hv⟩ := sV_agg (kTr ⟨code, n, k, d, r, t, ww⟩)
 rw [hv] at HKs ⊢
 unfold In at hin
 dsimp only at hin
 have d1 : decide (n < 1) = false := decide_eq_false (by omega)
 have d2 : decide (255 < n) = false := decide_eq_false (by omega)
 have d3 : decide (t < 0) = false := decide_eq_false (by omega)
 have d4 : decide (127 < t) = false := decide_eq_false (by omega)
 clear hin hok hv
 go_enter Try.func19, Try.ntmps19
 go_wp2_with fail
 clear hU hV hus
 go_region_held (fun X => X.cell? ⟨w.heap.size, 0, none⟩ = some (.int .u8 (code : Nat)) ∧ X.cell? ⟨w.heap.size, 1, none⟩ = some (.int .i64 n) ∧ X.cell? ⟨w.heap.size, 2, none⟩ = some (.int .i64 k) ∧ X.cell? ⟨w.heap.size, 3, none⟩ = some (.int .i64 d) ∧ X.cell? ⟨w.heap.size, 4, none⟩ = some (.int .i64 r) ∧ X.cell? ⟨w.heap.size, 5, none⟩ = some (.int .i64 t) ∧ X.cell? ⟨w.heap.size, 6, none⟩ = some (.int .i64 ww)) (exact HSc.out _ HC.out) ((go_at_call 32; (with_reducible refine (HK.out _).mono ?_); rintro e w1 ⟨R, Bc, rfl, hmap, hbB, hb1⟩; replace HC := Lib.hid (HC.out.below hb1 HC.out.lt); replace HR := Lib.hid (HR.out.below hb1 HR.out.lt); replace HB := Lib.hid (HB.out.trans (hb1.mono HB.out.size)); have hLk := look (n := code) hmap; have HBB := Lib.hid hbB; clear hmap hbB hb1))
 obtain ⟨x0, x1, x2, x3, x4, x5, x6⟩ := HSc.out _ HC.out
 clear hLk HSc HK
 have y0 := HR.out.cell 0
 have y1 := HR.out.cell 1
 have y2 := HR.out.cell 2
 have y3 := HR.out.cell 3
 have y4 := HR.out.cell 4
 have f0 := HR.out.frozen 0
 have f1 := HR.out.frozen 1
 have f2 := HR.out.frozen 2
 have f3 := HR.out.frozen 3
 have f4 := HR.out.frozen 4
 go_wp2_with (go_at_call 54; (with_reducible refine (HKs.out Bc _ HBB.out).mono ?_); rintro e w2 ⟨rfl, hb2⟩; have hR2 := HR.out.below hb2 HR.out.lt; clear y0 y1 y2 y3 y4 f0 f1 f2 f3 f4; have y0 := hR2.cell 0; have y1 := hR2.cell 1; have y2 := hR2.cell 2; have y3 := hR2.cell 3; have y4 := hR2.cell 4; have f0 := hR2.frozen 0; have f1 := hR2.frozen 1; have f2 := hR2.frozen 2; have f3 := hR2.frozen 3; have f4 := hR2.frozen 4; have HR2 := Lib.hid hR2; have HB2 := Lib.hid (HB.out.trans (hb2.mono HB.out.size)); clear hR2 hb2)
 obtain ⟨W, hW, hP, hBW⟩ := put5' HB2.out (by omega) HR2.out (.int .i64 v0) (.int .i64 v1) (.int .i64 v2) (.int .i64 v3) (.int .i64 v4)
 rw [hW]
 have p0 := hP.cell 0
 have p1 := hP.cell 1
 have p2 := hP.cell 2
 have p3 := hP.cell 3
 have p4 := hP.cell 4
 refine bodyPost_ret (v := .agg #[.int .i64 v0, .int .i64 v1, .int .i64 v2, .int .i64 v3, .int .i64 v4]) (by simp [results, Try.results19, go_sem, p0, p1, p2, p3, p4]) rfl ?_
 exact ⟨rfl, hBW⟩
set_option maxRecDepth 100000 in
set_option maxHeartbeats 3200000 in
theorem shapeOf_5 (c : C) (w : World) (hn : ∀ b, fnV c.code b = .func (.func 55) #[] #[.pointer (some ⟨b, 0, none⟩)]) (hin : In c) (hok : c.Ok) :
  Calls Try.prog 19 #[.agg (cV c)] w fun e w' => e = .returned (sV (kLo c)) ∧ Below w.heap.size w w' := by
 have HKs := Lib.hid (local_calls c hin hok)
 obtain ⟨code, n, k, d, r, t, ww⟩ := c
 obtain ⟨U, hU⟩ : ∃ V, w.alloc (.cells #[.int .u8 (code : Nat), .int .i64 n, .int .i64 k, .int .i64 d, .int .i64 r, .int .i64 t, .int .i64 ww] 23) = V := ⟨_, rfl⟩
 obtain ⟨V, hV⟩ : ∃ V, U.alloc (.cells #[.int .i64 0, .int .i64 0, .int .i64 0, .int .i64 0, .int .i64 0] 25) = V := ⟨_, rfl⟩
 have hus : U.heap.size = w.heap.size + 1 := by rw [← hU, World.size_alloc]
 have hbc : Block V w.heap.size 23 #[.int .u8 (code : Nat), .int .i64 n, .int .i64 k, .int .i64 d, .int .i64 r, .int .i64 t, .int .i64 ww] := by rw [← hV, ← hU]; exact (Block.new w _ _).alloc _
 have hbr : Block V (w.heap.size + 1) 25 #[.int .i64 0, .int .i64 0, .int .i64 0, .int .i64 0, .int .i64 0] := by rw [← hus, ← hV]; exact Block.new U _ _
 have hbel : Below w.heap.size w V := by rw [← hV]; exact (by rw [← hU]; exact (Below.refl _ _).alloc (Nat.le_refl _) _ : Below w.heap.size w U).alloc (by omega) _
 have HK : Hid (∀ X : World, Calls Try.prog 32 #[.agg #[.int .u8 (code : Nat), .int .i64 n, .int .i64 k, .int .i64 d, .int .i64 r, .int .i64 t, .int .i64 ww]] X fun e w' => ∃ R B, e = .returned (.map (some R)) ∧ w'.heap[R]? = some (.map (ents B).toArray 5) ∧ Block w' B 23 #[.int .u8 (code : Nat), .int .i64 n, .int .i64 k, .int .i64 d, .int .i64 r, .int .i64 t, .int .i64 ww] ∧ Below X.heap.size X w') := Lib.hid (kinds_calls ⟨code, n, k, d, r, t, ww⟩)
 unfold cV at HKs ⊢
 dsimp only at hn HKs ⊢
 have HSc : Hid (∀ X : World, Block X w.heap.size 23 #[.int .u8 (code : Nat), .int .i64 n, .int .i64 k, .int .i64 d, .int .i64 r, .int .i64 t, .int .i64 ww] → (fun X => X.cell? ⟨w.heap.size, 0, none⟩ = some (.int .u8 (code : Nat)) ∧ X.cell? ⟨w.heap.size, 1, none⟩ = some (.int .i64 n) ∧ X.cell? ⟨w.heap.size, 2, none⟩ = some (.int .i64 k) ∧ X.cell? ⟨w.heap.size, 3, none⟩ = some (.int .i64 d) ∧ X.cell? ⟨w.heap.size, 4, none⟩ = some (.int .i64 r) ∧ X.cell? ⟨w.heap.size, 5, none⟩ = some (.int .i64 t) ∧ X.cell? ⟨w.heap.size, 6, none⟩ = some (.int .i64 ww)) X) := Lib.hid fun X h => ⟨h.cell 0, h.cell 1, h.cell 2, h.cell 3, h.cell 4, h.cell 5, h.cell 6⟩
 have HC := Lib.hid hbc.drew
 have HR := Lib.hid hbr.drew
 have HB := Lib.hid hbel.drew
 clear hbc hbr hbel
 have hq1 := eq_nil
 have hq2 := eq_fn
 obtain ⟨v0, v1, v2, v3, v4, hv⟩ := sV_agg (kLo ⟨code, n, k, d, r, t, ww⟩)
 rw [hv] at HKs ⊢
 unfold In at hin
 dsimp only at hin
 have d1 : decide (n < 1) = false := decide_eq_false (by omega)
 have d2 : decide (255 < n) = false := decide_eq_false (by omega)
 have d3 : decide (t < 0) = false := decide_eq_false (by omega)
 have d4 : decide (127 < t) = false := decide_eq_false (by omega)
 clear hin hok hv
 go_enter Try.func19, Try.ntmps19
 go_wp2_with fail
 clear hU hV hus
 go_region_held (fun X => X.cell? ⟨w.heap.size, 0, none⟩ = some (.int .u8 (code : Nat)) ∧ X.cell? ⟨w.heap.size, 1, none⟩ = some (.int .i64 n) ∧ X.cell? ⟨w.heap.size, 2, none⟩ = some (.int .i64 k) ∧ X.cell? ⟨w.heap.size, 3, none⟩ = some (.int .i64 d) ∧ X.cell? ⟨w.heap.size, 4, none⟩ = some (.int .i64 r) ∧ X.cell? ⟨w.heap.size, 5, none⟩ = some (.int .i64 t) ∧ X.cell? ⟨w.heap.size, 6, none⟩ = some (.int .i64 ww)) (exact HSc.out _ HC.out) ((go_at_call 32; (with_reducible refine (HK.out _).mono ?_); rintro e w1 ⟨R, Bc, rfl, hmap, hbB, hb1⟩; replace HC := Lib.hid (HC.out.below hb1 HC.out.lt); replace HR := Lib.hid (HR.out.below hb1 HR.out.lt); replace HB := Lib.hid (HB.out.trans (hb1.mono HB.out.size)); have hLk := look (n := code) hmap; have HBB := Lib.hid hbB; clear hmap hbB hb1))
 obtain ⟨x0, x1, x2, x3, x4, x5, x6⟩ := HSc.out _ HC.out
 clear hLk HSc HK
 have y0 := HR.out.cell 0
 have y1 := HR.out.cell 1
 have y2 := HR.out.cell 2
 have y3 := HR.out.cell 3
 have y4 := HR.out.cell 4
 have f0 := HR.out.frozen 0
 have f1 := HR.out.frozen 1
 have f2 := HR.out.frozen 2
 have f3 := HR.out.frozen 3
 have f4 := HR.out.frozen 4
 go_wp2_with (go_at_call 55; (with_reducible refine (HKs.out Bc _ HBB.out).mono ?_); rintro e w2 ⟨rfl, hb2⟩; have hR2 := HR.out.below hb2 HR.out.lt; clear y0 y1 y2 y3 y4 f0 f1 f2 f3 f4; have y0 := hR2.cell 0; have y1 := hR2.cell 1; have y2 := hR2.cell 2; have y3 := hR2.cell 3; have y4 := hR2.cell 4; have f0 := hR2.frozen 0; have f1 := hR2.frozen 1; have f2 := hR2.frozen 2; have f3 := hR2.frozen 3; have f4 := hR2.frozen 4; have HR2 := Lib.hid hR2; have HB2 := Lib.hid (HB.out.trans (hb2.mono HB.out.size)); clear hR2 hb2)
 obtain ⟨W, hW, hP, hBW⟩ := put5' HB2.out (by omega) HR2.out (.int .i64 v0) (.int .i64 v1) (.int .i64 v2) (.int .i64 v3) (.int .i64 v4)
 rw [hW]
 have p0 := hP.cell 0
 have p1 := hP.cell 1
 have p2 := hP.cell 2
 have p3 := hP.cell 3
 have p4 := hP.cell 4
 refine bodyPost_ret (v := .agg #[.int .i64 v0, .int .i64 v1, .int .i64 v2, .int .i64 v3, .int .i64 v4]) (by simp [results, Try.results19, go_sem, p0, p1, p2, p3, p4]) rfl ?_
 exact ⟨rfl, hBW⟩
theorem shapeOf_calls (c : C) (hok : c.Ok) (w : World) : Calls Try.prog 19 #[.agg (cV c)] w fun e w' => e = .returned (sV (shp c)) ∧ Below w.heap.size w w' := by
 unfold shp kind
 by_cases h1 : c.code = 1
 ·rw [if_pos h1]
  have hn : ∀ b, fnV c.code b = .func (.func 49) #[] #[.pointer (some ⟨b, 0, none⟩)] := fun b => by rw [h1]; rfl
  by_cases hi : In c
  ·rw [if_pos hi]; exact shapeOf_1 c w hn hi hok
  ·exact shapeOf_out c w _ kReed hn hi
 rw [if_neg h1]
 by_cases h2 : c.code = 2
 ·rw [if_pos h2]
  have hn : ∀ b, fnV c.code b = .func (.func 50) #[] #[.pointer (some ⟨b, 0, none⟩)] := fun b => by rw [h2]; rfl
  by_cases hi : In c
  ·rw [if_pos hi]; exact shapeOf_2 c w hn hi hok
  ·exact shapeOf_out c w _ kMsr hn hi
 rw [if_neg h2]
 by_cases h3 : c.code = 3
 ·rw [if_pos h3]
  have hn : ∀ b, fnV c.code b = .func (.func 52) #[] #[.pointer (some ⟨b, 0, none⟩)] := fun b => by rw [h3]; rfl
  by_cases hi : In c
  ·rw [if_pos hi]; exact shapeOf_3 c w hn hi hok
  ·exact shapeOf_out c w _ kMbr hn hi
 rw [if_neg h3]
 by_cases h4 : c.code = 4
 ·rw [if_pos h4]
  have hn : ∀ b, fnV c.code b = .func (.func 54) #[] #[.pointer (some ⟨b, 0, none⟩)] := fun b => by rw [h4]; rfl
  by_cases hi : In c
  ·rw [if_pos hi]; exact shapeOf_4 c w hn hi hok
  ·exact shapeOf_out c w _ kTr hn hi
 rw [if_neg h4]
 by_cases h5 : c.code = 5
 ·rw [if_pos h5]
  have hn : ∀ b, fnV c.code b = .func (.func 55) #[] #[.pointer (some ⟨b, 0, none⟩)] := fun b => by rw [h5]; rfl
  by_cases hi : In c
  ·rw [if_pos hi]; exact shapeOf_5 c w hn hi hok
  ·exact shapeOf_out c w _ kLo hn hi
 rw [if_neg h5]
 have hn : ∀ b, fnV c.code b = .nilFunc := fun b => by unfold fnV; rw [if_neg h1, if_neg h2, if_neg h3, if_neg h4, if_neg h5]
 have := shapeOf_none c w hn
 rw [show (if In c then (none : Option Sh) else none) = none by split <;> rfl]
 exact this
end Go.Proofs.Ytjoghbmedfmioab.Cf
