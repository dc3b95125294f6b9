/- Of the program, joined: MsNew, MbPar, MbCode1, TrMath, ElMap, TrCode1, TrCode2. -/
import Derived.Test.YtjoghbmedfmioabPc08
import Derived.Test.YtjoghbmedfmioabPc09
import Derived.Deep.RegionHeld
import Derived.Test.YtjoghbmedfmioabPc04
import Derived.Test.YtjoghbmedfmioabPc07
import Derived.StillTailTactics
import Derived.BigQuiet
import Derived.Test.YtjoghbmedfmioabPc05
import Derived.Test.YtjoghbmedfmioabPc01
import Derived.Test.YtjoghbmedfmioabRows
import Derived.Maps.OwnSet
import Derived.WideKeyPair
import Derived.DeepKeys4
import Derived.WalkArith
namespace Go.Proofs.Ytjoghbmedfmioab.Ms
open Go.RowKit Go.Shelf F8 Poly GF Rd
attribute [local go_sem] Oper.semAt_some
def Good (n k d : Int) : Prop := (2 ≤ k ∧ 2 * k ≤ d + 2 ∧ d < n ∧ d - k + 1 ≤ 16) ∧ n + (d - 2 * k + 2) ≤ Pt.lim (d - k + 1).toNat
def NewIs (w : World) (g : Nat) (n k d : Int) (e : Ending) (w' : World) : Prop :=
 (Good n k d ∧ ∃ S : Co, S.Ok w' ∧ S.g = g ∧ (S.n : Int) = n ∧ (S.k : Int) = k ∧ (S.d : Int) = d ∧ w.heap.size ≤ S.b ∧ e = .returned (.tuple #[.pointer (some ⟨S.b, 0, none⟩), .int .i64 0]) ∧ Past w.heap.size g w w') ∨
 (¬ Good n k d ∧ e = .returned (.tuple #[.pointer none, .int .i64 2]) ∧ FldP w' (some ⟨g, 0, none⟩) ∧ Past w.heap.size g w w')
theorem good255 {n k d : Int} (h : Good n k d) : n ≤ 255 := by
 have := Pt.lim_le (d - k + 1).toNat
 have := h.2; have := h.1
 omega
set_option maxRecDepth 100000 in
set_option maxHeartbeats 16000000 in
theorem new_bad (g : Nat) (n k d : Int) (w : World) (hf : FldP w (some ⟨g, 0, none⟩)) (hn1 : -9223372036854775808 ≤ n) (hn2 : n < 9223372036854775808) (hk1 : -9223372036854775808 ≤ k) (hk2 : k < 9223372036854775808) (hd1 : -9223372036854775808 ≤ d) (hd2 : d < 9223372036854775808)
  (hb : ¬ (2 ≤ k ∧ 2 * k ≤ d + 2 ∧ d < n ∧ d - k + 1 ≤ 16 ∧ n ≤ 255)) :
  Calls Try.prog 8 #[.pointer (some ⟨g, 0, none⟩), .int .i64 n, .int .i64 k, .int .i64 d] w (NewIs w g n k d) := by
 have HX : Hid (NewIs w g n k d (.returned (.tuple #[.pointer none, .int .i64 2])) w) := Lib.hid (.inr ⟨fun h => hb ⟨h.1.1, h.1.2.1, h.1.2.2.1, h.1.2.2.2, good255 h⟩, rfl, hf, Past.refl _ _ _⟩)
 clear hf
 by_cases c1 : n > 255
 ·clear hb
  go_enter Try.func8, Try.ntmps8
  go_wp2
  go_ret2
  exact HX.out
 by_cases c2 : n ≤ d
 ·clear hb
  go_enter Try.func8, Try.ntmps8
  go_wp2
  go_ret2
  exact HX.out
 by_cases c3 : k < 2
 ·clear hb
  go_enter Try.func8, Try.ntmps8
  go_wp2
  go_ret2
  exact HX.out
 by_cases c4 : 2 * k ≤ d + 2
 ·have h5 : 16 < d - k + 1 := by omega
  have c6 : ¬ (d / 2 + 1 < k) := by omega
  clear hb
  go_enter Try.func8, Try.ntmps8
  go_wp2
  go_ret2
  exact HX.out
 ·have h4 : wrap64 (d.tdiv 2 + 1) < k := by
   have e := Int.tdiv_eq_ediv (a := d) (b := 2)
   have e2 : d.tdiv 2 ≤ d / 2 + 1 ∧ (0 ≤ d → d.tdiv 2 = d / 2) ∧ d / 2 ≤ d.tdiv 2 := by
    rw [e]
    refine ⟨?_, fun h => by rw [if_pos (.inl h)]; omega, ?_⟩
    ·split
     ·omega
     ·simp [Int.sign]
    ·split
     ·omega
     ·simp [Int.sign]; omega
   have e3 : wrap64 (d.tdiv 2 + 1) = d.tdiv 2 + 1 := by unfold wrap64; omega
   rw [e3]
   by_cases h0 : 0 ≤ d
   ·have := e2.2.1 h0; omega
   ·have := e2.1; omega
  clear hb
  go_enter Try.func8, Try.ntmps8
  go_wp2
  go_ret2
  exact HX.out
theorem bs_pts (n : Nat) : bs (Rd.pts n) = Pt.pts n := by simp [bs, Rd.pts, Pt.pts]
structure NS (g : Nat) (w V : World) : Prop where
 fld : FldP V (some ⟨g, 0, none⟩)
 past : Past w.heap.size g w V
section
variable {g : Nat} {w V V' : World}
theorem NS.go (h : NS g w V) (hf : FldP V' (some ⟨g, 0, none⟩)) (hp : Past V.heap.size g V V') : NS g w V' := ⟨hf, h.past.trans (hp.mono h.past.size)⟩
theorem NS.later (h : NS g w V) (hg : g < w.heap.size) (hb : Below w.heap.size V V') : NS g w V' :=
 ⟨FldP.of (h.fld.fld.imp (fun x => x.below hb hg) (fun x => x.below hb hg)), h.past.trans (Past.of_below hb _)⟩
end
theorem own_setb {V : World} {B j : Nat} {e : TypeId} {v : Value} {xs : List Value} (h : Own V (B + 1) e v xs) (u : Value) : Own (V.setCell ⟨B, j, none⟩ u) (B + 1) e v xs :=
 Own.far h (p := ⟨B, j, none⟩) (fun e => by have := (h.lt _ e).1; simp at this; omega) u
theorem bytes_setb {V : World} {B j : Nat} {A : Option Addr} {l : List Nat} (h : Bytes V A l) (hne : ∀ a, A = some a → a.block ≠ B) (u : Value) : Bytes (V.setCell ⟨B, j, none⟩ u) A l := by
 refine ⟨fun k x hx => ?_, h.lt⟩
 obtain ⟨b, off, e, hc⟩ := h.row k x hx
 refine ⟨b, off, e, ?_⟩
 rw [World.cell?_of_block (w := V) (a := ⟨b, off + k, none⟩) (Below.heap_setCell V ⟨B, j, none⟩ u b (hne _ e))]
 exact hc
theorem cd_setb {V : World} {B j b g : Nat} {A : Option Addr} {xs : List F8} {n c k : Nat} (h : Cd V b g A xs n c k) (hb : b ≠ B) (hne : ∀ a, A = some a → a.block ≠ B) (u : Value) (hf : FldP (V.setCell ⟨B, j, none⟩ u) (some ⟨g, 0, none⟩)) : Cd (V.setCell ⟨B, j, none⟩ u) b g A xs n c k :=
 { h with blk := h.blk.far (p := ⟨B, j, none⟩) hb u, by_ := bytes_setb h.by_ hne u, fld := hf }
set_option maxRecDepth 100000 in
set_option maxHeartbeats 16000000 in
theorem new_good (PS : Poly.Spec) (g : Nat) (n k d : Int) (w : World) (hf : FldP w (some ⟨g, 0, none⟩)) (h1 : 2 ≤ k) (h2 : 2 * k ≤ d + 2) (h3 : d < n) (h4 : d - k + 1 ≤ 16) (h5 : n ≤ 255) :
  Calls Try.prog 8 #[.pointer (some ⟨g, 0, none⟩), .int .i64 n, .int .i64 k, .int .i64 d] w (NewIs w g n k d) := by
 have hmx : Try.prog.follows .mixedOrders = true := by kernel_rfl
 have b1 : ¬ (255 < n) := by omega
 have b2 : ¬ (n ≤ d) := by omega
 have b3 : ¬ (k < 2) := by omega
 have b4 : ¬ (d / 2 + 1 < k) := by omega
 have b5 : ¬ (16 < d - k + 1) := by omega
 have hgw := hf.fld.lt
 have HF := Lib.hid hf
 clear hf
 go_enter Try.func8, Try.ntmps8
 go_wp2_with fail
 obtain ⟨a, ha⟩ : ∃ a : Nat, d - k + 1 = (a : Int) := ⟨(d - k + 1).toNat, by omega⟩
 obtain ⟨v, hv⟩ : ∃ v : Nat, d - 2 * k + 2 = (v : Int) := ⟨(d - 2 * k + 2).toNat, by omega⟩
 rw [ha, hv]
 obtain ⟨w1, hw1⟩ : ∃ w1, w.alloc (.cells #[.pointer (some ⟨g, 0, none⟩), .int .i64 n, .int .i64 k, .int .i64 d, .int .i64 (a : Int), .int .i64 (v : Int), .slice none 0 0, .int .i64 0, .int .i64 0, .slice none 0 0, .slice none 0 0, .pointer none, .pointer none] 72) = w1 := ⟨_, rfl⟩
 rw [hw1]
 have hk1 : NS g w w1 := by rw [← hw1]; exact ⟨HF.out.below ((Below.refl _ _).alloc (Nat.le_refl _) _), Past.of_below ((Below.refl _ _).alloc (Nat.le_refl _) _) _⟩
 have hb1 : Block w1 w.heap.size 72 #[.pointer (some ⟨g, 0, none⟩), .int .i64 n, .int .i64 k, .int .i64 d, .int .i64 (a : Int), .int .i64 (v : Int), .slice none 0 0, .int .i64 0, .int .i64 0, .slice none 0 0, .slice none 0 0, .pointer none, .pointer none] := by rw [← hw1]; exact Block.new _ _ _
 have HK1 := Lib.hid hk1
 have HB1 := Lib.hid hb1
 have HS : Hid (w1.drew.cell? ⟨w.heap.size, 4, none⟩ = some (.int .i64 (a : Int)) ∧ w1.drew.cell? ⟨w.heap.size, 5, none⟩ = some (.int .i64 (v : Int))) := Lib.hid ⟨hb1.drew.cell 4, hb1.drew.cell 5⟩
 have hwn : IntKind.i64.wrap (n + (v : Int)) = n + (v : Int) := IntWalk.i64_in _ (by omega)
 have HSp := Lib.hid (Pt.spread_calls (some ⟨g, 0, none⟩) (n + (v : Int)) (a : Int) w1.drew hk1.fld)
 obtain ⟨nx, hnx⟩ : ∃ nx : Nat, n + (v : Int) = (nx : Int) := ⟨(n + (v : Int)).toNat, by omega⟩
 have HNx := Lib.hid hnx
 have HA := Lib.hid ha
 have HV := Lib.hid hv
 have ha16 : a ≤ 16 := by omega
 have hv15 : v ≤ 30 := by omega
 clear hk1 hb1 hw1 hnx ha hv b1 b2 b3 b4 b5
 go_region_held (fun V => V.cell? ⟨w.heap.size, 4, none⟩ = some (.int .i64 (a : Int)) ∧ V.cell? ⟨w.heap.size, 5, none⟩ = some (.int .i64 (v : Int))) (exact HS.out)
  ((go_at_call 22; (with_reducible refine HSp.out.mono ?_); rintro e2 w2 ⟨v2, rfl, hO2, hf2, hp2⟩; have hp2' : Past w1.heap.size g w1 w2 := ⟨hp2.os, hp2.tape, hp2.output, hp2.size, hp2.block⟩; have HK2 := Lib.hid (HK1.out.go hf2 hp2'); have HB2 := Lib.hid (HB1.out.past hp2' HB1.out.lt (by omega)); replace HS : Hid (w2.cell? ⟨w.heap.size, 4, none⟩ = some (.int .i64 (a : Int)) ∧ w2.cell? ⟨w.heap.size, 5, none⟩ = some (.int .i64 (v : Int))) := Lib.hid ⟨HB2.out.cell 4, HB2.out.cell 5⟩; have HO2 := Lib.hid hO2; have hz2 := hp2'.size; clear hO2 hf2 hp2 hp2'))
 clear HS HSp hwn
 obtain ⟨sp, hsp⟩ : ∃ sp, Pt.spreadR (n + (v : Int)) (a : Int) = sp := ⟨_, rfl⟩
 rw [hsp] at HO2 ⊢
 by_cases hgood : n + (v : Int) ≤ (Pt.lim a : Int)
 ·have e : sp = (Pt.pts nx, 0) := by
   rw [← hsp, HNx.out]
   have := HA.out; have := HNx.out
   rw [HNx.out] at hgood
   unfold Pt.spreadR
   rw [if_pos ⟨by omega, by omega, by omega, by rw [Int.toNat_natCast]; exact hgood⟩, Int.toNat_natCast]
  subst e
  rw [← bs_pts] at HO2
  obtain ⟨xs, hxs⟩ : ∃ xs, Rd.pts nx = xs := ⟨_, rfl⟩
  have hxl : xs.length = nx := by rw [← hxs, Rd.pts_length]
  rw [hxs] at HO2
  have ho2 := HO2.out
  obtain ⟨X0, cX, rfl, -, -, hcX⟩ := ho2.form1 (by rw [bvs_length, hxl]; have := HNx.out; omega)
  rw [bvs_length, hxl] at ho2 hcX ⊢
  obtain ⟨X, hX⟩ : ∃ X : Option Addr, some ⟨X0, 0, none⟩ = X := ⟨_, rfl⟩
  rw [hX] at ho2 ⊢
  have ho2 := ho2.more (show w.heap.size + 1 ≤ w1.heap.size from HB1.out.lt)
  have hb2 := HB2.out
  have hnx255 : nx ≤ 255 := by have h9 := HNx.out; have := Pt.lim_le a; omega
  obtain ⟨w3, hw3⟩ : ∃ w3, w2.setCell ⟨w.heap.size, 6, none⟩ (.slice X nx cX) = w3 := ⟨_, rfl⟩
  have hb3 : Block w3 w.heap.size 72 #[.pointer (some ⟨g, 0, none⟩), .int .i64 n, .int .i64 k, .int .i64 d, .int .i64 (a : Int), .int .i64 (v : Int), .slice X nx cX, .int .i64 0, .int .i64 0, .slice none 0 0, .slice none 0 0, .pointer none, .pointer none] := by rw [← hw3]; exact hb2.set_ 6 _
  have ho3 : Own w3 (w.heap.size + 1) 5 (.slice X nx cX) (bv (bs xs)) := by rw [← hw3]; exact own_setb ho2 _
  have hk3 : NS g w w3 := by rw [← hw3]; exact HK2.out.later hgw ((Below.refl _ _).setCell (p := ⟨w.heap.size, 6, none⟩) (Nat.le_refl _) _)
  have x6 := hb2.cell 6
  have f6 := hb2.frozen 6
  have x4 := hb3.cell 4
  obtain ⟨aa, haa⟩ : ∃ aa : Nat, 2 * a = aa := ⟨_, rfl⟩
  have haa' : (2 : Int) * (a : Int) = (aa : Int) := by omega
  have hfar3 : Far (some ⟨g, 0, none⟩) X xs := far_own hk3.fld.fld ho3
  have HPw := Lib.hid (Mat.powers_calls (some ⟨g, 0, none⟩) X xs nx aa cX hxl (by omega) (by omega) (by have : nx * aa ≤ 255 * 32 := Nat.mul_le_mul hnx255 (by omega); omega) w3 (Own.bytes ho3) hfar3 hk3.fld)
  have HXs := Lib.hid hxs
  have HXl := Lib.hid hxl
  have HAa := Lib.hid haa
  have HO3 := Lib.hid ho3
  have HB3 := Lib.hid hb3
  have HK3 := Lib.hid hk3
  clear ho2 hb2 hb3 ho3 hk3 hxs hxl haa hsp hfar3 HO2 HB2 HK2 HB1 HK1
  go_wp2_with fail
  refine HPw.out.mono ?_
  rintro e w4 ⟨W, cW, rfl, hcW, hO4, hf4, hp4⟩
  obtain ⟨nw, hnw⟩ : ∃ nw, (Mat.flat nx aa (Mat.powF xs)).length = nw := ⟨_, rfl⟩
  rw [hnw] at hcW hO4 ⊢
  have hp4 : Past w3.heap.size g w3 w4 := ⟨hp4.os, hp4.tape, hp4.output, hp4.size, hp4.block⟩
  have hk4 := HK3.out.go hf4 hp4
  have hb4 := HB3.out.past hp4 HB3.out.lt (by omega)
  have ho4 := own_keep HO3.out HK3.out.fld hp4
  have hz4 := hp4.size
  have hz3 := HB3.out.lt
  have how4 := hO4.more (show w.heap.size + 1 ≤ w3.heap.size from hz3)
  obtain ⟨w5, hw5⟩ : ∃ w5, ((w4.setCell ⟨w.heap.size, 7, none⟩ (.int .i64 (nx : Int))).setCell ⟨w.heap.size, 8, none⟩ (.int .i64 (aa : Int))).setCell ⟨w.heap.size, 9, none⟩ (.slice W nw cW) = w5 := ⟨_, rfl⟩
  have hb5 : Block w5 w.heap.size 72 #[.pointer (some ⟨g, 0, none⟩), .int .i64 n, .int .i64 k, .int .i64 d, .int .i64 (a : Int), .int .i64 (v : Int), .slice X nx cX, .int .i64 (nx : Int), .int .i64 (aa : Int), .slice W nw cW, .slice none 0 0, .pointer none, .pointer none] := by rw [← hw5]; exact ((hb4.set_ 7 _).set_ 8 _).set_ 9 _
  have ho5 : Own w5 (w.heap.size + 1) 5 (.slice X nx cX) (bv (bs xs)) := by rw [← hw5]; exact own_setb (own_setb (own_setb ho4 _) _) _
  have how5 : Own w5 (w.heap.size + 1) 5 (.slice W nw cW) (bv (bs (Mat.flat nx aa (Mat.powF xs)))) := by rw [← hw5]; exact own_setb (own_setb (own_setb how4 _) _) _
  have hk5 : NS g w w5 := by rw [← hw5]; exact hk4.later hgw ((((Below.refl _ _).setCell (p := ⟨w.heap.size, 7, none⟩) (Nat.le_refl _) _).setCell (p := ⟨w.heap.size, 8, none⟩) (Nat.le_refl _) _).setCell (p := ⟨w.heap.size, 9, none⟩) (Nat.le_refl _) _)
  have y7 := hb4.cell 7
  have y8 := hb4.cell 8
  have y9 := hb4.cell 9
  have g7 := hb4.frozen 7
  have g8 := hb4.frozen 8
  have g9 := hb4.frozen 9
  have x5 := hb5.cell 5
  have hvn : v < nx := by have := HNx.out; omega
  have hvc1 : (v : Int) ≤ (cX : Int) := by omega
  have hvc2 : (v : Int) ≤ (nx : Int) := by omega
  have hvc3 : (0 : Int) ≤ (v : Int) := by omega
  have HRt : Hid (∀ V, NS g w V → Own V (w.heap.size + 1) 5 (.slice X nx cX) (bv (bs xs)) → Calls Try.prog 24 #[.pointer (some ⟨g, 0, none⟩), .slice X v cX] V fun e w' => ∃ Z cZ nz, nz = v + 1 ∧ e = .returned (.slice Z nz cZ) ∧ nz ≤ cZ ∧ Own w' V.heap.size 5 (.slice Z nz cZ) (bv (bs (trim (roots (xs.take v))))) ∧ FldP w' (some ⟨g, 0, none⟩) ∧ Past V.heap.size g V w') := Lib.hid fun V hV hO => by
   have hl : (xs.take v).length = v := by rw [List.length_take, HXl.out]; omega
   have hfar := far_own hV.fld.fld hO
   refine (PS.rootsP X (xs.take v) v cX V hl (bytes_take (Own.bytes hO) v) (by omega) (by omega) (some ⟨g, 0, none⟩) hV.fld (fun hne => hfar (fun e => hne (by rw [e]; simp)))).mono ?_
   rintro e w' ⟨Z, cZ, rfl, hc, ho, hf9, hp9⟩
   have hzl : (trim (roots (xs.take v))).length = v + 1 := by rw [tight_length, hl]
   rw [hzl] at hc ho ⊢
   exact ⟨Z, cZ, v + 1, rfl, rfl, hc, ho, hf9, ⟨hp9.os, hp9.tape, hp9.output, hp9.size, hp9.block⟩⟩
  have HO5 := Lib.hid ho5
  have HB5 := Lib.hid hb5
  have HK5 := Lib.hid hk5
  have HOW5 := Lib.hid how5
  have HNw := Lib.hid hnw
  clear ho4 hb4 hk4 how4 hb5 ho5 how5 hk5 hO4 hf4 hp4 hnw HPw HO3 HB3 HK3 x6 f6 x4 hw3
  go_wp2_with fail
  refine (HRt.out _ HK5.out HO5.out).mono ?_
  rintro e w6 ⟨Z, cZ, nz, hnz, rfl, hcZ, hO6, hf6, hp6⟩
  have hk6 := HK5.out.go hf6 hp6
  have hb6 := HB5.out.past hp6 HB5.out.lt (by omega)
  have ho6 := own_keep HO5.out HK5.out.fld hp6
  have how6 := own_keep HOW5.out HK5.out.fld hp6
  have hoz6 := hO6.more (show w.heap.size + 1 ≤ w5.heap.size from HB5.out.lt)
  obtain ⟨w7, hw7⟩ : ∃ w7, w6.setCell ⟨w.heap.size, 10, none⟩ (.slice Z nz cZ) = w7 := ⟨_, rfl⟩
  have hb7 : Block w7 w.heap.size 72 #[.pointer (some ⟨g, 0, none⟩), .int .i64 n, .int .i64 k, .int .i64 d, .int .i64 (a : Int), .int .i64 (v : Int), .slice X nx cX, .int .i64 (nx : Int), .int .i64 (aa : Int), .slice W nw cW, .slice Z nz cZ, .pointer none, .pointer none] := by rw [← hw7]; exact hb6.set_ 10 _
  have ho7 : Own w7 (w.heap.size + 1) 5 (.slice X nx cX) (bv (bs xs)) := by rw [← hw7]; exact own_setb ho6 _
  have how7 : Own w7 (w.heap.size + 1) 5 (.slice W nw cW) (bv (bs (Mat.flat nx aa (Mat.powF xs)))) := by rw [← hw7]; exact own_setb how6 _
  have hoz7 : Own w7 (w.heap.size + 1) 5 (.slice Z nz cZ) (bv (bs (trim (roots (xs.take v))))) := by rw [← hw7]; exact own_setb hoz6 _
  have hk7 : NS g w w7 := by rw [← hw7]; exact hk6.later hgw ((Below.refl _ _).setCell (p := ⟨w.heap.size, 10, none⟩) (Nat.le_refl _) _)
  have y10 := hb6.cell 10
  have g10 := hb6.frozen 10
  have x4 := hb7.cell 4
  have hgd : Rd.newR xs (a : Int) = 0 := by
   have := HA.out; have := HNx.out
   unfold Rd.newR
   rw [if_pos ⟨by rw [← HXs.out]; exact Rd.pts_nodup hnx255, by omega, by rw [HXl.out]; omega⟩]
  have HNp := Lib.hid (Rd.new_calls g X xs nx cX (a : Int) w7 HXl.out (Own.bytes ho7) hcX (by omega) hk7.fld)
  have HO7 := Lib.hid ho7
  have HB7 := Lib.hid hb7
  have HK7 := Lib.hid hk7
  have HOW7 := Lib.hid how7
  have HOZ7 := Lib.hid hoz7
  have HNz := Lib.hid hnz
  clear hk6 hb6 ho6 how6 hoz6 hb7 ho7 how7 hoz7 hk7 hO6 hf6 hp6 hnz HRt HO5 HB5 HK5 HOW5 hw5 y7 y8 y9 g7 g8 g9 x5
  go_wp2_with fail
  refine HNp.out.mono ?_
  rintro e w8 hN8
  rcases hN8 with ⟨-, bp, Ap, cp, qp, hqp, rfl, hbp, hAp, hcd8, hbel8⟩ | ⟨hbad, -, -⟩
  rotate_left
  ·rw [hgd] at hbad; cases hbad
  obtain rfl : qp = a := by omega
  have hz7 := HB7.out.lt
  have hk8 := HK7.out.go (HK7.out.fld.below hbel8) (Past.of_below hbel8 g)
  have hb8 := HB7.out.below hbel8 HB7.out.lt
  obtain ⟨w9, hw9⟩ : ∃ w9, w8.setCell ⟨w.heap.size, 11, none⟩ (.pointer (some ⟨bp, 0, none⟩)) = w9 := ⟨_, rfl⟩
  have hb9 : Block w9 w.heap.size 72 #[.pointer (some ⟨g, 0, none⟩), .int .i64 n, .int .i64 k, .int .i64 d, .int .i64 (qp : Int), .int .i64 (v : Int), .slice X nx cX, .int .i64 (nx : Int), .int .i64 (aa : Int), .slice W nw cW, .slice Z nz cZ, .pointer (some ⟨bp, 0, none⟩), .pointer none] := by rw [← hw9]; exact hb8.set_ 11 _
  have ho9 : Own w9 (w.heap.size + 1) 5 (.slice X nx cX) (bv (bs xs)) := by rw [← hw9]; exact own_setb (HO7.out.below hbel8) _
  have how9 : Own w9 (w.heap.size + 1) 5 (.slice W nw cW) (bv (bs (Mat.flat nx aa (Mat.powF xs)))) := by rw [← hw9]; exact own_setb (HOW7.out.below hbel8) _
  have hoz9 : Own w9 (w.heap.size + 1) 5 (.slice Z nz cZ) (bv (bs (trim (roots (xs.take v))))) := by rw [← hw9]; exact own_setb (HOZ7.out.below hbel8) _
  have hk9 : NS g w w9 := by rw [← hw9]; exact hk8.later hgw ((Below.refl _ _).setCell (p := ⟨w.heap.size, 11, none⟩) (Nat.le_refl _) _)
  have hcd9 : Cd w9 bp g Ap xs nx cp qp := by
   have hk9' := hk9.fld
   rw [← hw9] at hk9' ⊢
   exact cd_setb hcd8 (by omega) (fun a9 ha9 => by have := hAp a9 ha9; omega) _ hk9'
  subst hX
  have y11 := hb8.cell 11
  have g11 := hb8.frozen 11
  have x5 := hb9.cell 5
  obtain ⟨dn, hdn⟩ : ∃ dn : Nat, d = (dn : Int) := ⟨d.toNat, by omega⟩
  obtain ⟨nn, hnn⟩ : ∃ nn : Nat, n = (nn : Int) := ⟨n.toNat, by omega⟩
  obtain ⟨kn, hkn⟩ : ∃ kn : Nat, k = (kn : Int) := ⟨k.toNat, by omega⟩
  have hnxn : nx = nn + v := by have := HNx.out; omega
  have hdl : (xs.drop v).length = nx - v := by rw [List.length_drop, HXl.out]
  have hgd2 : Rd.newR (xs.drop v) d = 0 := by
   unfold Rd.newR
   rw [if_pos ⟨by rw [← HXs.out]; exact (Rd.pts_nodup hnx255).sublist (List.drop_sublist _ _), by omega, by rw [hdl]; omega⟩]
  have hNh := Rd.new_calls g (some ⟨X0, 0 + v, none⟩) (xs.drop v) (nx - v) (cX - v) d w9 hdl (bytes_drop (Own.bytes ho9) v) (by omega) (by omega) hk9.fld
  rw [Nat.zero_add] at hNh
  have HNh := Lib.hid hNh
  have hsl : v < cX := by omega
  have hsl2 : (v : Int) < (cX : Int) := by omega
  have hnxc : (nx : Int) ≤ (cX : Int) := by omega
  have HO9 := Lib.hid ho9
  have HB9 := Lib.hid hb9
  have HK9 := Lib.hid hk9
  have HOW9 := Lib.hid how9
  have HOZ9 := Lib.hid hoz9
  have HCd9 := Lib.hid hcd9
  have hbp' : w.heap.size < bp := by omega
  have HAp : Hid (∀ a9, Ap = some a9 → w.heap.size < a9.block) := Lib.hid fun a9 ha9 => by have := hAp a9 ha9; omega
  have HDn := Lib.hid hdn
  have HNn := Lib.hid hnn
  have HKn := Lib.hid hkn
  have HNxn := Lib.hid hnxn
  have HDl := Lib.hid hdl
  clear hb8 hk8 hb9 ho9 how9 hoz9 hk9 hcd9 hcd8 hbel8 HO7 HB7 HK7 HOW7 HOZ7 HNp hw7 y10 g10 x4 hgd hAp hdn hnn hkn hnxn hdl hNh
  go_wp2_with fail
  refine HNh.out.mono ?_
  rintro e w10 hN10
  rcases hN10 with ⟨-, bh, Ah, ch, qd, hqd, rfl, hbh, hAh, hcd10, hbel10⟩ | ⟨hbad, -, -⟩
  rotate_left
  ·rw [hgd2] at hbad; cases hbad
  have hz9 := HB9.out.lt
  have hk10 := HK9.out.go (HK9.out.fld.below hbel10) (Past.of_below hbel10 g)
  have hb10 := HB9.out.below hbel10 HB9.out.lt
  obtain ⟨w11, hw11⟩ : ∃ w11, w10.setCell ⟨w.heap.size, 12, none⟩ (.pointer (some ⟨bh, 0, none⟩)) = w11 := ⟨_, rfl⟩
  have hb11 : Block w11 w.heap.size 72 #[.pointer (some ⟨g, 0, none⟩), .int .i64 n, .int .i64 k, .int .i64 d, .int .i64 (qp : Int), .int .i64 (v : Int), .slice (some ⟨X0, 0, none⟩) nx cX, .int .i64 (nx : Int), .int .i64 (aa : Int), .slice W nw cW, .slice Z nz cZ, .pointer (some ⟨bp, 0, none⟩), .pointer (some ⟨bh, 0, none⟩)] := by rw [← hw11]; exact hb10.set_ 12 _
  have ho11 : Own w11 (w.heap.size + 1) 5 (.slice (some ⟨X0, 0, none⟩) nx cX) (bv (bs xs)) := by rw [← hw11]; exact own_setb (HO9.out.below hbel10) _
  have how11 : Own w11 (w.heap.size + 1) 5 (.slice W nw cW) (bv (bs (Mat.flat nx aa (Mat.powF xs)))) := by rw [← hw11]; exact own_setb (HOW9.out.below hbel10) _
  have hoz11 : Own w11 (w.heap.size + 1) 5 (.slice Z nz cZ) (bv (bs (trim (roots (xs.take v))))) := by rw [← hw11]; exact own_setb (HOZ9.out.below hbel10) _
  have hk11 : NS g w w11 := by rw [← hw11]; exact hk10.later hgw ((Below.refl _ _).setCell (p := ⟨w.heap.size, 12, none⟩) (Nat.le_refl _) _)
  have hcp11 : Cd w11 bp g Ap xs nx cp qp := by
   have hk9' := hk11.fld
   rw [← hw11] at hk9' ⊢
   exact cd_setb (HCd9.out.below hbel10) (by omega) (fun a9 ha9 => by have := HAp.out a9 ha9; omega) _ hk9'
  have hch11 : Cd w11 bh g Ah (xs.drop v) (nx - v) ch qd := by
   have hk9' := hk11.fld
   rw [← hw11] at hk9' ⊢
   exact cd_setb hcd10 (by omega) (fun a9 ha9 => by have := hAh a9 ha9; omega) _ hk9'
  have y12 := hb10.cell 12
  have g12 := hb10.frozen 12
  obtain ⟨S, hS⟩ : ∃ S : Co, S = ⟨w.heap.size, g, bp, bh, nn, kn, dn, qp, v, nx, aa, nw, nz, xs, some ⟨X0, 0, none⟩, cX, W, cW, Z, cZ, Ap, cp, Ah, ch⟩ := ⟨_, rfl⟩
  have hok : S.Ok w11 := by
   have hnn := HNn.out; have hkn := HKn.out; have hdn := HDn.out; have hav := HA.out; have hvv := HV.out; have hnxn := HNxn.out
   subst hS
   refine { blk := ?_, bg := (by show w.heap.size ≠ g; omega), par := ?_, a16 := ha16, xs_ := HXs.out.symm, nx_ := HNxn.out, aa_ := HAa.out.symm, nw_ := (by show nw = nx * aa; rw [← HNw.out, Mat.flat_length]), nz_ := HNz.out, bx := BF.own hk11.fld ho11, cx := hcX, bw := BF.own hk11.fld how11, cw := hcW, bz := BF.own hk11.fld hoz11, cz := hcZ, cdp := hcp11, cdh := ?_ }
   ·show Block w11 w.heap.size 72 #[.pointer (some ⟨g, 0, none⟩), .int .i64 (nn : Int), .int .i64 (kn : Int), .int .i64 (dn : Int), .int .i64 (qp : Int), .int .i64 (v : Int), .slice (some ⟨X0, 0, none⟩) nx cX, .int .i64 (nx : Int), .int .i64 (aa : Int), .slice W nw cW, .slice Z nz cZ, .pointer (some ⟨bp, 0, none⟩), .pointer (some ⟨bh, 0, none⟩)]
    rw [← hnn, ← hkn, ← hdn]
    exact hb11
   ·show Par xs nn kn dn qp v
    have e1 : dn + 1 - kn = qp := by omega
    have e2 : dn + 2 - 2 * kn = v := by omega
    have := par_of (n := nn) (k := kn) (d := dn) (by omega) (by omega) (by omega) (by rw [e1, e2]; omega)
    rw [e1, e2, ← hnxn, HXs.out] at this
    exact this
   ·show Cd w11 bh g Ah (xs.drop v) nn ch dn
    rw [show nx - v = nn by omega, show qd = dn by omega] at hch11
    exact hch11
  have HX : Hid (NewIs w g n k d (.returned (.tuple #[.pointer (some ⟨w.heap.size, 0, none⟩), .int .i64 0])) w11) := Lib.hid (.inl ⟨⟨⟨h1, h2, h3, h4⟩, by rw [HA.out, HV.out, Int.toNat_natCast]; exact hgood⟩, S, hok, by rw [hS], by rw [hS]; exact HNn.out.symm, by rw [hS]; exact HKn.out.symm, by rw [hS]; exact HDn.out.symm, by rw [hS]; exact Nat.le_refl _, by rw [hS], hk11.past⟩)
  clear hb11 ho11 how11 hoz11 hk11 hcp11 hch11 hok hS hb10 hk10 hcd10 hbel10 HNh HO9 HB9 HK9 HOW9 HOZ9 HCd9 y11 g11 x5 hw9 hgood hqd hAh
  go_wp2
  go_ret2
  exact HX.out
 ·have e : sp = ([], 2) := by
   rw [← hsp]
   unfold Pt.spreadR
   rw [if_neg (fun h => hgood (by have := h.2.2.2; rwa [Int.toNat_natCast] at this))]
  subst e
  have hno : ¬ Good n k d := fun h => hgood (by
   have h6 := h.2
   rw [HA.out, Int.toNat_natCast, HV.out] at h6
   exact h6)
  have HX : Hid (NewIs w g n k d (.returned (.tuple #[.pointer none, .int .i64 2])) w2) := Lib.hid (.inr ⟨hno, rfl, HK2.out.fld, HK2.out.past⟩)
  clear hno hgood hsp HB1 HB2 HK1 HK2 HO2
  go_wp2
  go_ret2
  exact HX.out
theorem new_calls (PS : Poly.Spec) (g : Nat) (n k d : Int) (w : World) (hf : FldP w (some ⟨g, 0, none⟩)) (hn1 : -9223372036854775808 ≤ n) (hn2 : n < 9223372036854775808) (hk1 : -9223372036854775808 ≤ k) (hk2 : k < 9223372036854775808) (hd1 : -9223372036854775808 ≤ d) (hd2 : d < 9223372036854775808) :
  Calls Try.prog 8 #[.pointer (some ⟨g, 0, none⟩), .int .i64 n, .int .i64 k, .int .i64 d] w (NewIs w g n k d) := by
 by_cases hb : 2 ≤ k ∧ 2 * k ≤ d + 2 ∧ d < n ∧ d - k + 1 ≤ 16 ∧ n ≤ 255
 ·exact new_good PS g n k d w hf hb.1 hb.2.1 hb.2.2.1 hb.2.2.2.1 hb.2.2.2.2
 ·exact new_bad g n k d w hf hn1 hn2 hk1 hk2 hd1 hd2 hb
end Go.Proofs.Ytjoghbmedfmioab.Ms

namespace Go.Proofs.Ytjoghbmedfmioab.Mb
open F8
structure ParB (xs : List F8) (n k d : Nat) : Prop where
 nd : xs.Nodup
 len : xs.length = n
 k1 : 1 ≤ k
 kd : k ≤ d
 dn : d < n
 n255 : n ≤ 255
end Go.Proofs.Ytjoghbmedfmioab.Mb

namespace Go.Proofs.Ytjoghbmedfmioab.Mb
open Go.RowKit Go.Shelf F8 Poly GF Rd Ms
attribute [local go_sem] Oper.semAt_some
structure Bo where
 b : Nat
 g : Nat
 n : Nat
 k : Nat
 d : Nat
 nw : Nat
 xs : List F8
 X : Option Addr
 cX : Nat
 W : Option Addr
 cW : Nat
def Bo.cs (S : Bo) : Array Value := #[.pointer (some ⟨S.g, 0, none⟩), .int .i64 S.n, .int .i64 S.k, .int .i64 S.d, .slice S.X S.n S.cX, .int .i64 S.n, .int .i64 S.d, .slice S.W S.nw S.cW]
structure Bo.Ok (S : Bo) (w : World) : Prop where
 blk : Block w S.b 78 S.cs
 bg : S.b ≠ S.g
 par : ParB S.xs S.n S.k S.d
 xs_ : S.xs = Rd.pts S.n
 nw_ : S.nw = S.n * S.d
 bx : BF S.g w S.X S.xs
 cx : S.n ≤ S.cX
 bw : BF S.g w S.W (Mat.flat S.n S.d (Mat.powF S.xs))
 cw : S.nw ≤ S.cW
 fld : FldP w (some ⟨S.g, 0, none⟩)
section
variable {S : Bo} {w w' : World}
theorem Bo.Ok.past (h : S.Ok w) (hf : FldP w' (some ⟨S.g, 0, none⟩)) (hp : Past w.heap.size S.g w w') : S.Ok w' :=
 { h with blk := h.blk.past hp h.blk.lt h.bg, bx := h.bx.past hp, bw := h.bw.past hp, fld := hf }
theorem Bo.Ok.below (h : S.Ok w) (hb : Below w.heap.size w w') : S.Ok w' := h.past (h.fld.below hb) (Past.of_below hb _)
theorem Bo.Ok.cells (h : S.Ok w) : w.cell? ⟨S.b, 0, none⟩ = some (.pointer (some ⟨S.g, 0, none⟩)) ∧ w.cell? ⟨S.b, 1, none⟩ = some (.int .i64 S.n) ∧ w.cell? ⟨S.b, 2, none⟩ = some (.int .i64 S.k) ∧ w.cell? ⟨S.b, 3, none⟩ = some (.int .i64 S.d) ∧ w.cell? ⟨S.b, 4, none⟩ = some (.slice S.X S.n S.cX) ∧ w.cell? ⟨S.b, 5, none⟩ = some (.int .i64 S.n) ∧ w.cell? ⟨S.b, 6, none⟩ = some (.int .i64 S.d) ∧ w.cell? ⟨S.b, 7, none⟩ = some (.slice S.W S.nw S.cW) := by
 have hb := h.blk
 refine ⟨?_, ?_, ?_, ?_, ?_, ?_, ?_, ?_⟩ <;> (rw [hb.cell]; rfl)
theorem Bo.Ok.nums (h : S.Ok w) : 1 ≤ S.k ∧ S.k ≤ S.d ∧ S.d < S.n ∧ S.n ≤ 255 := ⟨h.par.k1, h.par.kd, h.par.dn, h.par.n255⟩
end
def tri (n : Nat) : Nat := n * (n + 1) / 2
theorem sizeOf_calls (n : Nat) (hn : n ≤ 255) (w : World) : Calls Try.prog 27 #[.int .i64 (n : Nat)] w fun e w' => e = .returned (.int .i64 (tri n : Nat)) ∧ w = w' := by
 obtain ⟨q, hq⟩ : ∃ q, n * (n + 1) = q := ⟨_, rfl⟩
 have hq9 : q ≤ 255 * 256 := by rw [← hq]; exact Nat.mul_le_mul hn (by omega)
 obtain ⟨t, ht⟩ : ∃ t, q / 2 = t := ⟨_, rfl⟩
 have h1 : IntKind.i64.wrap ((n : Int) + 1) = (n : Int) + 1 := IntWalk.i64_in _ (by omega)
 have h2 : IntKind.i64.wrap ((n : Int) * ((n : Int) + 1)) = (q : Int) := by rw [show (n : Int) * ((n : Int) + 1) = (q : Int) by rw [← hq]; simp]; exact IntWalk.i64_in _ (by omega)
 have h3 : (q : Int).tdiv 2 = (t : Int) := by rw [Int.tdiv_eq_ediv_of_nonneg (by omega)]; omega
 have h4 : (q : Int) / 2 = (t : Int) := by omega
 have h5 : IntKind.i64.wrap (t : Int) = (t : Int) := IntWalk.i64_in _ (by omega)
 have HT : Hid (tri n = t) := Lib.hid (by unfold tri; rw [hq, ht])
 clear hq ht
 go_enter Try.func27, Try.ntmps27
 go_wp2
 go_ret
 exact ⟨by rw [HT.out]; rfl, rfl⟩
def bN (k d : Nat) : Nat := tri k + k * (d - k)
section
variable {S : Bo} {w : World} (h : S.Ok w)
include h
theorem isNone_calls : Calls Try.prog 26 #[.pointer (some ⟨S.b, 0, none⟩)] w fun e w' => e = .returned (.bool false) ∧ w = w' := by
 obtain ⟨c0, c1, -⟩ := h.cells
 have hn : ((S.n : Int) == 0) = false := by have := h.nums; simp; omega
 go_enter Try.func26, Try.ntmps26
 go_wp2
 go_ret
 exact ⟨rfl, rfl⟩
theorem alpha_calls : Calls Try.prog 12 #[.pointer (some ⟨S.b, 0, none⟩)] w fun e w' => e = .returned (.int .i64 S.d) ∧ w = w' := by
 obtain ⟨c0, c1, c2, c3, -⟩ := h.cells
 have H := Lib.hid (isNone_calls h)
 go_enter Try.func12, Try.ntmps12
 go_wp2_with (go_at_call 26; refine H.out.mono ?_; rintro e w1 ⟨rfl, rfl⟩)
 go_ret
 exact ⟨rfl, rfl⟩
end
set_option maxRecDepth 100000 in
set_option maxHeartbeats 2000000 in
theorem b_calls {S : Bo} {w : World} (h : S.Ok w) : Calls Try.prog 13 #[.pointer (some ⟨S.b, 0, none⟩)] w fun e w' => e = .returned (.int .i64 (bN S.k S.d : Nat)) ∧ Below w.heap.size w w' := by
 obtain ⟨c0, c1, c2, c3, -⟩ := h.cells
 have H := Lib.hid (isNone_calls h)
 obtain ⟨n1, n2, n3, n4⟩ := h.nums
 have HSz := fun W => sizeOf_calls S.k (by omega) W
 obtain ⟨t, ht⟩ : ∃ t, tri S.k = t := ⟨_, rfl⟩
 obtain ⟨q, hq⟩ : ∃ q, S.k * (S.d - S.k) = q := ⟨_, rfl⟩
 have ht9 : t ≤ 255 * 256 := by
  rw [← ht]
  unfold tri
  have : S.k * (S.k + 1) ≤ 255 * 256 := Nat.mul_le_mul (by omega) (by omega)
  omega
 have hq9 : q ≤ 255 * 255 := by rw [← hq]; exact Nat.mul_le_mul (by omega) (by omega)
 have hw1 : IntKind.i64.wrap ((S.d : Int) - (S.k : Int)) = (S.d : Int) - (S.k : Int) := IntWalk.i64_in _ (by omega)
 have hw2 : IntKind.i64.wrap ((S.k : Int) * ((S.d : Int) - (S.k : Int))) = (q : Int) := by
  rw [show (S.k : Int) * ((S.d : Int) - (S.k : Int)) = (q : Int) by rw [← hq, Int.natCast_mul, Int.natCast_sub n2]]
  exact IntWalk.i64_in _ (by omega)
 have hw3 : IntKind.i64.wrap ((t : Int) + (q : Int)) = (t : Int) + (q : Int) := IntWalk.i64_in _ (by omega)
 have HX : Hid (((bN S.k S.d : Nat) : Int) = (t : Int) + (q : Int)) := Lib.hid (by unfold bN; rw [ht, hq]; simp)
 rw [ht] at HSz
 have HSz := Lib.hid HSz
 clear ht hq h
 go_enter Try.func13, Try.ntmps13
 go_wp2_with (go_at_call 26; refine H.out.mono ?_; rintro e w1 ⟨rfl, rfl⟩)
 go_quiet ((go_at_call 27; (with_reducible exact Calls.quiet_of_same ((HSz.out _).mono fun _ _ h => ⟨h.1, h.2.symm⟩))))
 go_wp2
 go_ret
 rw [HX.out]
 have hb := Below.refl w.heap.size w
 exact ⟨rfl, ⟨hb.os, hb.tape, hb.output, hb.size, hb.block⟩⟩
def Good (n k d : Int) : Prop := 1 ≤ k ∧ k ≤ d ∧ d < n ∧ n ≤ 255
instance (n k d : Int) : Decidable (Good n k d) := inferInstanceAs (Decidable (_ ∧ _ ∧ _ ∧ _))
def NewIs (w : World) (g : Nat) (n k d : Int) (e : Ending) (w' : World) : Prop :=
 (Good n k d ∧ ∃ S : Bo, S.Ok w' ∧ S.g = g ∧ (S.n : Int) = n ∧ (S.k : Int) = k ∧ (S.d : Int) = d ∧ w.heap.size ≤ S.b ∧ e = .returned (.tuple #[.pointer (some ⟨S.b, 0, none⟩), .int .i64 0]) ∧ Past w.heap.size g w w') ∨
 (¬ Good n k d ∧ e = .returned (.tuple #[.pointer none, .int .i64 2]) ∧ w = w')
set_option maxRecDepth 100000 in
set_option maxHeartbeats 4000000 in
theorem new_bad (g : Nat) (n k d : Int) (w : World) (hb : ¬ Good n k d) :
  Calls Try.prog 11 #[.pointer (some ⟨g, 0, none⟩), .int .i64 n, .int .i64 k, .int .i64 d] w (NewIs w g n k d) := by
 have HX : Hid (NewIs w g n k d (.returned (.tuple #[.pointer none, .int .i64 2])) w) := Lib.hid (.inr ⟨hb, rfl, rfl⟩)
 unfold Good at hb
 by_cases c1 : k < 1
 ·clear hb
  go_enter Try.func11, Try.ntmps11
  go_wp2
  go_ret2
  exact HX.out
 by_cases c2 : d < k
 ·clear hb
  go_enter Try.func11, Try.ntmps11
  go_wp2
  go_ret2
  exact HX.out
 by_cases c3 : n ≤ d
 ·clear hb
  go_enter Try.func11, Try.ntmps11
  go_wp2
  go_ret2
  exact HX.out
 have c4 : 255 < n := by omega
 clear hb
 go_enter Try.func11, Try.ntmps11
 go_wp2
 go_ret2
 exact HX.out
set_option maxRecDepth 100000 in
set_option maxHeartbeats 8000000 in
theorem new_good (g : Nat) (n k d : Nat) (w : World) (hf : FldP w (some ⟨g, 0, none⟩)) (h1 : 1 ≤ k) (h2 : k ≤ d) (h3 : d < n) (h4 : n ≤ 255) :
  Calls Try.prog 11 #[.pointer (some ⟨g, 0, none⟩), .int .i64 (n : Nat), .int .i64 (k : Nat), .int .i64 (d : Nat)] w (NewIs w g n k d) := by
 have b1 : ¬ ((k : Int) < 1) := by omega
 have b2 : ¬ ((d : Int) < (k : Int)) := by omega
 have b3 : ¬ ((n : Int) ≤ (d : Int)) := by omega
 have b4 : ¬ ((255 : Int) < (n : Int)) := by omega
 have hgw := hf.fld.lt
 have HF := Lib.hid hf
 clear hf
 go_enter Try.func11, Try.ntmps11
 go_wp2_with fail
 go_loopw [10, 32] (fun ov iv wr => ∃ j : Nat, j ≤ n ∧ iv = .int .i64 j ∧ Hid (Own wr w.heap.size 5 ov (bv (bs (Rd.pts j)))) ∧ Hid (FldP wr (some ⟨g, 0, none⟩)) ∧ Hid (Past w.heap.size g w wr)) (fun _ iv _ => n - (intOf iv).toNat)
 case atStart => exact ⟨0, by omega, rfl, Lib.hid (Own.nil _ _ _), HF, Lib.hid (Past.refl _ _ _)⟩
 case round =>
  obtain ⟨j, hj, rfl, HO, HF, HP⟩ := hrel
  have hsz := HP.out.size
  by_cases hlt : j < n
  ·have HL : Hid ((bv (bs (pts j))).length = j) := Lib.hid (by rw [bvs_length, pts_length])
   have HT : Hid (bv (bs (pts j)) ++ bv [gp j] = bv (bs (pts (j + 1)))) := Lib.hid (by rw [pts_succ, bvs_snoc])
   have HG : Hid (ge (j : Int) = gp j) := Lib.hid (ge_nat j)
   go_wp2_with fail
   refine (GF.exp_calls (some ⟨g, 0, none⟩) (j : Int) (by omega) (by omega) _ HF.out).mono ?_
   rintro e w2 ⟨rfl, hf2, hp2⟩
   rw [HG.out]
   have HO2 := Lib.hid (own_keep HO.out HF.out hp2)
   have HF2 := Lib.hid hf2
   have HP2 := HP.out.trans ((show Past wr.heap.size g wr w2 from hp2).mono hsz)
   have hsz2 := HP2.size
   clear hf2 hp2
   go_wp2_with (at_builtin; refine wpList_app _ rfl _ _ _ rfl w.heap.size 5 _ 1 Try.underlying65 info_u8 rfl (by omega) _ _ rfl (HO2.out.alloc _) (some ⟨w2.heap.size, 0, none⟩) 1 1 (bv [gp j]) rfl rfl (Row.new _ _ _ _) (bv_one _) (by rw [HL.out]; omega) (by simp; omega) ?_; rintro v2 w3 hown hg3 -)
   rw [HT.out] at hown
   have HO3 := Lib.hid hown
   have hrow : ∀ k, Value.ownBlock _ = some k → w.heap.size ≤ k := fun k hk => ((HO2.out.alloc (.cells #[.int .u8 (gp j : Nat)] 5)).lt k hk).1
   have HP3 := Lib.hid ((HP2.alloc hsz2 (.cells #[.int .u8 (gp j : Nat)] 5)).grown hg3 (by simp; omega) hrow)
   have HF3 := Lib.hid (FldP.of ((HF2.out.fld.alloc (.cells #[.int .u8 (gp j : Nat)] 5)).kept_grown hg3 (by omega) hrow))
   clear hown hg3 hrow
   go_roundw
   case rel => exact ⟨j + 1, by omega, by go_num, HO3, HF3, HP3⟩
   case measure => simp [intOf]; omega
  ·obtain rfl : j = n := by omega
   obtain ⟨A1, c1, rfl, hc1⟩ := Own.shape HO.out
   rw [pts_length] at hc1 HO ⊢
   obtain ⟨w2, hw2⟩ : ∃ w2, wr = w2 := ⟨_, rfl⟩
   rw [hw2] at HO HF HP hsz ⊢
   have HPw := Lib.hid (Mat.powers_calls (some ⟨g, 0, none⟩) A1 (pts j) j d c1 (pts_length j) (by omega) (by omega) (by have : j * d ≤ 255 * 255 := Nat.mul_le_mul h4 (by omega); omega) w2 (Own.bytes HO.out) (far_own HF.out.fld HO.out) HF.out)
   clear hw2
   go_wp2_with fail
   refine HPw.out.mono ?_
   rintro e w4 ⟨W, cW, rfl, hcW, hO4, hf4, hp4⟩
   have hp4 : Past w2.heap.size g w2 w4 := ⟨hp4.os, hp4.tape, hp4.output, hp4.size, hp4.block⟩
   have hP4 := HP.out.trans (hp4.mono hsz)
   have hz4 := hP4.size
   obtain ⟨nw, hnw⟩ : ∃ nw, (Mat.flat j d (Mat.powF (pts j))).length = nw := ⟨_, rfl⟩
   rw [hnw] at hcW hO4 ⊢
   obtain ⟨w5, hw5⟩ : ∃ w5, w4.alloc (.cells #[.pointer (some ⟨g, 0, none⟩), .int .i64 (j : Int), .int .i64 (k : Int), .int .i64 (d : Int), .slice A1 j c1, .int .i64 (j : Int), .int .i64 (d : Int), .slice W nw cW] 78) = w5 := ⟨_, rfl⟩
   have hb5 : Below w4.heap.size w4 w5 := by rw [← hw5]; exact (Below.refl _ _).alloc (Nat.le_refl _) _
   have hblk : Block w5 w4.heap.size 78 #[.pointer (some ⟨g, 0, none⟩), .int .i64 (j : Int), .int .i64 (k : Int), .int .i64 (d : Int), .slice A1 j c1, .int .i64 (j : Int), .int .i64 (d : Int), .slice W nw cW] := by rw [← hw5]; exact Block.new _ _ _
   have hf5 := hf4.below hb5
   have hok : Bo.Ok ⟨w4.heap.size, g, j, k, d, nw, pts j, A1, c1, W, cW⟩ w5 := ⟨hblk, by show w4.heap.size ≠ g; omega, ⟨pts_nodup h4, pts_length j, h1, h2, h3, h4⟩, rfl, by show nw = j * d; rw [← hnw, Mat.flat_length], (BF.own HF.out HO.out).past hp4 |>.below hb5, hc1, (BF.own hf4 hO4).below hb5, hcW, hf5⟩
   have HX : Hid (NewIs w g j k d (.returned (.tuple #[.pointer (some ⟨w4.heap.size, 0, none⟩), .int .i64 0])) w5) := Lib.hid (.inl ⟨⟨by omega, by omega, by omega, by omega⟩, _, hok, rfl, rfl, rfl, rfl, hz4, rfl, hP4.trans (Past.of_below (hb5.mono hz4) _)⟩)
   clear hp4 hP4 hnw hO4 hf4 hblk hf5 hok hb5 hcW HPw
   go_wp2
   go_ret2
   exact HX.out
theorem new_calls (g : Nat) (n k d : Int) (w : World) (hf : FldP w (some ⟨g, 0, none⟩)) :
  Calls Try.prog 11 #[.pointer (some ⟨g, 0, none⟩), .int .i64 n, .int .i64 k, .int .i64 d] w (NewIs w g n k d) := by
 by_cases hg : Good n k d
 ·obtain ⟨h1, h2, h3, h4⟩ := hg
  obtain ⟨n', rfl⟩ : ∃ n' : Nat, n = (n' : Int) := ⟨n.toNat, by omega⟩
  obtain ⟨k', rfl⟩ : ∃ k' : Nat, k = (k' : Int) := ⟨k.toNat, by omega⟩
  obtain ⟨d', rfl⟩ : ∃ d' : Nat, d = (d' : Int) := ⟨d.toNat, by omega⟩
  exact new_good g n' k' d' w hf (by omega) (by omega) (by omega) (by omega)
 ·exact new_bad g n k d w hg
end Go.Proofs.Ytjoghbmedfmioab.Mb

namespace Go.Proofs.Ytjoghbmedfmioab.Tr
open F8 Poly Rd
def rs (n : Nat) : Nat → Nat
 | 0 => 0
 | a + 1 => rs n a + (n - 1 - a)
def pl (n a b : Nat) : Nat := rs n a + (b - a - 1)
theorem rs_succ (n a : Nat) : rs n (a + 1) = rs n a + (n - 1 - a) := rfl
theorem rs_mono (n : Nat) {a b : Nat} (h : a ≤ b) : rs n a ≤ rs n b := by
 induction b with
 | zero =>
  have : a = 0 := by omega
  subst this; exact Nat.le_refl _
 | succ b ih =>
  rw [rs_succ]
  rcases Nat.lt_or_ge b a with h1 | h1
  ·have : a = b + 1 := by omega
   subst this; rw [rs_succ]; exact Nat.le_refl _
  ·have := ih h1; omega
theorem pl_lt {n a b c : Nat} (h1 : a < b) (h2 : b < n) (h3 : a < c) : pl n a b < rs n c := by
 have h := rs_mono n (show a + 1 ≤ c from h3)
 rw [rs_succ] at h
 unfold pl
 omega
theorem edges_n : ∀ n : Nat, n < 24 → rs n n = n * (n - 1) / 2 ∧ rs n n ≤ 255 := by decide +kernel
theorem bytes_k : ∀ n : Nat, n < 24 → ∀ k : Nat, k < 24 → k < n → ((k : Int) * ((n : Int) - 1) - ((k : Int) * ((k : Int) - 1)) / 2 = (rs n k : Nat)) := by decide +kernel
theorem rs_pos {n k : Nat} (h1 : 1 ≤ k) (h2 : k < n) : 1 ≤ rs n k := by
 have := rs_mono n h1
 have h3 : rs n 1 = n - 1 := by show 0 + (n - 1 - 0) = _; omega
 omega
end Go.Proofs.Ytjoghbmedfmioab.Tr

namespace Go.Proofs.Ytjoghbmedfmioab
open Go.RowKit Go.Maps Go.WideMaps
def MapF (w : World) (k e : TypeId) (q : IntKind) (b n : Nat) (f : Value → Option Int) : Prop :=
 ∃ D : DataW Unit, w.ownsMap Try.prog k (plainElem Try.prog e) b n D ∧ ∀ key kl, keyOf Try.prog k key = some kl → Maps.has D kl = (f key).isSome ∧ D.atKey kl (.lit (.int q 0)) = .lit (.int q ((f key).getD 0))
section
variable {w w' : World} {k e t : TypeId} {q : IntKind} {b n : Nat} {f : Value → Option Int}
theorem MapF.made (w : World) (k e : TypeId) (q : IntKind) : MapF (w.alloc (.map #[] 0)) k e q w.heap.size 0 fun _ => none :=
 ⟨_, World.ownsMap_made w _ k _, fun _ _ _ => ⟨rfl, rfl⟩⟩
theorem MapF.lt (h : MapF w k e q b n f) : b < w.heap.size := by obtain ⟨D, h, -⟩ := h; exact h.lt
theorem MapF.grown {row : Option Nat} (h : MapF w k e q b n f) (hg : w.grownBy w' row) (hne : some b ≠ row) : MapF w' k e q b n f := by
 obtain ⟨D, h1, h2⟩ := h
 exact ⟨D, h1.kept hg hne, h2⟩
theorem MapF.below (h : MapF w k e q b n f) (hb : Below w.heap.size w w') : MapF w' k e q b n f :=
 h.grown (row := none) ⟨hb.os, hb.tape, hb.output, hb.size, fun i hi _ => hb.block i hi⟩ (by simp)
theorem MapF.put (h : MapF w k e q b n f) (K : Keyed Try.prog k) (ht : Try.prog.underlying t = some (.map k e)) (he : Try.prog.underlying e = some (.int q)) (hn : n < maxLen) {key : Value} {kl : Lit} (hkey : keyOf Try.prog k key = some kl) (c : Int) (hw : (Lit.int q c).wf = true) :
  ∃ w', (Instr.mapUpdate t (.map (some b)) key (.int q c)).run Try.prog w = .ok () w' ∧ w.grownBy w' (some b) ∧ ∀ f' : Value → Option Int, f' key = some c → (∀ x, x ≠ key → f' x = f x) → MapF w' k e q b (n + 1) f' := by
 obtain ⟨D, h1, h2⟩ := h
 obtain ⟨w', hrun, ho, hg⟩ := h1.update K ht hn hkey (plainElem_int he hw)
 refine ⟨w', hrun, hg, fun f' hf1 hf2 => ⟨_, ho, fun x xl hx => ?_⟩⟩
 by_cases hxk : x = key
 ·subst hxk
  rw [hkey] at hx
  injection hx with hx
  subst hx
  rw [hf1, has_put_same h1.isMap (K.key hkey), atKey_put_same h1.isMap (K.key hkey)]
  exact ⟨rfl, rfl⟩
 ·have hne : xl ≠ kl := fun e => hxk (K.inj hx (e ▸ hkey))
  rw [hf2 x hxk, has_put_other hne, atKey_put_other hne]
  exact h2 x xl hx
end
def prV (a b : Int) : Value := .agg #[.int .i64 a, .int .i64 b]
theorem prV_inj {a b c d : Int} (h : prV a b = prV c d) : a = c ∧ b = d := by
 unfold prV at h
 injection h with h
 injection h with h
 injection h with h1 h
 injection h with h2 _
 injection h1 with _ h1
 injection h2 with _ h2
 exact ⟨h1, h2⟩
theorem pr_cells : Try.prog.cellsOf 83 = 2 := by kernel_rfl
theorem pr_arr : ArrKey Try.prog 83 3 2 := ⟨Try.underlying83, by kernel_rfl, by kernel_rfl, pr_cells⟩
theorem pr_row : (83 : TypeId) < Try.prog.types.size := of_decide_eq_true (by kernel_rfl)
theorem pos_succ {a n : Nat} (h : a < n) : ∃ m, n = m + 1 := ⟨n - 1, by omega⟩
theorem pr_types : ∃ m, Try.prog.types.size = m + 1 := pos_succ pr_row
theorem pr_laid : laidOutB Try.prog = true := by kernel_rfl
theorem pr_wide : (match Try.prog.underlying 83 with | some (.array _ _) | some (.struct _) => true | _ => false) = true := by rw [Try.underlying83]
set_option maxRecDepth 100000 in
theorem pr_keyed : Keyed Try.prog 83 := Keyed.of_law (deep_law_laid pr_laid (m := 2) (by omega) pr_row (by kernel_rfl) pr_wide)
theorem pr_key {a b : Int} (ha : -9223372036854775808 ≤ a ∧ a ≤ 9223372036854775807) (hb : -9223372036854775808 ≤ b ∧ b ≤ 9223372036854775807) : ∃ kl, keyOf Try.prog 83 (prV a b) = some kl :=
 ⟨_, keyOf_pair pr_arr Try.underlying3 pr_types (WalkArith.wf_i64 ha) (WalkArith.wf_i64 hb)⟩
end Go.Proofs.Ytjoghbmedfmioab

namespace Go.Proofs.Ytjoghbmedfmioab.Tr
open Go.RowKit Go.Shelf F8 Poly GF Rd Ms
attribute [local go_sem] Oper.semAt_some
structure Tc where
 b : Nat
 mb : Nat
 rb : Nat
 g : Nat
 A : Option Addr
 c : Nat
 n : Nat
 k : Nat
def Tc.cs (S : Tc) : Array Value := #[.int .i64 S.n, .int .i64 S.k, .map (some S.mb), .pointer (some ⟨S.rb, 0, none⟩)]
def Tc.E (S : Tc) : Nat := rs S.n S.n
def Tc.B (S : Tc) : Nat := rs S.n S.k
structure Tc.Ok (S : Tc) (w : World) : Prop where
 blk : Block w S.b 82 S.cs
 nb : S.b ≠ S.g
 nm : S.mb ≠ S.g
 k1 : 1 ≤ S.k
 kn : S.k < S.n
 n24 : S.n < 24
 map : ∃ m f, MapF w 83 3 .i64 S.mb m f ∧ ∀ a b : Nat, a < b → b < S.n → f (prV a b) = some ((pl S.n a b : Nat) : Int)
 cd : Cd w S.rb S.g S.A (pts S.E) S.E S.c S.B
section
variable {S : Tc} {w w' : World} (h : S.Ok w)
include h
theorem Tc.Ok.fld : FldP w (some ⟨S.g, 0, none⟩) := h.cd.fld
theorem Tc.Ok.past (hf : FldP w' (some ⟨S.g, 0, none⟩)) (hp : Past w.heap.size S.g w w') : S.Ok w' :=
 { h with
  blk := h.blk.past hp h.blk.lt h.nb
  cd := h.cd.past hf hp
  map := by
   obtain ⟨m, f, h1, h2⟩ := h.map
   exact ⟨m, f, h1.grown (row := some S.g) ⟨hp.os, hp.tape, hp.output, hp.size, fun i hi hn => hp.block i hi (fun e => hn (by rw [e]))⟩ (by simp; exact h.nm), h2⟩ }
theorem Tc.Ok.below (hb : Below w.heap.size w w') : S.Ok w' := h.past (h.fld.below hb) (Past.of_below hb _)
theorem Tc.Ok.cells : w.cell? ⟨S.b, 0, none⟩ = some (.int .i64 S.n) ∧ w.cell? ⟨S.b, 1, none⟩ = some (.int .i64 S.k) ∧ w.cell? ⟨S.b, 2, none⟩ = some (.map (some S.mb)) ∧ w.cell? ⟨S.b, 3, none⟩ = some (.pointer (some ⟨S.rb, 0, none⟩)) :=
 ⟨h.blk.cell 0, h.blk.cell 1, h.blk.cell 2, h.blk.cell 3⟩
end
theorem none_c {w : World} {b n : Nat} (c0 : w.cell? ⟨b, 0, none⟩ = some (.int .i64 n)) (hn : 0 < n) : Calls Try.prog 28 #[.pointer (some ⟨b, 0, none⟩)] w fun e w' => e = .returned (.bool false) ∧ w = w' := by
 have hk2 : ((n : Int) == 0) = false := by simp; omega
 go_enter Try.func28, Try.ntmps28
 go_wp2
 go_ret
 exact ⟨rfl, rfl⟩
set_option maxRecDepth 100000 in
set_option maxHeartbeats 1000000 in
theorem b_c {w : World} {b n k : Nat} (c0 : w.cell? ⟨b, 0, none⟩ = some (.int .i64 n)) (c1 : w.cell? ⟨b, 1, none⟩ = some (.int .i64 k)) (hn : n < 24) (hk : k < n) : Calls Try.prog 16 #[.pointer (some ⟨b, 0, none⟩)] w fun e w' => e = .returned (.int .i64 (rs n k : Nat)) ∧ Below w.heap.size w w' := by
 have H := Lib.hid (none_c c0 (by omega))
 have hB := bytes_k n hn k (by omega) hk
 obtain ⟨q, hq⟩ : ∃ q, rs n k = q := ⟨_, rfl⟩
 rw [hq] at hB ⊢
 obtain ⟨u, hu⟩ : ∃ u : Nat, (k : Int) * ((n : Int) - 1) = (u : Int) := ⟨k * (n - 1), by rw [Int.natCast_mul, Int.natCast_sub (by omega)]; rfl⟩
 obtain ⟨v, hv⟩ : ∃ v : Nat, (k : Int) * ((k : Int) - 1) = (v : Int) := by
  rcases Nat.eq_zero_or_pos k with h0 | h0
  ·exact ⟨0, by rw [h0]; rfl⟩
  ·exact ⟨k * (k - 1), by rw [Int.natCast_mul, Int.natCast_sub (by omega)]; rfl⟩
 have hu9 : u ≤ 23 * 23 := by
  have : (k : Int) * ((n : Int) - 1) ≤ 23 * 23 := Int.mul_le_mul (by omega) (by omega) (by omega) (by omega)
  omega
 have hv9 : v ≤ 23 * 23 := by
  have : (k : Int) * ((k : Int) - 1) ≤ 23 * 23 := by
   rcases Nat.eq_zero_or_pos k with h0 | h0
   ·rw [h0]; decide
   ·exact Int.mul_le_mul (by omega) (by omega) (by omega) (by omega)
  omega
 rw [hu, hv] at hB
 have hw1 : IntKind.i64.wrap ((n : Int) - 1) = (n : Int) - 1 := IntWalk.i64_in _ (by omega)
 have hw2 : IntKind.i64.wrap ((k : Int) * ((n : Int) - 1)) = (u : Int) := by rw [hu]; exact IntWalk.i64_in _ (by omega)
 have hw3 : IntKind.i64.wrap ((k : Int) - 1) = (k : Int) - 1 := IntWalk.i64_in _ (by omega)
 have hw4 : IntKind.i64.wrap ((k : Int) * ((k : Int) - 1)) = (v : Int) := by rw [hv]; exact IntWalk.i64_in _ (by omega)
 obtain ⟨z, hz⟩ : ∃ z : Nat, v / 2 = z := ⟨_, rfl⟩
 have hw5 : IntKind.i64.wrap ((v : Int) / 2) = (z : Int) := by rw [show (v : Int) / 2 = (z : Int) by omega]; exact IntWalk.i64_in _ (by omega)
 have hw6 : IntKind.i64.wrap ((u : Int) - (z : Int)) = (q : Int) := by rw [show (u : Int) - (z : Int) = (q : Int) by omega]; exact IntWalk.i64_in _ (by omega)
 clear hq hB hu hv hz
 go_enter Try.func16, Try.ntmps16
 go_wp2_with (go_at_call 28; refine H.out.mono ?_; rintro e w1 ⟨rfl, rfl⟩)
 go_region
 all_goals
  go_wp2
  go_ret
  exact ⟨rfl, (Below.refl _ _).drew⟩
section
variable {S : Tc} {w w' : World} (h : S.Ok w)
include h
theorem isNone_calls : Calls Try.prog 28 #[.pointer (some ⟨S.b, 0, none⟩)] w fun e w' => e = .returned (.bool false) ∧ w = w' := none_c h.cells.1 (by have := h.kn; omega)
theorem b_calls : Calls Try.prog 16 #[.pointer (some ⟨S.b, 0, none⟩)] w fun e w' => e = .returned (.int .i64 (S.B : Nat)) ∧ Below w.heap.size w w' := b_c h.cells.1 h.cells.2.1 h.n24 h.kn
theorem alpha_calls : Calls Try.prog 15 #[.pointer (some ⟨S.b, 0, none⟩)] w fun e w' => e = .returned (.int .i64 (S.n - 1 : Nat)) ∧ w = w' := by
 obtain ⟨c0, -⟩ := h.cells
 have H := Lib.hid (isNone_calls h)
 obtain ⟨a, ha⟩ : ∃ a, S.n = a + 1 := ⟨S.n - 1, by have := h.kn; omega⟩
 have hn := h.n24
 rw [ha] at c0 hn ⊢
 have hw : IntKind.i64.wrap (((a + 1 : Nat) : Int) - 1) = (a : Int) := by rw [show ((a + 1 : Nat) : Int) - 1 = (a : Int) by omega]; exact IntWalk.i64_in _ (by omega)
 obtain ⟨z, hz⟩ : ∃ z : Int, ((a + 1 : Nat) : Int) = z := ⟨_, rfl⟩
 rw [hz] at c0 hw
 clear h ha hz
 go_enter Try.func15, Try.ntmps15
 go_wp2_with (go_at_call 28; refine H.out.mono ?_; rintro e w1 ⟨rfl, rfl⟩)
 go_ret
 exact ⟨rfl, rfl⟩
end
end Go.Proofs.Ytjoghbmedfmioab.Tr
