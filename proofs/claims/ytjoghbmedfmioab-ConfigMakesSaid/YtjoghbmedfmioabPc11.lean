/- Of the program, joined: TrNew, PtUnlike, LoMath, LoMath2, ElCode, SySym, LoCode1, LoNew, PolyCode8. -/
import Derived.Test.YtjoghbmedfmioabPc10
import Derived.Test.YtjoghbmedfmioabPc09
import Derived.Deep.RegionHeld
import Derived.Test.YtjoghbmedfmioabPc05
import Derived.Test.YtjoghbmedfmioabPc07
import Derived.StillTailTactics
namespace Go.Proofs.Ytjoghbmedfmioab.Tr
open Go.RowKit Go.Shelf F8 Poly GF Rd Ms
attribute [local go_sem] Oper.semAt_some
theorem own_not_map {w : World} {B : Nat} {e k e' : TypeId} {v : Value} {xs : List Value} {q : IntKind} {b n : Nat} {f : Value → Option Int} (h : Own w B e v xs) (hm : MapF w k e' q b n f) : v.ownBlock ≠ some b := fun hv => by
 obtain ⟨D, ⟨es, clock, hb, -⟩, -⟩ := hm
 rcases h.2 with ⟨rfl, -⟩ | ⟨g, cap, cur, rfl, -, hh, -⟩
 ·simp [Value.ownBlock] at hv
 ·simp only [Value.ownBlock, Option.some.injEq] at hv
  subst hv
  rw [hb] at hh
  cases hh
theorem own_not_block {w : World} {B : Nat} {e t : TypeId} {v : Value} {xs : List Value} {b : Nat} {cs : Array Value} (h : Own w B e v xs) (hm : Block w b t cs) (hne : e ≠ t) : v.ownBlock ≠ some b := fun hv => by
 rcases h.2 with ⟨rfl, -⟩ | ⟨g, cap, cur, rfl, -, hh, -⟩
 ·simp [Value.ownBlock] at hv
 ·simp only [Value.ownBlock, Option.some.injEq] at hv
  subst hv
  unfold Block at hm
  rw [hm] at hh
  injection hh with hh
  injection hh with _ hh
  exact hne hh.symm
structure NSt (w : World) (g n k i j cnt : Nat) (ov : Value) (V : World) : Prop where
 own : Own V w.heap.size 5 ov (bv (bs (pts cnt)))
 fld : FldP V (some ⟨g, 0, none⟩)
 map : ∃ f, MapF V 83 3 .i64 w.heap.size cnt f ∧ ∀ a b : Nat, a < b → b < n → (a < i ∨ (a = i ∧ b < j)) → f (prV a b) = some ((pl n a b : Nat) : Int)
 blk : Block V (w.heap.size + 1) 82 #[.int .i64 n, .int .i64 k, .map (some w.heap.size), .pointer none]
 past : Past w.heap.size g w V
section
variable {w : World} {g n k i j cnt : Nat} {ov : Value} {V V' : World}
theorem NSt.put (h : NSt w g n k i j cnt ov V) (hg : g < w.heap.size) (hij : i < j) (hj : j < n) (hn : n < 24) (hc : cnt = pl n i j) :
  ∃ V', (Instr.mapUpdate 80 (.map (some w.heap.size)) (.agg #[.int .i64 (i : Nat), .int .i64 (j : Nat)]) (.int .i64 (cnt : Nat))).run Try.prog V = .ok () V' ∧
   Own V' w.heap.size 5 ov (bv (bs (pts cnt))) ∧ FldP V' (some ⟨g, 0, none⟩) ∧ (∃ f, MapF V' 83 3 .i64 w.heap.size (cnt + 1) f ∧ ∀ a b : Nat, a < b → b < n → (a < i ∨ (a = i ∧ b < j + 1)) → f (prV a b) = some ((pl n a b : Nat) : Int)) ∧
   Block V' (w.heap.size + 1) 82 #[.int .i64 n, .int .i64 k, .map (some w.heap.size), .pointer none] ∧ Past w.heap.size g w V' ∧ V.heap.size ≤ V'.heap.size := by
 obtain ⟨f, h1, h2⟩ := h.map
 obtain ⟨kl, hk⟩ := pr_key (a := (i : Int)) (b := (j : Int)) (by omega) (by omega)
 have he : cnt < 1000000 := by
  have h3 := pl_lt hij hj (show i < n by omega)
  have := (edges_n n hn).2
  omega
 obtain ⟨V', hrun, hgr, hf⟩ := h1.put pr_keyed Try.underlying80 Try.underlying3 (by simp only [maxLen]; omega) hk (cnt : Int) (WalkArith.wf_i64 (by omega))
 have hlt := h1.lt
 refine ⟨V', hrun, h.own.grown hgr (.inr (own_not_map h.own h1)), FldP.of (h.fld.fld.kept_grown hgr (B := w.heap.size) hg (fun k hk => by cases hk; exact Nat.le_refl _)), ?_, ?_, h.past.grown hgr h.past.size (fun k hk => by cases hk; exact Nat.le_refl _), hgr.size⟩
 ·classical
  refine ⟨fun x => if x = prV i j then some (cnt : Int) else f x, hf _ (if_pos rfl) (fun x hx => if_neg hx), fun a b hab hbn hor => ?_⟩
  show (if prV (a : Int) (b : Int) = prV i j then some (cnt : Int) else f (prV a b)) = _
  by_cases e : prV (a : Int) (b : Int) = prV i j
  ·rw [if_pos e]
   obtain ⟨e1, e2⟩ := prV_inj e
   rw [hc, show a = i by omega, show b = j by omega]
  ·rw [if_neg e]
   refine h2 a b hab hbn ?_
   rcases hor with h3 | ⟨h3, h4⟩
   ·exact .inl h3
   ·refine .inr ⟨h3, ?_⟩
    have : b ≠ j := fun e2 => e (by rw [h3, e2])
    omega
 ·exact (hgr.block _ h.blk.lt (by simp)).trans h.blk
end
def NewG (w : World) (g n k : Nat) (e : Ending) (w' : World) : Prop :=
 ∃ S : Tc, S.Ok w' ∧ S.g = g ∧ S.n = n ∧ S.k = k ∧ w.heap.size ≤ S.b ∧ e = .returned (.tuple #[.pointer (some ⟨S.b, 0, none⟩), .int .i64 0]) ∧ Past w.heap.size g w w'
set_option maxRecDepth 100000 in
set_option maxHeartbeats 8000000 in
theorem new_good (g n k : Nat) (h1 : 1 ≤ k) (h2 : k < n) (h3 : n < 24) (w : World) (hf : FldP w (some ⟨g, 0, none⟩)) :
  Calls Try.prog 14 #[.pointer (some ⟨g, 0, none⟩), .int .i64 n, .int .i64 k] w (NewG w g n k) := by
 have hmm := @run_makeMap Try.prog
 have hg := hf.fld.lt
 have HF := Lib.hid hf
 obtain ⟨v, hv⟩ : ∃ v : Nat, (n : Int) * ((n : Int) - 1) = (v : Int) := ⟨n * (n - 1), by rw [Int.natCast_mul, Int.natCast_sub (by omega)]; rfl⟩
 have hv9 : v ≤ 23 * 22 := by
  have : (n : Int) * ((n : Int) - 1) ≤ 23 * 22 := Int.mul_le_mul (by omega) (by omega) (by omega) (by omega)
  omega
 have hw1 : IntKind.i64.wrap ((n : Int) - 1) = (n : Int) - 1 := IntWalk.i64_in _ (by omega)
 have hw2 : IntKind.i64.wrap ((n : Int) * ((n : Int) - 1)) = (v : Int) := by rw [hv]; exact IntWalk.i64_in _ (by omega)
 obtain ⟨z, hz⟩ : ∃ z : Nat, v / 2 = z := ⟨_, rfl⟩
 have hw5 : IntKind.i64.wrap ((v : Int) / 2) = (z : Int) := by rw [show (v : Int) / 2 = (z : Int) by omega]; exact IntWalk.i64_in _ (by omega)
 have hz9 : z ≤ 253 := by omega
 have d1 : decide ((k : Int) < 1) = false := by simp; omega
 have d2 : decide ((n : Int) ≤ (k : Int)) = false := by simp; omega
 have d2' : decide (n ≤ k) = false := by simp; omega
 have d3 : decide ((n : Int) > 255) = false := by simp; omega
 have d4 : decide ((z : Int) > 255) = false := by simp; omega
 clear hv hz hf
 go_enter Try.func14, Try.ntmps14
 go_wp2
 go_loopw [9, 41] (fun ov iv wr => ∃ i : Nat, i ≤ n ∧ iv = .int .i64 i ∧ Hid (NSt w g n k i (i + 1) (rs n i) ov wr)) (fun _ iv _ => n - (intOf iv).toNat)
 case atStart =>
  have hb1 : Below w.heap.size w (w.alloc (.map #[] 0)) := (Below.refl _ _).alloc (Nat.le_refl _) _
  have hb2 : Below w.heap.size w ((w.alloc (.map #[] 0)).alloc (.cells #[.int .i64 n, .int .i64 k, .map (some w.heap.size), .pointer none] 82)) := hb1.alloc (by simp) _
  refine ⟨0, by omega, rfl, Lib.hid ⟨Own.nil _ _ _, HF.out.below hb2, ⟨_, (MapF.made w _ _ _).below ((Below.refl _ _).alloc (Nat.le_refl _) _), fun a b h4 h5 h6 => by omega⟩, ?_, Past.of_below hb2 _⟩⟩
  have h4 := Block.new (w.alloc (.map #[] 0)) 82 #[.int .i64 n, .int .i64 k, .map (some w.heap.size), .pointer none]
  rw [World.size_alloc] at h4
  exact h4
 case round =>
  clear hw1 hw2 hw5 hmm
  obtain ⟨i, hi, rfl, HS⟩ := hrel
  by_cases hin : i < n
  ·have hd : decide (i < n) = true := by simpa using hin
   have hd' : decide ((i : Int) < (n : Int)) = true := by simp; omega
   go_wp2
   go_loopw [9, 11] (fun ov jv wr => ∃ j : Nat, i + 1 ≤ j ∧ j ≤ n ∧ jv = .int .i64 j ∧ Hid (NSt w g n k i j (rs n i + (j - i - 1)) ov wr)) (fun _ jv _ => n - (intOf jv).toNat)
   case atStart =>
    refine ⟨i + 1, Nat.le_refl _, by omega, by simp, Lib.hid ?_⟩
    rw [show rs n i + (i + 1 - i - 1) = rs n i by omega]
    exact HS.out
   case round =>
    clear HS
    obtain ⟨j, hij, hj, rfl, HS⟩ := hrel
    by_cases hjn : j < n
    ·obtain ⟨cnt, hcnt⟩ : ∃ cnt, rs n i + (j - i - 1) = cnt := ⟨_, rfl⟩
     have hcn2 : cnt + 1 = rs n i + (j + 1 - i - 1) := by omega
     rw [hcnt] at HS
     obtain ⟨V', hrun, hown, hfl, hmp, hbl, hpa, hsz⟩ := HS.out.put hg (by omega) hjn h3 hcnt.symm
     obtain ⟨A1, c1, rfl, hc1⟩ := Own.shape HS.out.own
     rw [pts_length] at hc1 hown ⊢
     have hcb : wr.cell? ⟨w.heap.size + 1, 2, none⟩ = some (.map (some w.heap.size)) := HS.out.blk.cell 2
     have hce : cnt < 1000 := by
      have h4 := pl_lt (n := n) (show i < j by omega) hjn (show i < n by omega)
      have := (edges_n n h3).2
      unfold pl at h4
      omega
     have HO2 := Lib.hid hown
     have HF2 := Lib.hid hfl
     have HM2 := Lib.hid hmp
     have HB2 := Lib.hid hbl
     have HP2 := Lib.hid hpa
     have HCn := Lib.hid hcnt
     have hg2 := hfl.fld.lt
     have hin' : (i : Int) < (n : Int) := by omega
     have hsw := HS.out.past.size
     clear hown hfl hmp hbl hpa HS hcnt
     go_wp2_with fail
     refine (GF.exp_calls (some ⟨g, 0, none⟩) (cnt : Int) (by omega) (by omega) V' HF2.out).mono ?_
     rintro e w2 ⟨rfl, hf2, hp2⟩
     rw [ge_nat]
     have hp2' : Past V'.heap.size g V' w2 := hp2
     have hs2 := hp2'.size
     have hgr2 : V'.grownBy w2 (some g) := ⟨hp2'.os, hp2'.tape, hp2'.output, hp2'.size, fun i hi hn => hp2'.block i hi (fun e => hn (by rw [e]))⟩
     obtain ⟨f, hm1, hm2⟩ := HM2.out
     have hO3 := own_keep HO2.out HF2.out hp2
     have hM3 := hm1.grown hgr2 (by simp; omega)
     have hB3 := HB2.out.past hp2' HB2.out.lt (by omega)
     have HO3 := Lib.hid (hO3.alloc (.cells #[.int .u8 (gp cnt : Nat)] 5))
     have HM3 := Lib.hid (hM3.below ((Below.refl _ _).alloc (Nat.le_refl _) (.cells #[.int .u8 (gp cnt : Nat)] 5)))
     have HB3 := Lib.hid (hB3.alloc (.cells #[.int .u8 (gp cnt : Nat)] 5))
     have HF3 := Lib.hid (hf2.fld.alloc (.cells #[.int .u8 (gp cnt : Nat)] 5))
     have HP3 := Lib.hid ((HP2.out.trans (hp2'.mono (by omega))).alloc (by omega) (.cells #[.int .u8 (gp cnt : Nat)] 5))
     have HMm := Lib.hid hm2
     have hwz : w.heap.size ≤ w2.heap.size := by omega
     have HL : Hid ((bv (bs (pts cnt))).length = cnt) := Lib.hid (by rw [bvs_length, pts_length])
     have HT : Hid (bv (bs (pts cnt)) ++ bv [gp cnt] = bv (bs (pts (cnt + 1)))) := Lib.hid (by rw [pts_succ, bvs_snoc])
     clear hf2 hp2 hp2' hgr2 hm1 hm2 hO3 hM3 hB3 hrun hcb
     go_wp2_with (at_builtin; refine wpList_app _ rfl _ _ _ rfl w.heap.size 5 _ 1 Try.underlying65 info_u8 rfl (by omega) _ _ rfl HO3.out (some ⟨w2.heap.size, 0, none⟩) 1 1 (bv [gp cnt]) rfl rfl (Row.new _ _ _ _) (bv_one _) (by rw [HL.out]; omega) (by simp; omega) ?_; rintro v2 w3 hown hg3 -)
     rw [HT.out] at hown
     have hrow : ∀ k, Value.ownBlock _ = some k → w.heap.size ≤ k := fun k hk => (HO3.out.lt k hk).1
     have HS4 : Hid (NSt w g n k i (j + 1) (rs n i + (j + 1 - i - 1)) v2 w3) := Lib.hid (by
      rw [← hcn2]
      exact ⟨hown, FldP.of (HF3.out.kept_grown hg3 hg hrow), ⟨_, HM3.out.grown hg3 (own_not_map HO3.out HM3.out).symm, HMm.out⟩, (hg3.block _ HB3.out.lt (own_not_block HO3.out HB3.out (by decide)).symm).trans HB3.out, HP3.out.grown hg3 (by simp; omega) hrow⟩)
     clear hown hg3 hrow
     go_roundw
     case rel => exact ⟨j + 1, by omega, by omega, by go_num, HS4⟩
     case measure => simp [intOf]; omega
    ·have hj2 : j = n := by omega
     have hS := HS.out
     rw [hj2, show rs n i + (n - i - 1) = rs n (i + 1) by rw [rs_succ]; omega] at hS
     have HS4 : Hid (NSt w g n k (i + 1) (i + 1 + 1) (rs n (i + 1)) u9 wr) := Lib.hid ⟨hS.own, hS.fld, by
      obtain ⟨f, hm1, hm2⟩ := hS.map
      exact ⟨f, hm1, fun a b h4 h5 h6 => hm2 a b h4 h5 (by omega)⟩, hS.blk, hS.past⟩
     have hjn' : ¬ ((j : Int) < (n : Int)) := by omega
     clear hS HS
     go_wp2
     go_roundw
     case rel => exact ⟨i + 1, by omega, by go_num, HS4⟩
     case measure => simp [intOf]; omega
  ·have hi2 : i = n := by omega
   have hS := HS.out
   rw [hi2] at hS
   obtain ⟨A1, c1, rfl, hc1⟩ := Own.shape hS.own
   have hown := hS.own
   rw [pts_length] at hc1 hown ⊢
   obtain ⟨E, hE⟩ : ∃ E, rs n n = E := ⟨_, rfl⟩
   obtain ⟨B, hB⟩ : ∃ B, rs n k = B := ⟨_, rfl⟩
   have hE9 : E ≤ 255 := by rw [← hE]; exact (edges_n n h3).2
   have hB1 : 1 ≤ B := by rw [← hB]; exact rs_pos h1 h2
   have hBE : B ≤ E := by rw [← hB, ← hE]; exact rs_mono n (by omega)
   rw [hE] at hc1 hown ⊢
   have hbl := hS.blk
   have hsz := hS.past.size
   have HBc := Lib.hid (b_c (b := w.heap.size + 1) (n := n) (k := k) (hbl.cell 0) (hbl.cell 1) h3 h2)
   rw [hB] at HBc
   have HO := Lib.hid hown
   have HSt := Lib.hid hS
   have hin' : ¬ ((i : Int) < (n : Int)) := by omega
   clear hS hown hbl HS
   go_wp2_with fail
   refine HBc.out.mono ?_
   rintro e w2 ⟨rfl, hb2⟩
   have HO2 := Lib.hid (HO.out.below hb2)
   have HF2 := Lib.hid (HSt.out.fld.below hb2)
   have HB2 := Lib.hid (HSt.out.blk.below hb2 HSt.out.blk.lt)
   have HP2 := Lib.hid (HSt.out.past.trans (Past.of_below (hb2.mono hsz) g))
   have HM2 : Hid (∃ m f, MapF w2 83 3 .i64 w.heap.size m f ∧ ∀ a b : Nat, a < b → b < n → f (prV a b) = some ((pl n a b : Nat) : Int)) := Lib.hid (by
    obtain ⟨f, hm1, hm2⟩ := HSt.out.map
    exact ⟨_, f, hm1.below hb2, fun a b h4 h5 => hm2 a b h4 h5 (by omega)⟩)
   have hs2 := hb2.size
   clear hb2 HO HSt HBc
   go_wp2_with fail
   refine (Rd.new_calls g A1 (pts E) E c1 (B : Int) _ (pts_length E) (Own.bytes HO2.out) hc1 (by omega) HF2.out).mono ?_
   rintro e w3 (⟨-, rb, A, c, q, hq, rfl, hb, hA, hC, hB3⟩ | ⟨h0, -⟩)
   rotate_left
   ·exact absurd h0 (by rw [show newR (pts E) (B : Int) = 0 from if_pos ⟨pts_nodup hE9, by omega, by rw [pts_length]; omega⟩]; decide)
   obtain rfl : q = B := by omega
   have hbk := HB2.out.below hB3 HB2.out.lt
   have hc3 : w3.cell? ⟨w.heap.size + 1, 3, none⟩ = some (.pointer none) := hbk.cell 3
   have hfz := hbk.frozen 3
   have hb2l := HB2.out.lt
   have HX : Hid (NewG w g n k (.returned (.tuple #[.pointer (some ⟨w.heap.size + 1, 0, none⟩), .int .i64 0])) (w3.setCell ⟨w.heap.size + 1, 3, none⟩ (.pointer (some ⟨rb, 0, none⟩)))) := Lib.hid (by
    have hgs := grown_set w3 ⟨w.heap.size + 1, 3, none⟩ (.pointer (some ⟨rb, 0, none⟩))
    have hpt : Past w3.heap.size (w.heap.size + 1) w3 (w3.setCell ⟨w.heap.size + 1, 3, none⟩ (.pointer (some ⟨rb, 0, none⟩))) := ⟨hgs.os, hgs.tape, hgs.output, hgs.size, fun x hx hn => hgs.block x hx (fun e => hn (by cases e; rfl))⟩
    refine ⟨⟨w.heap.size + 1, w.heap.size, rb, g, A, c, n, k⟩, ⟨hbk.set_ 3 _, by show w.heap.size + 1 ≠ g; omega, by show w.heap.size ≠ g; omega, h1, h2, h3, ?_, ?_⟩, rfl, rfl, rfl, by show w.heap.size ≤ w.heap.size + 1; omega, rfl, ?_⟩
    ·obtain ⟨m, f, hm1, hm2⟩ := HM2.out
     exact ⟨m, f, (hm1.below hB3).grown hgs (by simp), hm2⟩
    ·show Cd _ rb g A (pts (rs n n)) (rs n n) c (rs n k)
     rw [hE, hB]
     exact hC.turn hpt (Nat.le_refl _) (by omega) (by omega) (fun x hx => by have := hA x hx; omega)
    ·exact (HP2.out.trans (Past.of_below (hB3.mono (by omega)) g)).setCell (.inr (by show w.heap.size ≤ w.heap.size + 1; omega)) _)
   clear hC hB3 hA hbk HM2 HP2 HO2 HF2 HB2
   go_wp2
   go_ret2
   exact HX.out
end Go.Proofs.Ytjoghbmedfmioab.Tr

namespace Go.Proofs.Ytjoghbmedfmioab.Pt
open GF
section
variable {s t G : Nat} (hst : s * t = 255) (hG : G ≤ t)
include hst
theorem gidx_lt {k : Nat} (hG : G ≤ t) (hk : k < G * s) : gidx s t k < 255 := by
 have hs : 0 < s := by
  rcases Nat.eq_zero_or_pos s with h | h
  ·subst h; simp at hst
  ·exact h
 unfold gidx
 have h1 : k / s < G := (Nat.div_lt_iff_lt_mul hs).2 hk
 have h2 : k % s < s := Nat.mod_lt _ hs
 have h3 : k % s * t + t ≤ s * t := by
  have := Nat.mul_le_mul_right t (show k % s + 1 ≤ s by omega)
  rwa [Nat.add_mul, Nat.one_mul] at this
 omega
theorem gidx_inj {i k : Nat} (hG : G ≤ t) (hi : i < G * s) (hk : k < G * s) (h : gidx s t i = gidx s t k) : i = k := by
 have hs : 0 < s := by
  rcases Nat.eq_zero_or_pos s with h | h
  ·subst h; simp at hst
  ·exact h
 unfold gidx at h
 have h1 : i / s < t := Nat.lt_of_lt_of_le ((Nat.div_lt_iff_lt_mul hs).2 hi) hG
 have h2 : k / s < t := Nat.lt_of_lt_of_le ((Nat.div_lt_iff_lt_mul hs).2 hk) hG
 have ht : 0 < t := Nat.lt_of_le_of_lt (Nat.zero_le _) h1
 have e1 : (i / s + i % s * t) / t = i % s := by rw [Nat.add_mul_div_right _ _ ht, Nat.div_eq_of_lt h1, Nat.zero_add]
 have e2 : (k / s + k % s * t) / t = k % s := by rw [Nat.add_mul_div_right _ _ ht, Nat.div_eq_of_lt h2, Nat.zero_add]
 have e3 : i % s = k % s := by rw [← e1, ← e2, h]
 have e4 : i / s = k / s := by rw [e3] at h; omega
 rw [← Nat.div_add_mod i s, ← Nat.div_add_mod k s, e3, e4]
theorem pts_unlike {i k : Nat} (hG : G ≤ t) (hi : i < G * s) (hk : k < G * s) (h : gp (gidx s t i) = gp (gidx s t k)) : i = k :=
 gidx_inj hst hG hi hk (gp_inj (gidx_lt hst hG hi) (gidx_lt hst hG hk) h)
end
end Go.Proofs.Ytjoghbmedfmioab.Pt

namespace Go.Proofs.Ytjoghbmedfmioab.Lo
open F8 Poly Rd GF Ms
def cpts (s G : Nat) : List F8 := (List.range (G * s)).map fun k => ⟨gp (Pt.gidx s (255 / s) k), gp_lt _⟩
theorem cpts_length (s G : Nat) : (cpts s G).length = G * s := by simp [cpts]
theorem cpts_bs (s G : Nat) : bs (cpts s G) = Pt.gpts s (255 / s) G := by simp [bs, cpts, Pt.gpts, List.map_map, Function.comp_def]
theorem cpts_nodup {s G : Nat} (hst : s * (255 / s) = 255) (hG : G ≤ 255 / s) : (cpts s G).Nodup := by
 unfold cpts
 rw [List.nodup_iff_pairwise_ne, List.pairwise_map]
 refine (List.nodup_iff_pairwise_ne.1 List.nodup_range).imp_of_mem fun {a b} ha hb hne e => hne ?_
 exact Pt.pts_unlike hst hG (List.mem_range.1 ha) (List.mem_range.1 hb) (congrArg F8.n e)
structure Lp (n k r q G : Nat) : Prop where
 r1 : 1 ≤ r
 st : (r + 1) * (255 / (r + 1)) = 255
 en : n = G * (r + 1)
 gt : G ≤ 255 / (r + 1)
 ek : k = q * r
 q1 : 1 ≤ q
 le : q * (r + 1) ≤ n + 1
end Go.Proofs.Ytjoghbmedfmioab.Lo

namespace Go.Proofs.Ytjoghbmedfmioab.Lo
open Go.RowKit Go.Shelf F8 Poly GF Rd Ms
attribute [local go_sem] Oper.semAt_some
structure Lc where
 b : Nat
 rb : Nat
 g : Nat
 A : Option Addr
 c : Nat
 A2 : Option Addr
 c2 : Nat
 n : Nat
 k : Nat
 r : Nat
 q : Nat
 G : Nat
def Lc.xs (S : Lc) : List F8 := cpts (S.r + 1) S.G
def Lc.T (S : Lc) : Nat := S.q * (S.r + 1) - 1
def Lc.cs (S : Lc) : Array Value := #[.pointer (some ⟨S.g, 0, none⟩), .slice S.A S.n S.c, .pointer (some ⟨S.rb, 0, none⟩), .int .i64 S.k, .int .i64 S.r]
structure Lc.Ok (S : Lc) (w : World) : Prop where
 blk : Block w S.b 87 S.cs
 nb : S.b ≠ S.g
 par : Lp S.n S.k S.r S.q S.G
 bx : BF S.g w S.A S.xs
 cap : S.n ≤ S.c
 cd : Cd w S.rb S.g S.A2 S.xs S.n S.c2 S.T
section
variable {S : Lc} {w w' : World} (h : S.Ok w)
include h
theorem Lc.Ok.fld : FldP w (some ⟨S.g, 0, none⟩) := h.cd.fld
theorem Lc.Ok.past (hf : FldP w' (some ⟨S.g, 0, none⟩)) (hp : Past w.heap.size S.g w w') : S.Ok w' :=
 { h with blk := h.blk.past hp h.blk.lt h.nb, bx := h.bx.past hp, cd := h.cd.past hf hp }
theorem Lc.Ok.below (hb : Below w.heap.size w w') : S.Ok w' := h.past (h.fld.below hb) (Past.of_below hb _)
theorem Lc.Ok.cells : w.cell? ⟨S.b, 0, none⟩ = some (.pointer (some ⟨S.g, 0, none⟩)) ∧ w.cell? ⟨S.b, 1, none⟩ = some (.slice S.A S.n S.c) ∧ w.cell? ⟨S.b, 2, none⟩ = some (.pointer (some ⟨S.rb, 0, none⟩)) ∧ w.cell? ⟨S.b, 3, none⟩ = some (.int .i64 S.k) ∧ w.cell? ⟨S.b, 4, none⟩ = some (.int .i64 S.r) :=
 ⟨h.blk.cell 0, h.blk.cell 1, h.blk.cell 2, h.blk.cell 3, h.blk.cell 4⟩
end
theorem Lp.nums {n k r q G : Nat} (h : Lp n k r q G) : r + 1 ≤ 255 ∧ n ≤ 255 ∧ 1 ≤ n ∧ k ≤ 255 ∧ 1 ≤ k ∧ 1 ≤ q * (r + 1) - 1 ∧ q * (r + 1) - 1 ≤ n ∧ q ≤ 255 ∧ 1 ≤ G := by
 have h1 := h.r1
 have h2 : 1 ≤ 255 / (r + 1) := by
  rcases Nat.eq_zero_or_pos (255 / (r + 1)) with e | e
  ·have := h.st; rw [e] at this; simp at this
  ·exact e
 have h3 : r + 1 ≤ 255 := by
  have := Nat.le_mul_of_pos_right (r + 1) h2
  have := h.st
  omega
 have h4 : n ≤ 255 := by
  have := Nat.mul_le_mul_right (r + 1) h.gt
  rw [Nat.mul_comm (255 / (r + 1)), h.st, ← h.en] at this
  exact this
 have h5 : q * r ≤ q * (r + 1) := Nat.mul_le_mul_left q (by omega)
 have h6 : q * 2 ≤ q * (r + 1) := Nat.mul_le_mul_left q (by omega)
 have h7 : q * (r + 1) = q * r + q := by rw [Nat.mul_succ]
 have h8 : q * 1 ≤ q * r := Nat.mul_le_mul_left q h1
 have hq := h.q1
 have hl := h.le
 have hk := h.ek
 have hn1 : 1 ≤ n := by omega
 refine ⟨h3, h4, hn1, by omega, by omega, by omega, by omega, by omega, ?_⟩
 rcases Nat.eq_zero_or_pos G with e | e
 ·have := h.en; rw [e] at this; simp at this; omega
 ·exact e
section
variable {S : Lc} {w : World} (h : S.Ok w)
include h
theorem isNone_calls : Calls Try.prog 30 #[.pointer (some ⟨S.b, 0, none⟩)] w fun e w' => e = .returned (.bool false) ∧ w = w' := by
 obtain ⟨-, -, -, c3, -⟩ := h.cells
 have hk2 : ((S.k : Int) == 0) = false := by have := h.par.nums; simp; omega
 go_enter Try.func30, Try.ntmps30
 go_wp2
 go_ret
 exact ⟨rfl, rfl⟩
theorem tells_calls : Calls Try.prog 18 #[.pointer (some ⟨S.b, 0, none⟩)] w fun e w' => e = .returned (.int .i64 (S.T : Nat)) ∧ w = w' := by
 obtain ⟨-, -, c2, -, -⟩ := h.cells
 go_enter Try.func18, Try.ntmps18
 go_wp2_with (first
  | (go_at_call 30; refine (isNone_calls h).mono ?_; rintro e w1 ⟨rfl, rfl⟩)
  | (go_at_call 31; refine (Rd.k_calls h.cd).mono ?_; rintro e w1 ⟨rfl, rfl⟩))
 go_ret
 exact ⟨rfl, rfl⟩
end
end Go.Proofs.Ytjoghbmedfmioab.Lo

namespace Go.Proofs.Ytjoghbmedfmioab.Lo
open Go.RowKit Go.Shelf F8 Poly GF Rd Ms
attribute [local go_sem] Oper.semAt_some
def Good (n k r : Int) : Prop := 1 ≤ r ∧ r ≤ 254 ∧ (r + 1) ∣ 255 ∧ (r + 1) ∣ n ∧ n ≤ 255 ∧ 1 ≤ k ∧ r ∣ k ∧ k + k / r - 1 ≤ n
instance (n k r : Int) : Decidable (Good n k r) := inferInstanceAs (Decidable (_ ∧ _))
theorem Good.lp {n k r : Int} (h : Good n k r) : ∃ n' k' r' q G : Nat, n = n' ∧ k = k' ∧ r = r' ∧ Lp n' k' r' q G ∧ k / r = (q : Int) ∧ n / (r + 1) = (G : Int) := by
 obtain ⟨h1, h2, h3, h4, h5, h6, h7, h8⟩ := h
 obtain ⟨m, rfl⟩ : ∃ m : Nat, r = (m : Int) := ⟨r.toNat, by omega⟩
 obtain ⟨kk, rfl⟩ : ∃ m : Nat, k = (m : Int) := ⟨k.toNat, by omega⟩
 have hkr : 0 ≤ (kk : Int) / (m : Int) := Int.ediv_nonneg (by omega) (by omega)
 obtain ⟨nn, rfl⟩ : ∃ m : Nat, n = (m : Int) := ⟨n.toNat, by omega⟩
 have h3' : (m + 1) ∣ 255 := Int.natCast_dvd_natCast.1 (by simpa using h3)
 have h4' : (m + 1) ∣ nn := Int.natCast_dvd_natCast.1 (by simpa using h4)
 have h7' : m ∣ kk := Int.natCast_dvd_natCast.1 h7
 have e1 : kk / m * m = kk := Nat.div_mul_cancel h7'
 have e2 : nn / (m + 1) * (m + 1) = nn := Nat.div_mul_cancel h4'
 have e3 : 255 / (m + 1) * (m + 1) = 255 := Nat.div_mul_cancel h3'
 refine ⟨nn, kk, m, kk / m, nn / (m + 1), rfl, rfl, rfl, ⟨by omega, by rw [Nat.mul_comm]; exact e3, e2.symm, Nat.div_le_div_right (by omega), e1.symm, ?_, ?_⟩, by simp, by simp⟩
 ·exact (Nat.one_le_div_iff (by omega)).2 (Nat.le_of_dvd (by omega) h7')
 ·have : (kk / m) * (m + 1) = kk + kk / m := by rw [Nat.mul_succ, e1]
  have h8' : (kk : Int) + ((kk / m : Nat) : Int) - 1 ≤ (nn : Int) := by simpa using h8
  omega
def NewIs (w : World) (g : Nat) (n k r : Int) (e : Ending) (w' : World) : Prop :=
 (Good n k r ∧ ∃ S : Lc, S.Ok w' ∧ S.g = g ∧ (S.n : Int) = n ∧ (S.k : Int) = k ∧ (S.r : Int) = r ∧ w.heap.size ≤ S.b ∧ e = .returned (.tuple #[.pointer (some ⟨S.b, 0, none⟩), .int .i64 0]) ∧ Past w.heap.size g w w') ∨
 (¬ Good n k r ∧ e = .returned (.tuple #[.pointer none, .int .i64 2]) ∧ w = w')
set_option maxRecDepth 100000 in
set_option maxHeartbeats 4000000 in
theorem new_good (g n' k' r' q' G s : Nat) (hs : r' + 1 = s) (w : World) (hf : FldP w (some ⟨g, 0, none⟩)) (hlp : Lp n' k' r' q' G) (hgood : Good (n' : Int) (k' : Int) (r' : Int)) :
  Calls Try.prog 17 #[.pointer (some ⟨g, 0, none⟩), .int .i64 (n' : Nat), .int .i64 (k' : Nat), .int .i64 (r' : Nat)] w (NewIs w g (n' : Int) (k' : Int) (r' : Int)) := by
 have hnums := hlp.nums
 have h1 := hlp.r1
 have hk1 : 1 ≤ k' := by omega
 have hs1 : (r' : Int) + 1 = (s : Int) := by omega
 have hsn : ¬ ((s : Int) = 0) := by omega
 have hs00 : ¬ s = 0 := by omega
 have h1' : ¬ (r' : Int) < 1 := by omega
 have h2' : ¬ 254 < (r' : Int) := by omega
 have hm0 : ¬ ((r' : Int) = 0) := by omega
 have hm00 : ¬ r' = 0 := by omega
 have hst := hlp.st
 have he0 : 255 % s = 0 := by rw [← hst, hs]; exact Nat.mul_mod_right _ _
 have hmod : (255 : Int).tmod (s : Int) = 0 := by
  rw [Int.tmod_eq_emod_of_nonneg (by decide)]
  have e : (255 : Int) % (s : Int) = ((255 % s : Nat) : Int) := by simp
  rw [e, he0]; rfl
 have hen := hlp.en
 rw [hs] at hen
 have hnm : (n' : Int).tmod (s : Int) = 0 := by
  rw [Int.tmod_eq_emod_of_nonneg (by omega), hen]
  simp
 have hnG : (n' : Int).tdiv (s : Int) = (G : Int) := by
  rw [Int.tdiv_eq_ediv_of_nonneg (by omega), hen, Int.natCast_mul]
  exact Int.mul_ediv_cancel _ (by omega)
 have hkm : (k' : Int).tmod (r' : Int) = 0 := by
  rw [Int.tmod_eq_emod_of_nonneg (by omega), hlp.ek]
  simp
 have hkd : (k' : Int).tdiv (r' : Int) = (q' : Int) := by
  rw [Int.tdiv_eq_ediv_of_nonneg (by omega), hlp.ek, Int.natCast_mul]
  exact Int.mul_ediv_cancel _ (by omega)
 have h5 : ¬ (n' : Int) > 255 := by omega
 have h6 : ¬ (k' : Int) < 1 := by omega
 have hq9 := hlp.q1
 have d1 : decide ((r' : Int) < 1) = false := decide_eq_false (by omega)
 have hkle : k' + q' = q' * (r' + 1) := by rw [Nat.mul_succ, hlp.ek]
 have hle := hlp.le
 have h7 : ¬ (k' : Int) > (n' : Int) := by omega
 have h9 : ¬ (k' : Int) + (q' : Int) - 1 > (n' : Int) := by omega
 have w1 : IntKind.i64.wrap ((k' : Int) + (q' : Int)) = (k' : Int) + (q' : Int) := IntWalk.i64_in _ (by omega)
 have w2 : IntKind.i64.wrap ((k' : Int) + (q' : Int) - 1) = (k' : Int) + (q' : Int) - 1 := IntWalk.i64_in _ (by omega)
 have hg3 : ((r' : Int) + 1) ∣ 255 := hgood.2.2.1
 have hG9 : G ≤ 255 := Nat.le_trans hlp.gt (Nat.div_le_self _ _)
 have hq99 : q' ≤ 255 := by omega
 have hn99 : n' ≤ 255 := by omega
 have hk99 : k' ≤ 255 := by omega
 have hgt := hlp.gt
 have hco := Pt.cosets_calls (some ⟨g, 0, none⟩) (r' : Int) (G : Int) (by omega) w hf
 have hcr : Pt.cosetsR (r' : Int) (G : Int) = (bs (cpts s G), 0) := by
  unfold Pt.cosetsR
  rw [if_pos ⟨by omega, by omega, Int.emod_eq_zero_of_dvd hg3, by omega, by
   have : (255 : Int) / ((r' : Int) + 1) = ((255 / (r' + 1) : Nat) : Int) := by simp
   rw [this]; omega⟩, Int.toNat_natCast, Int.toNat_natCast, hs, cpts_bs]
 rw [hcr] at hco
 have HCo := Lib.hid hco
 have HLp := Lib.hid hlp
 have HG := Lib.hid hgood
 have HS := Lib.hid hs
 have HF := Lib.hid hf
 have htl : (k' : Int) + (q' : Int) - 1 = ((q' * (r' + 1) - 1 : Nat) : Int) := by
  have h1 := hlp.ek
  have h2 : q' * (r' + 1) = q' * r' + q' := by rw [Nat.mul_succ]
  have h3 := hlp.q1
  omega
 have HTl := Lib.hid htl
 have HNl : Hid ((cpts s G).length = n') := Lib.hid (by rw [cpts_length, ← hs]; exact hlp.en.symm)
 have HNd : Hid ((cpts s G).Nodup) := Lib.hid (by rw [← hs]; exact cpts_nodup hlp.st hlp.gt)
 have HNm := Lib.hid hnums
 clear hf hg3 hgood hgt hco hcr htl hlp hnums he0 hen hst hkle hle h1
 go_enter Try.func17, Try.ntmps17
 go_wp2_with fail
 with_reducible refine HCo.out.mono ?_
 rintro e w2 ⟨v2, rfl, hO2, hF2, hP2⟩
 obtain ⟨A2, c2, rfl, hc2⟩ := Own.shape hO2
 rw [HNl.out] at hO2 hc2 ⊢
 have hP2' : Past w.heap.size g w w2 := hP2
 have hRn := Rd.new_calls g A2 (cpts s G) n' c2 ((k' : Int) + (q' : Int) - 1) w2 HNl.out (Own.bytes hO2) hc2 (by have := HNm.out; omega) hF2
 have HRn := Lib.hid hRn
 have HO2 := Lib.hid hO2
 have HF2 := Lib.hid hF2
 have HP2 := Lib.hid hP2'
 clear hRn hO2 hF2 hP2 hP2' HCo
 go_wp2_with fail
 with_reducible refine HRn.out.mono ?_
 rintro e w3 (⟨-, rb, A3, c3, q3, hq3, rfl, hrb, hA3, hcd, hb3⟩ | ⟨hno, -⟩)
 rotate_left
 ·exfalso
  have : newR (cpts s G) ((k' : Int) + (q' : Int) - 1) = 0 := if_pos ⟨HNd.out, by rw [HTl.out]; have := HNm.out; omega, by rw [HTl.out, HNl.out]; have := HNm.out; omega⟩
  rw [this] at hno
  cases hno
 have hq4 : q3 = q' * (r' + 1) - 1 := by have := HTl.out; omega
 rw [hq4] at hcd
 have hsz3 := hb3.size
 obtain ⟨w4, hw4⟩ : ∃ w4, w3.alloc (.cells #[.pointer (some ⟨g, 0, none⟩), .slice A2 n' c2, .pointer (some ⟨rb, 0, none⟩), .int .i64 k', .int .i64 r'] 87) = w4 := ⟨_, rfl⟩
 have hb4 : Below w3.heap.size w3 w4 := by rw [← hw4]; exact (Below.refl _ _).alloc (Nat.le_refl _) _
 have hbl4 : Block w4 w3.heap.size 87 #[.pointer (some ⟨g, 0, none⟩), .slice A2 n' c2, .pointer (some ⟨rb, 0, none⟩), .int .i64 k', .int .i64 r'] := by rw [← hw4]; exact Block.new w3 _ _
 have hg2 := HF2.out.fld.lt
 have hs2 := HP2.out.size
 have HX : Hid (NewIs w g (n' : Int) (k' : Int) (r' : Int) (.returned (.tuple #[.pointer (some ⟨w3.heap.size, 0, none⟩), .int .i64 0])) w4) := Lib.hid (.inl ⟨HG.out, ⟨w3.heap.size, rb, g, A2, c2, A3, c3, n', k', r', q', G⟩, by
  have hb24 : Below w2.heap.size w2 w4 := hb3.trans (hb4.mono hsz3)
  refine ⟨hbl4, (by show w3.heap.size ≠ g; omega), HLp.out, ?_, hc2, ?_⟩
  ·show BF g w4 A2 (cpts (r' + 1) G)
   rw [HS.out]
   exact (BF.own HF2.out HO2.out).below hb24
  ·show Cd w4 rb g A3 (cpts (r' + 1) G) n' c3 (q' * (r' + 1) - 1)
   have hc := hcd.below hb4
   rw [← HS.out] at hc
   exact hc, rfl, rfl, rfl, rfl, by show w.heap.size ≤ w3.heap.size; omega, rfl, HP2.out.trans (((Past.of_below hb3 g).trans ((Past.of_below hb4 g).mono hsz3)).mono hs2)⟩)
 clear hcd hb3 hbl4 hb4 hA3 hq3 hq4 HRn
 go_wp2
 go_ret2
 exact HX.out
set_option maxRecDepth 100000 in
set_option maxHeartbeats 4000000 in
theorem new_calls (g : Nat) (n k r : Int) (w : World) (hf : FldP w (some ⟨g, 0, none⟩)) (hn1 : -9223372036854775808 ≤ n) (hr2 : r < 9223372036854775808) :
  Calls Try.prog 17 #[.pointer (some ⟨g, 0, none⟩), .int .i64 n, .int .i64 k, .int .i64 r] w (NewIs w g n k r) := by
 have hbad : ¬ Good n k r → NewIs w g n k r (.returned (.tuple #[.pointer none, .int .i64 2])) w := fun hno => .inr ⟨hno, rfl, rfl⟩
 by_cases h1 : r < 1
 ·have HX := Lib.hid (hbad fun hg => by have := hg.1; omega)
  have d1 : decide (r < 1) = true := decide_eq_true h1
  clear hbad hf h1
  go_enter Try.func17, Try.ntmps17
  go_wp2
  go_ret2
  exact HX.out
 have d1 : decide (r < 1) = false := decide_eq_false h1
 by_cases h1b : r = 9223372036854775807
 ·have HX := Lib.hid (hbad fun hg => by have := hg.2.1; omega)
  clear hbad hf h1 d1
  subst h1b
  have h3 : wrap64 9223372036854775808 = -9223372036854775808 := by decide +kernel
  have h4 : (255 : Int) % (-9223372036854775808) = 255 := by decide
  have h5 : (255 : Int).tmod (-9223372036854775808) = 255 := by decide
  go_enter Try.func17, Try.ntmps17
  go_wp2
  go_ret2
  exact HX.out
 by_cases h2 : 254 < r
 ·have HX := Lib.hid (hbad fun hg => by have := hg.2.1; omega)
  have h3 := Pt.rem_big (x := r + 1) (.inl (by omega))
  have h4 : ¬ (r + 1 = 0) := by omega
  clear hbad hf
  go_enter Try.func17, Try.ntmps17
  go_wp2
  go_ret2
  exact HX.out
 obtain ⟨m, rfl⟩ : ∃ m : Nat, r = (m : Int) := ⟨r.toNat, by omega⟩
 obtain ⟨s, hs⟩ : ∃ s : Nat, m + 1 = s := ⟨_, rfl⟩
 have hs1 : (m : Int) + 1 = (s : Int) := by omega
 have hsn : ¬ ((s : Int) = 0) := by omega
 have hmod : (255 : Int).tmod (s : Int) = ((255 % s : Nat) : Int) := by rw [Int.tmod_eq_emod_of_nonneg (by decide)]; simp
 have hd3 : ((m : Int) + 1) ∣ 255 ↔ 255 % s = 0 := by
  rw [hs1, show (255 : Int) = ((255 : Nat) : Int) from rfl, Int.natCast_dvd_natCast]
  exact Nat.dvd_iff_mod_eq_zero
 have hmle : 255 % s ≤ 255 := Nat.mod_le _ _
 obtain ⟨q, hq⟩ : ∃ q, 255 % s = q := ⟨_, rfl⟩
 rw [hq] at hmod hmle hd3
 clear hq
 by_cases h3 : q = 0
 rotate_left
 ·have HX := Lib.hid (hbad fun hg => h3 (hd3.1 hg.2.2.1))
  have h6 : ¬ ((q : Int) = 0) := by omega
  clear hbad hf hd3
  go_enter Try.func17, Try.ntmps17
  go_wp2
  go_ret2
  exact HX.out
 subst h3
 have hg3 := hd3.2 rfl
 obtain ⟨z, hz⟩ : ∃ z, n.tmod (s : Int) = z := ⟨_, rfl⟩
 have hd4 : ((m : Int) + 1) ∣ n ↔ z = 0 := by rw [hs1, ← hz]; exact Int.dvd_iff_tmod_eq_zero
 have hza : z.natAbs < s := by
  rw [← hz, Int.natAbs_tmod]
  exact Nat.mod_lt _ (by simp; omega)
 have hzw : IntKind.i64.wrap z = z := IntWalk.i64_in _ (by omega)
 by_cases h4 : z = 0
 rotate_left
 ·have HX := Lib.hid (hbad fun hg => h4 (hd4.1 hg.2.2.2.1))
  clear hbad hf hd3 hd4 hza hg3
  go_enter Try.func17, Try.ntmps17
  go_wp2
  go_ret2
  exact HX.out
 subst h4
 have hg4 := hd4.2 rfl
 by_cases h5 : n > 255
 ·have HX := Lib.hid (hbad fun hg => by have := hg.2.2.2.2.1; omega)
  clear hbad hf hd3 hd4 hza hg3 hg4
  go_enter Try.func17, Try.ntmps17
  go_wp2
  go_ret2
  exact HX.out
 by_cases h6 : k < 1
 ·have HX := Lib.hid (hbad fun hg => by have := hg.2.2.2.2.2.1; omega)
  clear hbad hf hd3 hd4 hza hg3 hg4
  go_enter Try.func17, Try.ntmps17
  go_wp2
  go_ret2
  exact HX.out
 by_cases h7 : k > n
 ·have HX := Lib.hid (hbad fun hg => by
   obtain ⟨-, -, -, -, -, b1, b2, b3⟩ := hg
   have : 1 ≤ k / (m : Int) := Int.le_ediv_of_mul_le (by omega) (by have := Int.le_of_dvd (by omega) b2; omega)
   omega)
  clear hbad hf hd3 hd4 hza hg3 hg4
  go_enter Try.func17, Try.ntmps17
  go_wp2
  go_ret2
  exact HX.out
 obtain ⟨kk, rfl⟩ : ∃ m : Nat, k = (m : Int) := ⟨k.toNat, by omega⟩
 obtain ⟨nn, rfl⟩ : ∃ m : Nat, n = (m : Int) := ⟨n.toNat, by omega⟩
 have hm0 : ¬ ((m : Int) = 0) := by omega
 have hm00 : ¬ m = 0 := by omega
 have hs00 : ¬ s = 0 := by omega
 have hkm : (kk : Int).tmod (m : Int) = ((kk % m : Nat) : Int) := by rw [Int.tmod_eq_emod_of_nonneg (by omega)]; simp
 have hkd : (kk : Int).tdiv (m : Int) = ((kk / m : Nat) : Int) := by rw [Int.tdiv_eq_ediv_of_nonneg (by omega)]; simp
 have hkd2 : (kk : Int) / (m : Int) = ((kk / m : Nat) : Int) := by simp
 have hd7 : (m : Int) ∣ (kk : Int) ↔ kk % m = 0 := by rw [Int.natCast_dvd_natCast]; exact Nat.dvd_iff_mod_eq_zero
 have hkl : kk / m ≤ kk := Nat.div_le_self _ _
 have hkl2 : kk % m ≤ kk := Nat.mod_le _ _
 obtain ⟨km, hkm'⟩ : ∃ km, kk % m = km := ⟨_, rfl⟩
 obtain ⟨kd, hkd'⟩ : ∃ kd, kk / m = kd := ⟨_, rfl⟩
 rw [hkm'] at hkm hd7 hkl2
 rw [hkd'] at hkd hkl hkd2
 clear hkm' hkd'
 by_cases h8 : km = 0
 rotate_left
 ·have HX := Lib.hid (hbad fun hg => h8 (hd7.1 hg.2.2.2.2.2.2.1))
  have h9 : ¬ ((km : Int) = 0) := by omega
  clear hbad hf hd3 hd4 hza hg3 hg4 hd7 hkd2 hkd
  go_enter Try.func17, Try.ntmps17
  go_wp2
  go_ret2
  exact HX.out
 subst h8
 have hg7 := hd7.2 rfl
 have w1 : IntKind.i64.wrap ((kk : Int) + (kd : Int)) = (kk : Int) + (kd : Int) := IntWalk.i64_in _ (by omega)
 have w2 : IntKind.i64.wrap ((kk : Int) + (kd : Int) - 1) = (kk : Int) + (kd : Int) - 1 := IntWalk.i64_in _ (by omega)
 by_cases h9 : (kk : Int) + (kd : Int) - 1 > (nn : Int)
 ·have HX := Lib.hid (hbad fun hg => by have := hg.2.2.2.2.2.2.2; rw [hkd2] at this; omega)
  clear hbad hf hd3 hd4 hza hg3 hg4 hd7 hg7 hkd2
  go_enter Try.func17, Try.ntmps17
  go_wp2
  go_ret2
  exact HX.out
 have hgood : Good (nn : Int) (kk : Int) (m : Int) := ⟨by omega, by omega, hg3, hg4, by omega, by omega, hg7, by rw [hkd2]; omega⟩
 obtain ⟨n', k', r', q', G, en, ek, er, hlp, eq, eG⟩ := hgood.lp
 obtain rfl : n' = nn := by omega
 obtain rfl : k' = kk := by omega
 obtain rfl : r' = m := by omega
 have hnums := hlp.nums
 obtain rfl : q' = kd := by rw [hkd2] at eq; omega
 have hnG : (n' : Int).tdiv (s : Int) = (G : Int) := by rw [Int.tdiv_eq_ediv_of_nonneg (by omega), ← hs1]; exact eG
 exact new_good g n' k' r' q' G s hs w hf hlp hgood
end Go.Proofs.Ytjoghbmedfmioab.Lo

namespace Go.Proofs.Ytjoghbmedfmioab.Poly
open Go.RowKit Go.Shelf F8 GF
theorem spec : Spec where
 degreeP A p m c w hl hb hc hm := degree_calls A p m c w hl hb hc (by omega)
 mulP A B p q m n c d w hl hl2 hb hb2 hc hd hm hn pf hf hfar hfar2 := mul_pcalls A B p q m n c d w hl hl2 hb hb2 hc hd (by omega) (by omega) pf hf hfar hfar2
 rootsP A p m c w hl hb hc hm pf hf hfar := roots_pcalls A p m c w hl hb hm pf hf hfar
end Go.Proofs.Ytjoghbmedfmioab.Poly
