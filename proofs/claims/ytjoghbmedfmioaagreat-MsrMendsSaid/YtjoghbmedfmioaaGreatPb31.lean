/- Of the program, joined: PolyCode8, Open, RdOpen, KSome, WlKit, ElTold, ElToldD, ElHelp. -/
import Derived.Test.YtjoghbmedfmioaaGreatPb11
import Derived.Test.YtjoghbmedfmioaaGreatPb01
import Derived.OpenShut
import Derived.Test.YtjoghbmedfmioaaGreatPb04
import Derived.SizedLaws
import Derived.ProofKit
import Derived.Deep.Slices
import Derived.Deep.Fields
import Derived.ChangeSame
import Derived.Lib.SmallJoins
import Derived.Test.YtjoghbmedfmioaaGreatPb17
import Derived.Test.YtjoghbmedfmioaaGreatPb07
import Derived.Test.YtjoghbmedfmioaaGreatPb06
namespace Go.Proofs.YtjoghbmedfmioaaGreat.Poly
open Go.RowKit Go.Shelf F8 GF
theorem nodup_inj {p : List F8} (hn : p.Nodup) {i j : Nat} (hi : i < p.length) (hj : j < p.length) (e : p[i] = p[j]) : i = j := by
 have h := List.pairwise_iff_getElem.1 hn
 rcases Nat.lt_trichotomy i j with hl | hl | hl
 ·exact absurd e (h i j hi hj hl)
 ·exact hl
 ·exact absurd e.symm (h j i hj hi hl)
theorem others_of {p : List F8} {i : Nat} {x : F8} {u v : List F8} (hn : p.Nodup) (hi : i < p.length) (hx : coef p i = x) (h : DivBy (trim (roots p)) [x, 1] u v) :
  u.length = p.length ∧ eval u x ≠ 0 ∧ ∀ j, j < p.length → j ≠ i → eval u (coef p j) = 0 := by
 have hxp : x ∈ p := by rw [← hx, coef_of_lt hi]; exact List.getElem_mem _
 have hall : ∀ y, eval (trim (roots p)) y = 0 ↔ y ∈ p := fun y => by rw [eval_trim]; exact eval_roots p y
 have hv0 : v = [] := by
  rcases h.rest with ⟨h1, _⟩ | ⟨y, _, hy, h2⟩
  ·exact h1
  ·rw [(hall x).2 hxp] at h2; exact absurd h2.symm hy
 subst hv0
 have heq : Eqv (trim (roots p)) (pmul u [x, 1]) := h.eqv.trans (by rw [padd_nil]; exact Eqv.refl _)
 have hlen : len (pmul u [x, 1]) = p.length + 1 := by rw [← len_congr heq, len_trim, len_roots]
 have hu0 : 0 < len u := by
  rcases Nat.eq_zero_or_pos (len u) with h0 | h0
  ·have := len_zero.2 (pmul_zero_left [x, 1] (len_zero.1 h0)); omega
  ·exact h0
 have hlu : len u = p.length := by
  have := len_pmul hu0 (by rw [len_lin]; omega : 0 < len [x, 1])
  rw [hlen, len_lin] at this
  omega
 have hul : u.length = p.length := by rw [← hlu, ← h.tq, len_trim]; rfl
 have hev : ∀ y, eval (trim (roots p)) y = eval u y * (x + y) := fun y => by rw [eval_congr y heq, eval_pmul, eval_root]
 have hoth : ∀ j, j < p.length → j ≠ i → eval u (coef p j) = 0 := fun j hj hji => by
  have h1 := hev (coef p j)
  rw [(hall _).2 (by rw [coef_of_lt hj]; exact List.getElem_mem _)] at h1
  rcases mul_eq_zero.1 h1.symm with h2 | h2
  ·exact h2
  ·have h3 := add_eq_zero.1 h2
   rw [← hx, coef_of_lt hi, coef_of_lt hj] at h3
   exact absurd (nodup_inj hn hi hj h3) (Ne.symm hji)
 refine ⟨hul, fun h0 => ?_, hoth⟩
 have hz := zero_of_roots p.length u p (bdd_iff.2 (by omega)) rfl hn (fun y hy => by
  obtain ⟨j, hj, e⟩ := List.getElem_of_mem hy
  by_cases e2 : j = i
  ·subst e2
   rw [← e, ← coef_of_lt hj, hx]; exact h0
  ·rw [← e, ← coef_of_lt hj]; exact hoth j hj e2)
 have := len_zero.2 hz
 omega
def Partly (p q s : List F8) (k : Nat) : Prop := ∀ j, j < p.length → eval s (coef p j) = if j < k then coef q j else 0
theorem Partly.step {p q s s' u : List F8} {k : Nat} {x c : F8} (h : Partly p q s k) (hk : k < p.length) (hx : coef p k = x) (hu : eval u x ≠ 0) (ho : ∀ j, j < p.length → j ≠ k → eval u (coef p j) = 0)
  (hc : c = coef q k / eval u x) (hs : Eqv s' (padd s (pmul (mono 0 c) u))) : Partly p q s' (k + 1) := fun j hj => by
 have hm : ∀ y, eval (mono 0 c) y = c := fun y => by show c + y * 0 = c; rw [mul_zero, add_zero]
 rw [eval_congr _ hs, eval_padd, eval_pmul, hm, h j hj]
 by_cases e : j = k
 ·subst e
  rw [if_neg (by omega), if_pos (by omega), hx, hc, div_mul _ hu, zero_add]
 ·rw [ho j hj e, mul_zero, add_zero]
  by_cases e2 : j < k
  ·rw [if_pos e2, if_pos (by omega)]
  ·rw [if_neg e2, if_neg (by omega)]
theorem Partly.all {p q s : List F8} {m : Nat} (h : Partly p q s m) (hp : p.length = m) (hq : q.length = m) (hs : s.length = m) : Thru p q (trim s) :=
 ⟨trim_trim s, (bdd_iff.2 (by rw [len_trim]; have := len_le s; omega)), fun i h1 h2 => by
  have := h i h1
  rw [if_pos (by omega), coef_of_lt h1, coef_of_lt h2] at this
  rw [eval_trim]; exact this⟩
theorem own_but {w w' : World} {B B0 : Nat} {S : Nat → Prop} {e : TypeId} {A : Option Addr} {n c : Nat} {xs : List Value} (h : Own w B e (.slice A n c) xs) (hb : But B0 S w w') (hB : w.heap.size ≤ B0) (hS : ∀ a, A = some a → ¬ S a.block) : Own w' B e (.slice A n c) xs := by
 refine ⟨h.1, ?_⟩
 rcases h.2 with hn | ⟨g, cap, cur, h1, h2, h3, h4⟩
 ·exact .inl hn
 ·refine .inr ⟨g, cap, cur, h1, h2, ?_, h4⟩
  injection h1 with h1
  have hlt : g < w.heap.size := (Array.getElem?_eq_some_iff.1 h3).1
  exact (hb.block g (by omega) (hS ⟨g, 0, none⟩ h1)).trans h3
def ThroughBad (pf : Option Addr) (w : World) (e : Ending) (w' : World) : Prop := PolyResE pf w w' e [] 2
def ThroughRes (pf : Option Addr) (w : World) (p q : List F8) (e : Ending) (w' : World) : Prop := ∃ r, Thru p q r ∧ PolyResE pf w w' e r 0
set_option maxRecDepth 100000 in
set_option maxHeartbeats 2000000 in
theorem through_bad (A B : Option Addr) (p : List F8) (m n c d : Nat) (w : World) (hl : p.length = m) (hb : Bytes w A (bs p)) (hc : m ≤ c) (hm : m ≤ 1000) (pf : Option Addr) (hf : FldP w pf) (hx : m ≠ n ∨ ¬ p.Nodup) :
  Calls Tryz.prog 176 #[.pointer pf, .slice A m c, .slice B n d] w (ThroughBad pf w) := by
 by_cases hmn : m = n
 ·subst hmn
  have hnd : ¬ p.Nodup := hx.resolve_left (by simp)
  have HT : Hid ((!decide p.Nodup) = true) := Lib.hid (by rw [decide_eq_false hnd]; rfl)
  have k1 : ((m : Int) != (m : Int)) = false := by simp
  have k2 : ((m : Int) == (m : Int)) = true := by simp
  clear hx hnd
  go_enter Tryz.func176, Tryz.ntmps176
  go_wp2_with (go_at_call 187; refine (twice_calls A p m c _ hl hb hc (by omega)).mono ?_; rintro e w1 ⟨rfl, hB1⟩; rw [HT.out])
  go_ret2
  exact ⟨none, 0, rfl, Nat.le_refl _, Own.nil _ _ _, hf.below hB1, Past.of_below hB1 _⟩
 ·have k1 : ((m : Int) == (n : Int)) = false := by simp; omega
  have k2 : ((m : Int) != (n : Int)) = true := by simp [bne, k1]
  clear hx
  go_enter Tryz.func176, Tryz.ntmps176
  go_wp2
  go_ret2
  exact ⟨none, 0, rfl, Nat.le_refl _, Own.nil _ _ _, hf, Past.refl _ _ _⟩
set_option maxRecDepth 100000 in
set_option maxHeartbeats 4000000 in
theorem through_pcalls (A B : Option Addr) (p q : List F8) (m c d : Nat) (w : World) (hl : p.length = m) (hl2 : q.length = m) (hb : Bytes w A (bs p)) (hb2 : Bytes w B (bs q)) (hc : m ≤ c) (hm : m ≤ 1000) (pf : Option Addr) (hf : FldP w pf) (hfar : Far pf A p) (hfar2 : Far pf B q) (hnd : p.Nodup) :
  Calls Tryz.prog 176 #[.pointer pf, .slice A m c, .slice B m d] w (ThroughRes pf w p q) := by
 have HT : Hid ((!decide p.Nodup) = false) := Lib.hid (by rw [decide_eq_true hnd]; rfl)
 have k1 : ((m : Int) != (m : Int)) = false := by simp
 have k2 : ((m : Int) == (m : Int)) = true := by simp
 have HB := Lib.hid hb
 have HB2 := Lib.hid hb2
 have HL := Lib.hid hl
 have HL2 := Lib.hid hl2
 have HND := Lib.hid hnd
 clear hb hb2 hl2 hnd
 go_enter Tryz.func176, Tryz.ntmps176
 go_wp2_with (go_at_call 187; refine (twice_calls A p m c _ hl HB.out hc (by omega)).mono ?_; rintro e w1 ⟨rfl, hB1⟩; rw [HT.out])
 have hs1 := hB1.size
 refine (orNew_f pf w _ hf hB1).mono ?_
 rintro e w2 ⟨g, rfl, hg, hF2, hB2⟩
 have hs2 := hB2.size
 have hBw2 := hB1.trans (hB2.mono hs1)
 have hfa := hg.far hs1 hfar HB.out
 have hfb := hg.far hs1 hfar2 HB2.out
 have hfag : Far (some ⟨g, 0, none⟩) A p := fun hp a b ha hb => by cases hb; exact (hfa hp a ha).1
 clear hfar hfar2 hf
 go_wp2_with fail
 refine (roots_pcalls A p m c _ hl (HB.out.below hBw2) (by omega) (some ⟨g, 0, none⟩) (FldP.of hF2) hfag).mono ?_
 rintro e w3 ⟨A3, c3, rfl, hc3, hO3, hF3, hP3⟩
 obtain ⟨al, hal⟩ : ∃ al, trim (roots p) = al := ⟨_, rfl⟩
 rw [hal] at hO3 hc3 ⊢
 have hall : al.length = m + 1 := by rw [← hal, roots_len, hl]
 have HAL := Lib.hid hal
 have HALL := Lib.hid hall
 rw [hall] at hO3 hc3 ⊢
 have hs3 := hP3.size
 have hPw3 : Past w.heap.size g w w3 := (Past.of_below hBw2 g).trans (hP3.mono (by omega))
 obtain ⟨w4, hmk, hO4, hB4⟩ := make_run w3 m (by omega)
 have hO3' := Lib.hid (hO3.below hB4)
 have hF3' := Lib.hid (hF3.fld.below hB4 hF3.fld.lt)
 have hP4 := Lib.hid (hPw3.trans (Past.of_below (hB4.mono (by omega)) g))
 have hlt3 := hF3.fld.lt
 have HO4 := Lib.hid hO4
 have hgs : g < w3.heap.size := hlt3
 have hA3 : ∀ a, A3 = some a → a.block < w3.heap.size := fun a ha => by subst ha; exact (hO3.lt a.block rfl).2
 clear hal hall hl
 go_wp2_with fail
 go_loopw [36] (fun i wr => ∃ (k : Nat) (s : List F8), k ≤ m ∧ i = .int .i64 k ∧ Hid (s.length = m) ∧ Hid (Partly p q s k) ∧ Hid (Own wr w3.heap.size 5 (.slice (some ⟨w3.heap.size, 0, none⟩) m m) (bv (bs s))) ∧ Hid (Own wr w2.heap.size 5 (.slice A3 (m + 1) c3) (bv (bs al))) ∧ Hid (Fld wr g) ∧ Hid (Past w.heap.size g w wr)) (fun i _ => m - (intOf i).toNat)
 case atStart =>
  refine ⟨0, List.replicate m 0, by omega, rfl, Lib.hid (by simp), Lib.hid (fun j hj => ?_), HO4, hO3', hF3', hP4⟩
  rw [if_neg (by omega)]
  refine eval_zero _ ((trim_nil_iff (p := List.replicate m (0 : F8))).1 ?_)
  rw [show List.replicate m (0 : F8) = [] ++ List.replicate m 0 from rfl]; exact trim_zeros m
 case round =>
  obtain ⟨k, s, hk, rfl, HSL, HPA, HS, HAl, HF, HP⟩ := hrel
  by_cases hkk : k < m
  ·have hsz := HP.out.size
   have HBr := bytes_far HB.out (fun hp a ha => (hfa hp a ha).1) HP.out
   have HBr2 := bytes_far HB2.out (fun hp a ha => (hfb hp a ha).1) HP.out
   obtain ⟨b, o, rfl⟩ := where_ HB.out (by have := HL.out; omega)
   obtain ⟨b2, o2, rfl⟩ := where_ HB2.out (by have := HL2.out; omega)
   have hcell := cellAt HBr k (by have := HL.out; omega)
   have hcell2 := cellAt HBr2 k (by have := HL2.out; omega)
   have hb2g := (hfb (by intro e; have := HL2.out; rw [e] at this; simp at this; omega) _ rfl).1
   simp only at hb2g
   obtain ⟨x, hx⟩ : ∃ x, coef p k = x := ⟨_, rfl⟩
   obtain ⟨y, hy⟩ : ∃ y, coef q k = y := ⟨_, rfl⟩
   rw [hx] at hcell
   rw [hy] at hcell2
   have HX := Lib.hid hx
   have HY := Lib.hid hy
   have hF1 : Fld (wr.alloc (.cells #[.int .u8 x.n] 5)) g := HF.out.alloc _
   have hX1 : Bytes (wr.alloc (.cells #[.int .u8 x.n] 5)) (some ⟨wr.heap.size, 0, none⟩) (bs [x]) := ⟨Row.new _ _ _ _, bs_lt _⟩
   have hFX : Far (some ⟨g, 0, none⟩) (some ⟨wr.heap.size, 0, none⟩) [x] := by
    intro _ a b ha hb
    cases ha; cases hb
    have := HF.out.lt
    simp; omega
   clear hx hy HBr HBr2
   go_wp2_with fail
   refine (roots_pcalls (some ⟨wr.heap.size, 0, none⟩) [x] 1 1 _ rfl hX1 (by omega) (some ⟨g, 0, none⟩) (FldP.of hF1) hFX).mono ?_
   rintro e V1 ⟨A4, c4, rfl, hc4, hO4b, hF4b, hP4b⟩
   rw [roots_one] at hO4b hc4 ⊢
   have hP1 : Past wr.heap.size g wr V1 := ((Past.refl _ _ _).alloc (Nat.le_refl _) _).trans (hP4b.mono (by simp))
   have hAl1 := own_keep HAl.out (FldP.of HF.out) hP1
   have hByA : Bytes V1 A3 (bs al) := Own.bytes (by have := hAl1; rwa [← HALL.out] at this)
   have hByX : Bytes V1 A4 (bs [x, 1]) := Own.bytes hO4b
   go_wp2_with fail
   refine (div_pcalls A3 A4 al [x, 1] (m + 1) 2 c3 c4 _ HALL.out rfl hByA hByX hc3 hc4 (by omega) (by omega) (some ⟨g, 0, none⟩) hF4b (far_own hF4b.fld hAl1) (far_own hF4b.fld hO4b) (by rw [len_lin]; omega)).mono ?_
   rintro e V2 ⟨u, v, hdv, A5, c5, B5, d5, rfl, hc5, hd5, hO5, hO5b, hF5, hP5⟩
   have hoth := others_of HND.out (by have := HL.out; omega) HX.out (by rw [HAL.out]; exact hdv)
   obtain ⟨hu1, hu2, hu3⟩ := hoth
   rw [HL.out] at hu1 hu3
   rw [hu1] at hO5 hc5
   have HU1 := Lib.hid hu1
   have HU3 := Lib.hid hu3
   obtain ⟨ev, hev⟩ : ∃ ev, eval u x = ev := ⟨_, rfl⟩
   have HEV := Lib.hid hev
   rw [hev] at hu2
   have HU2 := Lib.hid hu2
   have hP2 : Past wr.heap.size g wr V2 := hP1.trans (hP5.mono hP1.size)
   have hByU : Bytes V2 A5 (bs u) := Own.bytes (by have := hO5; rwa [← hu1] at this)
   have HByU := Lib.hid hByU
   have hFU := far_own hF5.fld hO5
   have hcy := (past_cell hP2 ⟨b2, o2 + k, none⟩ (cell_lt hcell2) (by simpa using hb2g)).trans hcell2
   have HF5 := Lib.hid hF5
   have HO5 := Lib.hid hO5
   have HP2 := Lib.hid hP2
   obtain ⟨fc, hfc⟩ : ∃ fc, y / ev = fc := ⟨_, rfl⟩
   have HFC := Lib.hid hfc
   have hdf : ∀ V, Fld V g → Calls Tryz.prog 60 #[.pointer (some ⟨g, 0, none⟩), .int .u8 y.n, .int .u8 ev.n] V fun e w' => e = .returned (.tuple #[.int .u8 fc.n, .bool true]) ∧ Fld w' g ∧ Past V.heap.size g V w' := fun V hV => by rw [← hfc]; exact div_f g y ev hu2 V hV
   have hat : ∀ V, Bytes V A5 (bs u) → Fld V g → Calls Tryz.prog 50 #[.pointer (some ⟨g, 0, none⟩), .slice A5 m c5, .int .u8 x.n] V (AtRes (some ⟨g, 0, none⟩) ev V) := fun V hB hV => by
    rw [← hev]; exact at_calls A5 u m c5 V hu1 hB (by omega) (some ⟨g, 0, none⟩) (FldP.of hV) hFU x
   rw [hu1]
   clear hu1 hu2 hu3 hev hfc hByU hP2 hO4b hF4b hP4b hAl1 hByA hByX hO5b hd5 hdv hX1 hFX hF1 hO5 hF5 hcell2
   go_wp2_with fail
   go_region_with (first
    | (go_at_call 50; refine (hat _ HByU.out.drew (show Fld V2.drew g from HF5.out.fld)).mono ?_; rintro e V3 ⟨rfl, hF6, hP6⟩; have hcy3 := (past_cell hP6 ⟨b2, o2 + k, none⟩ (cell_lt (show V2.drew.cell? ⟨b2, o2 + k, none⟩ = some _ from hcy)) (by simpa [rb] using hb2g)).trans (show V2.drew.cell? ⟨b2, o2 + k, none⟩ = some _ from hcy); have HP6 := Lib.hid hP6; have HF6 := Lib.hid hF6; clear hP6 hF6)
    | (go_at_call 60; refine (hdf _ HF6.out.fld).mono ?_; rintro e V4 ⟨rfl, hF7, hP7⟩; have HF7 := Lib.hid hF7; have HP7 := Lib.hid hP7; clear hF7 hP7))
   all_goals
    have hP24 : Past V2.heap.size g V2 V4 := (Past.refl V2.heap.size g V2).drew.trans ((show Past V2.heap.size g V2.drew V3 from HP6.out).trans (HP7.out.mono HP6.out.size))
    have hP4r : Past wr.heap.size g wr V4 := HP2.out.trans (hP24.mono HP2.out.size)
    have hS4 := own_keep HS.out (FldP.of HF.out) hP4r
    have hAl4 := own_keep HAl.out (FldP.of HF.out) hP4r
    have hU4 := own_keep HO5.out HF5.out hP24
    have hByU4 : Bytes V4 A5 (bs u) := Own.bytes (by have := hU4; rwa [← HU1.out] at this)
    have hwr := (Own.blk HS.out).2
    have hV1 := hP1.size
    have hVr := hP4r.size
    clear hcy hcy3 hat hdf
    go_wp2_with fail
    refine (addTimes_calls w3.heap.size g w3.heap.size m m 0 m m (some ⟨w3.heap.size, 0, none⟩) A5 s u m c5 fc V4 HF7.out hS4 HSL.out HU1.out (fun _ => rfl) (by rw [HSL.out]; omega) (Nat.le_refl _) hByU4 (fun hp a ha => ⟨by have := own_block hU4 a ha; omega, far_own HF7.out hU4 hp a _ ha rfl⟩) (by omega) (by rw [HSL.out]; omega)).mono ?_
    rintro e V5 ⟨rfl, ⟨s2, g1, g2, g3⟩, hF8, hU5⟩
    rw [HSL.out] at g1
    have G1 := Lib.hid g1
    have G3 := Lib.hid g3
    have HPA2 : Hid (Partly p q s2 (k + 1)) := Lib.hid (HPA.out.step (by have := HL.out; omega) HX.out (by rw [HEV.out]; exact HU2.out) (by rw [HL.out]; exact HU3.out) (by rw [HY.out, HEV.out]; exact HFC.out.symm) g2)
    have HAl5 := Lib.hid (own_but hAl4 hU5 (Nat.le_refl _) (fun a ha => by have h1 := hA3 a ha; have h2 := far_own HF.out HAl.out (by intro e; have := HALL.out; rw [e] at this; simp at this) a _ ha rfl; simp at h2; omega))
    have HF8 := Lib.hid hF8
    have HP8 : Hid (Past w.heap.size g w V5) := Lib.hid ((HP.out.trans (hP4r.mono hsz)).trans ((hU5.mono (S' := (· = g)) (by omega) (fun i hi h => by omega)).past))
    clear g1 g2 g3 hF8 hU5
    go_wp2
    go_roundw
    case rel => exact ⟨k + 1, s2, by omega, by go_num, G1, HPA2, G3, HAl5, HF8, HP8⟩
    case measure => simp [intOf]; omega
  ·obtain rfl : k = m := by omega
   have hthru := Lib.hid (HPA.out.all HL.out HL2.out HSL.out)
   have hby := Lib.hid (Own.bytes (by have := HS.out; rwa [← HSL.out] at this))
   obtain ⟨n3, hn3⟩ : ∃ k, len s = k := ⟨_, rfl⟩
   have HN3 := Lib.hid hn3
   have hsz := HP.out.size
   clear hn3 hkk hk
   go_wp2_with (go_at_call 98; refine (trimmed_calls (some ⟨w3.heap.size, 0, none⟩) s k k _ HSL.out hby.out (Nat.le_refl _) (by omega)).mono ?_; rintro e w5 ⟨A5, rfl, hcut, hB5⟩; rw [HN3.out])
   go_ret2
   have hfin := (hcut.own HSL.out (HS.out.below hB5))
   have hlt : (trim s).length = len s := rfl
   refine ⟨trim s, hthru.out, A5, k, by rw [hlt, HN3.out]; rfl, by have := trim_le s; rw [HSL.out] at this; exact this, ?_, hg.fldP (HF.out.below hB5 HF.out.lt), hg.past hs1 (HP.out.trans (Past.of_below (hB5.mono hsz) g))⟩
   rw [hlt]; exact Own.more hfin (by omega)
theorem spec : Spec where
 trimP A p m c w hl hb hc hm := trim_calls A p m c w hl hb hc (by omega)
 degreeP A p m c w hl hb hc hm := degree_calls A p m c w hl hb hc (by omega)
 mulP A B p q m n c d w hl hl2 hb hb2 hc hd hm hn pf hf hfar hfar2 := mul_pcalls A B p q m n c d w hl hl2 hb hb2 hc hd (by omega) (by omega) pf hf hfar hfar2
 divP_zero A B p q m n c d w hl hl2 hb hb2 hc hd hm hn pf hf hfar hfar2 hz := div_pzero A B q m n c d w hl2 hb2 hd (by omega) pf hf hz
 divP A B p q m n c d w hl hl2 hb hb2 hc hd hm hn pf hf hfar hfar2 hz := div_pcalls A B p q m n c d w hl hl2 hb hb2 hc hd (by omega) (by omega) pf hf hfar hfar2 hz
 atP A p m c w hl hb hc hm pf hf hfar x := at_calls A p m c w hl hb (by omega) pf hf hfar x
 rootsP A p m c w hl hb hc hm pf hf hfar := roots_pcalls A p m c w hl hb hm pf hf hfar
 throughP_bad A B p q m n c d w hl hl2 hb hb2 hc hd hm hn pf hf hfar hfar2 hx := through_bad A B p m n c d w hl hb hc hm pf hf hx
 throughP A B p q m n c d w hl hl2 hb hb2 hc hd hm hn pf hf hfar hfar2 hx hnd := by
  subst hx
  exact through_pcalls A B p q m c d w hl hl2 hb hb2 hc hm pf hf hfar hfar2 hnd
end Go.Proofs.YtjoghbmedfmioaaGreat.Poly

namespace Go.Proofs.YtjoghbmedfmioaaGreat
open Go.RowKit
section
variable {n : Int}
theorem wf_bounds_u8 (h : (Lit.int .u8 n).wf = true) : 0 ≤ n ∧ n ≤ 255 := by
 simp [Lit.wf, IntKind.min, IntKind.max, IntKind.signed, IntKind.bits] at h
 omega
theorem wf_bounds_u16 (h : (Lit.int .u16 n).wf = true) : 0 ≤ n ∧ n ≤ 65535 := by
 simp [Lit.wf, IntKind.min, IntKind.max, IntKind.signed, IntKind.bits] at h
 omega
theorem wf_bounds_u32 (h : (Lit.int .u32 n).wf = true) : 0 ≤ n ∧ n ≤ 4294967295 := by
 simp [Lit.wf, IntKind.min, IntKind.max, IntKind.signed, IntKind.bits] at h
 omega
theorem wf_bounds_u64 (h : (Lit.int .u64 n).wf = true) : 0 ≤ n ∧ n ≤ 18446744073709551615 := by
 simp [Lit.wf, IntKind.min, IntKind.max, IntKind.signed, IntKind.bits] at h
 omega
theorem wf_bounds_i8 (h : (Lit.int .i8 n).wf = true) : -128 ≤ n ∧ n < 128 := by
 simp [Lit.wf, IntKind.min, IntKind.max, IntKind.signed, IntKind.bits] at h
 omega
theorem wf_bounds_i16 (h : (Lit.int .i16 n).wf = true) : -32768 ≤ n ∧ n < 32768 := by
 simp [Lit.wf, IntKind.min, IntKind.max, IntKind.signed, IntKind.bits] at h
 omega
theorem wf_bounds_i32 (h : (Lit.int .i32 n).wf = true) : -2147483648 ≤ n ∧ n < 2147483648 := by
 simp [Lit.wf, IntKind.min, IntKind.max, IntKind.signed, IntKind.bits] at h
 omega
theorem wf_bounds_i64 (h : (Lit.int .i64 n).wf = true) : -9223372036854775808 ≤ n ∧ n < 9223372036854775808 := by
 simp [Lit.wf, IntKind.min, IntKind.max, IntKind.signed, IntKind.bits] at h
 omega
end
theorem bytes_of {W : World} {x : Addr} {len cap : Nat} {zs : List Int} (hl : len ≤ cap) (hz : zs.length = cap) (hcell : ∀ i, i < zs.length → W.cell? (x.add i) = some (.int .u8 (zs.getD i 0)))
  (hwz : ∀ n ∈ zs, (Lit.int .u8 n).wf = true) : Bytes W (some x) ((zs.take len).map Int.toNat) ∧ ((zs.take len).map Int.toNat).length = len := by
 have hw : ∀ n ∈ zs, 0 ≤ n ∧ n < 256 := fun n hn => by
  have := bounds_u8 (hwz n hn); omega
 have hlen : ((zs.take len).map Int.toNat).length = len := by rw [List.length_map, List.length_take]; omega
 refine ⟨⟨?_, ?_⟩, hlen⟩
 ·intro k u hu
  have hk : k < len := by have := (List.getElem?_eq_some_iff.1 hu).1; rw [bv_length, hlen] at this; exact this
  have hc := hcell k (by omega)
  have hs : (x.add k).spot = none := World.cell?_spot hc
  have hx : x.spot = none := by
   by_cases h0 : k = 0
   ·subst h0; simpa [Addr.add] using hs
   ·have h0 := hcell 0 (by omega); have := World.cell?_spot h0; simpa [Addr.add] using this
  obtain ⟨b, off, spot⟩ := x
  obtain rfl : spot = none := hx
  refine ⟨b, off, rfl, ?_⟩
  have e : (⟨b, off, none⟩ : Addr).add k = ⟨b, off + k, none⟩ := by unfold Addr.add; split <;> simp_all
  rw [e] at hc
  rw [hc]
  have hkz : k < zs.length := by omega
  simp only [bv, List.map_map, List.getElem?_map, List.getElem?_take, if_pos hk, List.getElem?_eq_getElem hkz, Option.map_some, Function.comp] at hu
  rw [← hu, List.getD_eq_getElem?_getD, List.getElem?_eq_getElem hkz]
  have := hw _ (List.getElem_mem hkz)
  simp [Int.toNat_of_nonneg this.1]
 ·intro c hc
  obtain ⟨n, hn, rfl⟩ := List.mem_map.1 hc
  have := hw n (List.mem_of_mem_take hn)
  omega
end Go.Proofs.YtjoghbmedfmioaaGreat

namespace Go.Proofs.YtjoghbmedfmioaaGreat.Wl
open Go.RowKit Go.Shelf F8 Poly GF Rd
attribute [local go_sem] Oper.semAt_some
set_option maxHeartbeats 1000000 in
theorem samez_calls (A B : Option Addr) (p q : List Int) (m n c d : Nat) (w : World) (hm : p.length = m) (hn : q.length = n) (hml : m ≤ 1000000) (hb : Row w A (zs p)) (hb2 : Row w B (zs q)) (b : Bool) (hbq : decide (p = q) = b) :
  Calls Tryz.prog 24 #[.slice A m c, .slice B n d] w fun e w' => e = .returned (.bool b) ∧ Below w.heap.size w w' := by
 by_cases hmn : m = n
 ·subst hmn
  go_enter Tryz.func24, Tryz.ntmps24
  go_wp2
  go_loopw [5] (fun i wr => ∃ k : Nat, k ≤ m ∧ i = .int .i64 k ∧ Below w.heap.size w wr ∧ p.take k = q.take k) (fun i _ => m - (intOf i).toNat)
  case atStart => exact ⟨0, Nat.zero_le _, rfl, Below.refl _ _, rfl⟩
  case round =>
   obtain ⟨k, hk, rfl, hB, ht⟩ := hrel
   by_cases hkm : k < m
   ·obtain ⟨b1, o1, rfl, h1⟩ := zs_at (hb.below hB) (k := k) (by omega)
    obtain ⟨b2, o2, rfl, h2⟩ := zs_at (hb2.below hB) (k := k) (by omega)
    have e1 := take_succ' p (k := k) (by omega)
    have e2 := take_succ' q (k := k) (by omega)
    obtain ⟨x, hx⟩ : ∃ x, p[k] = x := ⟨_, rfl⟩
    obtain ⟨y, hy⟩ : ∃ y, q[k] = y := ⟨_, rfl⟩
    rw [hx] at h1 e1
    rw [hy] at h2 e2
    clear hx hy
    by_cases hxy : x = y
    ·subst hxy
     have HT : Hid (p.take (k + 1) = q.take (k + 1)) := Lib.hid (by rw [e1, e2, ht])
     clear e1 e2 ht
     go_wp2
     go_region
     go_wp2
     go_roundw
     case rel => exact ⟨k + 1, by omega, by go_num, hB.drew, HT.out⟩
     case measure => simp [intOf]; omega
    ·have hne : b = false := by
      rw [← hbq, decide_eq_false_iff_not]
      rintro rfl
      rw [e1] at e2
      exact hxy (by simpa using e2)
     have hxy2 : (x == y) = false := by simpa using hxy
     subst hne
     clear e1 e2 ht
     go_wp2
     go_region
     go_wp2
     go_ret
     exact ⟨rfl, hB.drew⟩
   ·obtain rfl : k = m := by omega
    have hpq : b = true := by
     rw [← hbq, decide_eq_true_iff]
     rw [List.take_of_length_le (by omega), List.take_of_length_le (by omega)] at ht
     exact ht
    subst hpq
    go_wp2
    go_ret
    exact ⟨rfl, hB⟩
 ·have hne : b = false := by
   rw [← hbq, decide_eq_false_iff_not]
   rintro rfl
   omega
  subst hne
  have hmn2 : ¬ ((m : Int) = (n : Int)) := by omega
  go_enter Tryz.func24, Tryz.ntmps24
  go_wp2
  go_ret
  exact ⟨rfl, Below.refl _ _⟩
end Go.Proofs.YtjoghbmedfmioaaGreat.Wl

namespace Go.Proofs.YtjoghbmedfmioaaGreat.Ms
open Go.RowKit Go.Shelf F8 Poly GF Rd
attribute [local go_sem] Oper.semAt_some
theorem info_sym : (Tryz.prog.info? 54).map (fun i => (i.zero, i.size, i.bytes)) = some (some (.agg #[.int .i64 0, .slice none 0 0]), 2, 32) := by kernel_rfl
end Go.Proofs.YtjoghbmedfmioaaGreat.Ms

namespace Go.Proofs.YtjoghbmedfmioaaGreat.Ms
open Go.RowKit Go.Shelf F8 Poly GF Rd
attribute [local go_sem] Oper.semAt_some
theorem OwnK.far {k n B : Nat} {w : World} {e : TypeId} {v : Value} {xs : List Value} (h : OwnK k w B e v n xs) {b j : Nat} (hne : v.ownBlock ≠ some b) (u : Value) : OwnK k (w.setCell ⟨b, j, none⟩ u) B e v n xs := by
 refine ⟨h.1, ?_⟩
 rcases h.2 with h2 | ⟨g, cap, cur, rfl, h2, h3, h4⟩
 ·exact .inl h2
 ·refine .inr ⟨g, cap, cur, rfl, h2, ?_, h4⟩
  have hbg : b ≠ g := fun e => hne (by rw [e]; rfl)
  rw [← h3]
  simp [World.setCell, Array.getElem?_modify, hbg]
theorem cells2_put {E : List El} {p : Nat} (hp : p < E.length) {F : List F8} (hF : F.length = (E[p]).s.length) : cells2 (E.set p ⟨(E[p]).p, (E[p]).A, F, (E[p]).c⟩) = cells2 E := by
 unfold cells2
 rw [List.flatMap_def, List.flatMap_def, List.map_set]
 have e : El.cs ⟨(E[p]).p, (E[p]).A, F, (E[p]).c⟩ = (E.map El.cs)[p]'(by simpa using hp) := by simp [El.cs, hF]
 rw [e, List.set_getElem_self]
theorem ps_set {E : List El} {p : Nat} (hp : p < E.length) (F : List F8) : (E.set p ⟨(E[p]).p, (E[p]).A, F, (E[p]).c⟩).map El.p = E.map El.p := by
 rw [List.map_set]
 have e : (E[p]).p = (E.map El.p)[p]'(by simpa using hp) := by simp
 show (E.map El.p).set p (E[p]).p = _
 rw [e, List.set_getElem_self]
theorem shE_set (E : List El) (p : Nat) (e : El) : shE (E.set p e) = (shE E).set p (e.p, e.s) := by
 unfold shE
 rw [List.map_set]
end Go.Proofs.YtjoghbmedfmioaaGreat.Ms

namespace Go.Proofs.YtjoghbmedfmioaaGreat.Ms
open Go.RowKit Go.Shelf F8 Poly GF Rd
attribute [local go_sem] Oper.semAt_some
structure HOne (B : Nat) (V : World) (E : List El) : Prop where
 own : ∀ e ∈ E, ∃ b y, e.A = some ⟨b, 0, none⟩ ∧ e.s = [y] ∧ e.c = 1 ∧ B ≤ b ∧ Block V b 5 #[.int .u8 (y.n : Nat)]
 sep : (E.map El.A).Nodup
section
variable {B g : Nat} {V V' : World} {E : List El}
theorem HOne.nil (B : Nat) (V : World) : HOne B V [] := ⟨fun e he => by simp at he, List.nodup_nil⟩
theorem HOne.below (h : HOne B V E) (hb : Below V.heap.size V V') : HOne B V' E := ⟨fun e he => by
 obtain ⟨b, y, h1, h2, h3, h4, h5⟩ := h.own e he
 exact ⟨b, y, h1, h2, h3, h4, h5.below hb h5.lt⟩, h.sep⟩
theorem HOne.past (h : HOne B V E) (hg : g < B) (hp : Past V.heap.size g V V') : HOne B V' E := ⟨fun e he => by
 obtain ⟨b, y, h1, h2, h3, h4, h5⟩ := h.own e he
 exact ⟨b, y, h1, h2, h3, h4, h5.past hp h5.lt (by omega)⟩, h.sep⟩
theorem HOne.grown {n B2 : Nat} {v : Value} {xs : List Value} {k : Nat} {t : TypeId} (h : HOne B V E) (ho : OwnK k V B2 t v n xs) (ht : 5 ≠ t) (hg : V.grownBy V' v.ownBlock) : HOne B V' E := ⟨fun e he => by
 obtain ⟨b, y, h1, h2, h3, h4, h5⟩ := h.own e he
 refine ⟨b, y, h1, h2, h3, h4, (hg.block _ h5.lt (fun e1 => ?_)).trans h5⟩
 rcases ho.2 with ⟨rfl, -⟩ | ⟨g', cap, cur, rfl, -, hh, -⟩
 ·simp [Value.ownBlock] at e1
 ·simp only [Value.ownBlock, Option.some.injEq] at e1
  subst e1
  unfold Block at h5
  rw [h5] at hh
  injection hh with hh
  injection hh with _ hh
  exact absurd hh ht, h.sep⟩
theorem HOne.snoc (h : HOne B V E) {e : El} {b : Nat} {y : F8} (e1 : e.A = some ⟨b, 0, none⟩) (e2 : e.s = [y]) (e3 : e.c = 1) (h1 : B ≤ b) (h2 : V.heap.size ≤ b) (hb : Below V.heap.size V V') (h3 : Block V' b 5 #[.int .u8 (y.n : Nat)]) : HOne B V' (E ++ [e]) := by
 have hh := h.below hb
 refine ⟨fun f hf => ?_, by
  rw [List.map_append, List.nodup_append]
  refine ⟨h.sep, by simp, fun x hx y hy => ?_⟩
  obtain ⟨f, hf, rfl⟩ := List.mem_map.1 hx
  obtain rfl := List.mem_singleton.1 hy
  obtain ⟨b', y', e4, -, -, -, h5⟩ := h.own f hf
  rw [e1, e4]
  intro hh
  injection hh with hh
  injection hh with hh
  have := h5.lt
  omega⟩
 rcases List.mem_append.1 hf with hf | hf
 ·exact hh.own f hf
 ·obtain rfl := List.mem_singleton.1 hf
  exact ⟨b, y, e1, e2, e3, h1, h3⟩
theorem HOne.lst (h : HOne B V E) (hg : g < B) : Lst g V E := fun e he => by
 obtain ⟨b, y, h1, h2, h3, h4, h5⟩ := h.own e he
 refine ⟨⟨⟨?_, bs_lt _⟩, fun _ a q ha hq => ?_⟩, by rw [h2, h3]; exact Nat.le_refl _⟩
 ·rw [h1, h2]
  intro k u hu
  have hk : k = 0 := by
   have := (List.getElem?_eq_some_iff.1 hu).1
   simp [bv, bs] at this
   omega
  subst hk
  refine ⟨b, 0, rfl, ?_⟩
  rw [Nat.zero_add]
  have := h5.cell 0
  rw [this]
  simpa [bv, bs] using hu
 ·rw [h1] at ha
  cases ha; cases hq
  show b ≠ g
  omega
theorem HOne.at_ (h : HOne B V E) {p : Nat} (hp : p < E.length) : ∃ b y, (E[p]).A = some ⟨b, 0, none⟩ ∧ (E[p]).s = [y] ∧ (E[p]).c = 1 ∧ B ≤ b ∧ Block V b 5 #[.int .u8 (y.n : Nat)] := h.own _ (List.getElem_mem hp)
theorem HOne.put (h : HOne B V E) {p b : Nat} (hp : p < E.length) (eA : (E[p]).A = some ⟨b, 0, none⟩) (v : F8) : HOne B (V.setCell ⟨b, 0, none⟩ (.int .u8 (v.n : Nat))) (E.set p ⟨(E[p]).p, some ⟨b, 0, none⟩, [v], 1⟩) := by
 refine ⟨fun e he => ?_, ?_⟩
 ·obtain ⟨q, hq, rfl⟩ := List.getElem_of_mem he
  rw [List.length_set] at hq
  rw [List.getElem_set]
  by_cases hpq : p = q
  ·rw [if_pos hpq]
   obtain ⟨b', y, h1, h2, h3, h4, h5⟩ := h.at_ hp
   rw [eA] at h1
   cases h1
   exact ⟨b, v, rfl, rfl, rfl, h4, h5.set_ 0 _⟩
  ·rw [if_neg hpq]
   obtain ⟨b', y, h1, h2, h3, h4, h5⟩ := h.at_ hq
   refine ⟨b', y, h1, h2, h3, h4, h5.far (p := ⟨b, 0, none⟩) ?_ _⟩
   rintro rfl
   have := (List.pairwise_iff_getElem.1 h.sep)
   rcases Nat.lt_or_gt_of_ne hpq with hlt | hlt
   ·exact this p q (by simpa using hp) (by simpa using hq) hlt (by simp [eA, h1])
   ·exact this q p (by simpa using hq) (by simpa using hp) hlt (by simp [eA, h1])
 ·have e1 : (E.set p ⟨(E[p]).p, some ⟨b, 0, none⟩, [v], 1⟩).map El.A = E.map El.A := by
   rw [List.map_set]
   have e2 : some (⟨b, 0, none⟩ : Addr) = (E.map El.A)[p]'(by simpa using hp) := by simp [eA]
   show (E.map El.A).set p (some ⟨b, 0, none⟩) = _
   rw [e2, List.set_getElem_self]
  rw [e1]
  exact h.sep
end
theorem HOne.apart {B B2 n b k : Nat} {V : World} {E : List El} {v : Value} {xs : List Value} {t : TypeId} (h : HOne B V E) (ho : OwnK k V B2 t v n xs) (ht : 5 ≠ t) {e : El} (he : e ∈ E) (e1 : e.A = some ⟨b, 0, none⟩) : v.ownBlock ≠ some b := fun hv => by
 obtain ⟨b', y, h1, h2, h3, h4, h5⟩ := h.own e he
 rw [e1] at h1
 cases h1
 rcases ho.2 with ⟨rfl, -⟩ | ⟨g', cap, cur, rfl, -, hh, -⟩
 ·simp [Value.ownBlock] at hv
 ·simp only [Value.ownBlock, Option.some.injEq] at hv
  subst hv
  unfold Block at h5
  rw [h5] at hh
  injection hh with hh
  injection hh with _ hh
  exact absurd hh ht
def HUp (U : Nat) (E : List El) : Prop := ∀ x ∈ E.map El.A, ∀ a, x = some a → a.block < U
theorem HOne.hu {B : Nat} {V : World} {E : List El} (h : HOne B V E) : HUp V.heap.size E := fun x hx a ha => by
 obtain ⟨e, he, rfl⟩ := List.mem_map.1 hx
 obtain ⟨b, y, h1, h2, h3, h4, h5⟩ := h.own e he
 rw [h1] at ha
 cases ha
 exact h5.lt
theorem ownK_past {k g B n : Nat} {w w' : World} {e : TypeId} {v : Value} {xs : List Value} (h : OwnK k w B e v n xs) (hg : g < B) (hp : Past w.heap.size g w w') : OwnK k w' B e v n xs :=
 h.grown (row := some g) ⟨hp.os, hp.tape, hp.output, hp.size, fun k hk hn => hp.block k hk (fun e => hn (by rw [e]))⟩ (by
  cases hv : v.ownBlock with
  | none => exact .inl rfl
  | some b =>
   refine .inr fun e => ?_
   injection e with e
   have := (World.ownsRow.lt h b hv).1
   omega)
theorem fldp_later {g B : Nat} {V V' : World} (h : FldP V (some ⟨g, 0, none⟩)) (hg : g < B) (hb : Below B V V') : FldP V' (some ⟨g, 0, none⟩) := FldP.of (h.fld.imp (fun x => x.below hb hg) (fun x => x.below hb hg))
theorem ownK_far {k n B : Nat} {w : World} {e : TypeId} {v : Value} {xs : List Value} (h : OwnK k w B e v n xs) {b j : Nat} (hne : v.ownBlock ≠ some b) (u : Value) : OwnK k (w.setCell ⟨b, j, none⟩ u) B e v n xs := OwnK.far h hne u
structure HTel (j a : Nat) (F : Nat → F8) (E : List El) : Prop where
 up : (E.map El.p).Pairwise (· < ·)
 rng : ∀ e ∈ E, ∃ i : Nat, e.p = (i : Int) ∧ i < a ∧ i ≠ j
 val : ∀ e ∈ E, e.s = [F e.p.toNat]
 len : E.length ≤ a
section
variable {j a : Nat} {F : Nat → F8} {E : List El}
theorem HTel.nil (j : Nat) (F : Nat → F8) : HTel j 0 F [] := ⟨List.Pairwise.nil, fun e he => by simp at he, fun e he => by simp at he, Nat.le_refl _⟩
theorem HTel.skip (h : HTel j a F E) : HTel j (a + 1) F E := ⟨h.up, fun e he => by
 obtain ⟨i, h1, h2, h3⟩ := h.rng e he
 exact ⟨i, h1, by omega, h3⟩, h.val, by have := h.len; omega⟩
theorem HTel.snoc (h : HTel j a F E) (hj : a ≠ j) {e : El} (h1 : e.p = (a : Int)) (h2 : e.s = [F a]) : HTel j (a + 1) F (E ++ [e]) := by
 refine ⟨?_, fun x hx => ?_, fun x hx => ?_, ?_⟩
 ·rw [List.map_append, List.pairwise_append]
  refine ⟨h.up, by simp, fun x hx y hy => ?_⟩
  obtain ⟨f, hf, rfl⟩ := List.mem_map.1 hx
  obtain ⟨i, h3, h4, -⟩ := h.rng f hf
  have h5 : y = (a : Int) := by rw [← h1]; simpa using hy
  omega
 ·rcases List.mem_append.1 hx with hx | hx
  ·obtain ⟨i, h3, h4, h5⟩ := h.rng x hx
   exact ⟨i, h3, by omega, h5⟩
  ·obtain rfl := List.mem_singleton.1 hx
   exact ⟨a, h1, by omega, hj⟩
 ·rcases List.mem_append.1 hx with hx | hx
  ·exact h.val x hx
  ·obtain rfl := List.mem_singleton.1 hx
   rw [h2, h1]; rfl
 ·have := h.len
  rw [List.length_append]; simp; omega
end
structure HChg (F : Nat → F8) (s : Nat) (E E2 : List El) : Prop where
 ps : E2.map El.p = E.map El.p
 as_ : E2.map El.A = E.map El.A
 cs : cells2 E2 = cells2 E
 one : ∀ e ∈ E2, e.s.length = 1
 nb_ : nb (fun i => [F i]) (shE E2) ≤ s
section
variable {j a n s : Nat} {F : Nat → F8} {E E2 : List El}
theorem HChg.start (h : HTel j a F E) : HChg F 0 E E := ⟨rfl, rfl, rfl, fun e he => by rw [h.val e he]; rfl, Nat.le_of_eq (nb_nil fun o ho => by
 obtain ⟨e, he, rfl⟩ := List.mem_map.1 ho
 exact h.val e he)⟩
theorem HChg.len (h : HChg F s E E2) : E2.length = E.length := by have := congrArg List.length h.ps; simpa using this
theorem HChg.put (h : HChg F s E E2) {p b : Nat} (hp : p < E2.length) (eA : (E2[p]).A = some ⟨b, 0, none⟩) (e1 : (E2[p]).c = 1) (v : F8) : HChg F (s + 1) E (E2.set p ⟨(E2[p]).p, some ⟨b, 0, none⟩, [v], 1⟩) := by
 have h1 := cells2_put hp (F := [v]) (by rw [h.one _ (List.getElem_mem hp)]; rfl)
 have h2 := ps_set hp [v]
 rw [eA, e1] at h1 h2
 have h0 : (E2.set p ⟨(E2[p]).p, some ⟨b, 0, none⟩, [v], 1⟩).map El.A = E2.map El.A := by
  rw [List.map_set]
  have e2 : some (⟨b, 0, none⟩ : Addr) = (E2.map El.A)[p]'(by simpa using hp) := by simp [eA]
  show (E2.map El.A).set p (some ⟨b, 0, none⟩) = _
  rw [e2, List.set_getElem_self]
 refine ⟨h2.trans h.ps, h0.trans h.as_, h1.trans h.cs, fun e he => ?_, ?_⟩
 ·rcases List.mem_or_eq_of_mem_set he with h3 | rfl
  ·exact h.one e h3
  ·rfl
 ·rw [shE_set]
  exact Nat.le_trans (nb_set _ (shE E2) p _) (Nat.succ_le_succ h.nb_)
theorem HChg.rng (h : HChg F s E E2) (hl : HTel j a F E) : ∀ e ∈ E2, ∃ i : Nat, e.p = (i : Int) ∧ i < a ∧ i ≠ j := fun e he => by
 have h1 : e.p ∈ E.map El.p := h.ps ▸ List.mem_map_of_mem he
 obtain ⟨f, hf, h2⟩ := List.mem_map.1 h1
 obtain ⟨i, h3, h4⟩ := hl.rng f hf
 exact ⟨i, by rw [← h2]; exact h3, h4⟩
theorem HChg.up (h : HChg F s E E2) (hl : HTel j a F E) : (E2.map El.p).Pairwise (· < ·) := h.ps ▸ hl.up
theorem HChg.nd (h : HChg F s E E2) (hl : HTel j a F E) : (E2.map El.p).Nodup := (h.up hl).imp fun h e => by omega
end
def liarsOf (F : Nat → F8) (E : List El) : List Int := (E.filter fun e => decide (e.s ≠ [F e.p.toNat])).map El.p
section
variable {j a n s : Nat} {F : Nat → F8} {E E2 : List El}
theorem liarsOf_snoc (F : Nat → F8) (E : List El) (e : El) : liarsOf F (E ++ [e]) = liarsOf F E ++ (if e.s ≠ [F e.p.toNat] then [e.p] else []) := by
 unfold liarsOf
 rw [List.filter_append, List.map_append]
 congr 1
 by_cases h : e.s ≠ [F e.p.toNat]
 ·rw [if_pos h, List.filter_cons_of_pos (by simpa using h)]; rfl
 ·rw [if_neg h, List.filter_cons_of_neg (by simpa using h)]; rfl
theorem liarsOf_take {i : Nat} (hi : i < E.length) : liarsOf F (E.take (i + 1)) = liarsOf F (E.take i) ++ (if (E[i]).s ≠ [F (E[i]).p.toNat] then [(E[i]).p] else []) := by
 rw [List.take_add_one, List.getElem?_eq_getElem hi]
 exact liarsOf_snoc F (E.take i) E[i]
theorem liarsOf_len (F : Nat → F8) (E : List El) : (liarsOf F E).length ≤ E.length := by
 unfold liarsOf
 rw [List.length_map]
 exact List.length_filter_le _ _
theorem mem_wr {S : Nat → List F8} {sh : List (Int × List F8)} (h : ∀ o ∈ sh, 0 ≤ o.1 ∧ o.1 < (n : Int)) {z : Int} : z ∈ wrongs n S sh ↔ ∃ o ∈ sh, o.1 = z ∧ o.2 ≠ S z.toNat := by
 unfold wrongs
 rw [List.mem_map]
 constructor
 ·rintro ⟨j, hj, rfl⟩
  obtain ⟨o, ho, h2⟩ := List.any_eq_true.1 (List.mem_filter.1 hj).2
  have h3 := of_decide_eq_true h2
  exact ⟨o, ho, h3.1, by rw [Int.toNat_natCast]; exact h3.2⟩
 ·rintro ⟨o, ho, rfl, hne⟩
  obtain ⟨h1, h2⟩ := h o ho
  refine ⟨o.1.toNat, List.mem_filter.2 ⟨List.mem_range.2 (by omega), List.any_eq_true.2 ⟨o, ho, decide_eq_true ⟨by omega, hne⟩⟩⟩, by omega⟩
theorem wr_sorted (n : Nat) (S : Nat → List F8) (sh : List (Int × List F8)) : (wrongs n S sh).Pairwise (· < ·) := by
 unfold wrongs
 rw [List.pairwise_map]
 exact (List.pairwise_lt_range.sublist List.filter_sublist).imp fun h => by omega
theorem HChg.liars (h : HChg F s E E2) (hl : HTel j a F E) (ha : a ≤ n) : liarsOf F E2 = wrongs n (fun i => [F i]) (shE E2) := by
 have hr : ∀ o ∈ shE E2, 0 ≤ o.1 ∧ o.1 < (n : Int) := fun o ho => by
  obtain ⟨e, he, rfl⟩ := List.mem_map.1 ho
  obtain ⟨i, h1, h2, -⟩ := h.rng hl e he
  show 0 ≤ e.p ∧ e.p < _
  omega
 refine Wl.sorted_ext ?_ (wr_sorted _ _ _) fun z => ?_
 ·unfold liarsOf
  exact (h.up hl).sublist (List.filter_sublist.map _)
 ·rw [mem_wr hr]
  unfold liarsOf
  rw [List.mem_map]
  constructor
  ·rintro ⟨e, he, rfl⟩
   obtain ⟨h1, h2⟩ := List.mem_filter.1 he
   exact ⟨(e.p, e.s), List.mem_map_of_mem h1, rfl, of_decide_eq_true h2⟩
  ·rintro ⟨o, ho, rfl, hne⟩
   obtain ⟨e, he, rfl⟩ := List.mem_map.1 ho
   exact ⟨e, List.mem_filter.2 ⟨he, decide_eq_true hne⟩, rfl⟩
theorem HChg.wrong_le (h : HChg F s E E2) : (wrongs n (fun i => [F i]) (shE E2)).length ≤ s := Nat.le_trans (wrongs_le n _ _) h.nb_
def wasOf (F : Nat → F8) (E : List El) : List F8 := E.map fun e => F e.p.toNat
theorem wasOf_take {i : Nat} (hi : i < E.length) : wasOf F (E.take (i + 1)) = wasOf F (E.take i) ++ [F (E[i]).p.toNat] := by
 unfold wasOf
 rw [List.take_add_one, List.getElem?_eq_getElem hi, List.map_append]; rfl
theorem wasOf_ps (h : E2.map El.p = E.map El.p) : wasOf F E2 = wasOf F E := by
 have : ∀ l : List El, wasOf F l = (l.map El.p).map fun p => F p.toNat := fun l => by unfold wasOf; rw [List.map_map]; rfl
 rw [this, this, h]
theorem wasOf_length (F : Nat → F8) (E : List El) : (wasOf F E).length = E.length := by simp [wasOf]
theorem wasOf_coef {i : Nat} (hi : i < E.length) : coef (wasOf F E) i = F (E[i]).p.toNat := by
 rw [coef_of_lt (by rw [wasOf_length]; exact hi)]; simp [wasOf]
end
end Go.Proofs.YtjoghbmedfmioaaGreat.Ms
