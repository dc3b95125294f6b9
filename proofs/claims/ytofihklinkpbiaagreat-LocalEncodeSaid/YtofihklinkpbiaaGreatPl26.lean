/- Of the program, joined: PolyCode8, Open, RdOpen, PtRef. -/
import Derived.Test.YtofihklinkpbiaaGreatPl11
import Derived.Test.YtofihklinkpbiaaGreatPl01
import Derived.OpenShut
import Derived.Test.YtofihklinkpbiaaGreatPl05
import Derived.SizedLaws
import Derived.ProofKit
import Derived.Deep.Slices
import Derived.Deep.Fields
import Derived.ChangeSame
import Derived.Lib.SmallJoins
import Derived.Test.YtofihklinkpbiaaGreatPl07
import Derived.Test.YtofihklinkpbiaaGreatPl04
import Derived.Test.YtofihklinkpbiaaGreatPl03
namespace Go.Proofs.YtofihklinkpbiaaGreat.Poly
open Go.RowKit Go.Shelf F8 GF
theorem nodup_inj {p : List F8} (hn : p.Nodup) {i j : Nat} (hi : i < p.length) (hj : j < p.length) (e : p[i] = p[j]) : i = j := by
 have h := List.pairwise_iff_getElem.1 hn
 rcases Nat.lt_trichotomy i j with hl | hl | hl
 ·exact absurd e (h i j hi hj hl)
 ·exact hl
 ·exact absurd e.symm (h j i hj hi hl)
theorem others_of {p : List F8} {i : Nat} {x : F8} {u v : List F8} (hn : p.Nodup) (hi : i < p.length) (hx : coef p i = x) (h : DivBy (trim (roots p)) [x, 1] u v) :
  u.length = p.length ∧ eval u x ≠ 0 ∧ ∀ j, j < p.length → j ≠ i → eval u (coef p j) = 0 := by
 have hxp : x ∈ p := by rw [← hx, coef_of_lt hi]; exact List.getElem_mem _
 have hall : ∀ y, eval (trim (roots p)) y = 0 ↔ y ∈ p := fun y => by rw [eval_trim]; exact eval_roots p y
 have hv0 : v = [] := by
  rcases h.rest with ⟨h1, _⟩ | ⟨y, _, hy, h2⟩
  ·exact h1
  ·rw [(hall x).2 hxp] at h2; exact absurd h2.symm hy
 subst hv0
 have heq : Eqv (trim (roots p)) (pmul u [x, 1]) := h.eqv.trans (by rw [padd_nil]; exact Eqv.refl _)
 have hlen : len (pmul u [x, 1]) = p.length + 1 := by rw [← len_congr heq, len_trim, len_roots]
 have hu0 : 0 < len u := by
  rcases Nat.eq_zero_or_pos (len u) with h0 | h0
  ·have := len_zero.2 (pmul_zero_left [x, 1] (len_zero.1 h0)); omega
  ·exact h0
 have hlu : len u = p.length := by
  have := len_pmul hu0 (by rw [len_lin]; omega : 0 < len [x, 1])
  rw [hlen, len_lin] at this
  omega
 have hul : u.length = p.length := by rw [← hlu, ← h.tq, len_trim]; rfl
 have hev : ∀ y, eval (trim (roots p)) y = eval u y * (x + y) := fun y => by rw [eval_congr y heq, eval_pmul, eval_root]
 have hoth : ∀ j, j < p.length → j ≠ i → eval u (coef p j) = 0 := fun j hj hji => by
  have h1 := hev (coef p j)
  rw [(hall _).2 (by rw [coef_of_lt hj]; exact List.getElem_mem _)] at h1
  rcases mul_eq_zero.1 h1.symm with h2 | h2
  ·exact h2
  ·have h3 := add_eq_zero.1 h2
   rw [← hx, coef_of_lt hi, coef_of_lt hj] at h3
   exact absurd (nodup_inj hn hi hj h3) (Ne.symm hji)
 refine ⟨hul, fun h0 => ?_, hoth⟩
 have hz := zero_of_roots p.length u p (bdd_iff.2 (by omega)) rfl hn (fun y hy => by
  obtain ⟨j, hj, e⟩ := List.getElem_of_mem hy
  by_cases e2 : j = i
  ·subst e2
   rw [← e, ← coef_of_lt hj, hx]; exact h0
  ·rw [← e, ← coef_of_lt hj]; exact hoth j hj e2)
 have := len_zero.2 hz
 omega
def Partly (p q s : List F8) (k : Nat) : Prop := ∀ j, j < p.length → eval s (coef p j) = if j < k then coef q j else 0
theorem Partly.step {p q s s' u : List F8} {k : Nat} {x c : F8} (h : Partly p q s k) (hk : k < p.length) (hx : coef p k = x) (hu : eval u x ≠ 0) (ho : ∀ j, j < p.length → j ≠ k → eval u (coef p j) = 0)
  (hc : c = coef q k / eval u x) (hs : Eqv s' (padd s (pmul (mono 0 c) u))) : Partly p q s' (k + 1) := fun j hj => by
 have hm : ∀ y, eval (mono 0 c) y = c := fun y => by show c + y * 0 = c; rw [mul_zero, add_zero]
 rw [eval_congr _ hs, eval_padd, eval_pmul, hm, h j hj]
 by_cases e : j = k
 ·subst e
  rw [if_neg (by omega), if_pos (by omega), hx, hc, div_mul _ hu, zero_add]
 ·rw [ho j hj e, mul_zero, add_zero]
  by_cases e2 : j < k
  ·rw [if_pos e2, if_pos (by omega)]
  ·rw [if_neg e2, if_neg (by omega)]
theorem Partly.all {p q s : List F8} {m : Nat} (h : Partly p q s m) (hp : p.length = m) (hq : q.length = m) (hs : s.length = m) : Thru p q (trim s) :=
 ⟨trim_trim s, (bdd_iff.2 (by rw [len_trim]; have := len_le s; omega)), fun i h1 h2 => by
  have := h i h1
  rw [if_pos (by omega), coef_of_lt h1, coef_of_lt h2] at this
  rw [eval_trim]; exact this⟩
theorem own_but {w w' : World} {B B0 : Nat} {S : Nat → Prop} {e : TypeId} {A : Option Addr} {n c : Nat} {xs : List Value} (h : Own w B e (.slice A n c) xs) (hb : But B0 S w w') (hB : w.heap.size ≤ B0) (hS : ∀ a, A = some a → ¬ S a.block) : Own w' B e (.slice A n c) xs := by
 refine ⟨h.1, ?_⟩
 rcases h.2 with hn | ⟨g, cap, cur, h1, h2, h3, h4⟩
 ·exact .inl hn
 ·refine .inr ⟨g, cap, cur, h1, h2, ?_, h4⟩
  injection h1 with h1
  have hlt : g < w.heap.size := (Array.getElem?_eq_some_iff.1 h3).1
  exact (hb.block g (by omega) (hS ⟨g, 0, none⟩ h1)).trans h3
def ThroughBad (pf : Option Addr) (w : World) (e : Ending) (w' : World) : Prop := PolyResE pf w w' e [] 2
def ThroughRes (pf : Option Addr) (w : World) (p q : List F8) (e : Ending) (w' : World) : Prop := ∃ r, Thru p q r ∧ PolyResE pf w w' e r 0
set_option maxRecDepth 100000 in
set_option maxHeartbeats 2000000 in
theorem through_bad (A B : Option Addr) (p : List F8) (m n c d : Nat) (w : World) (hl : p.length = m) (hb : Bytes w A (bs p)) (hc : m ≤ c) (hm : m ≤ 1000) (pf : Option Addr) (hf : FldP w pf) (hx : m ≠ n ∨ ¬ p.Nodup) :
  Calls Tryz.prog 78 #[.pointer pf, .slice A m c, .slice B n d] w (ThroughBad pf w) := by
 by_cases hmn : m = n
 ·subst hmn
  have hnd : ¬ p.Nodup := hx.resolve_left (by simp)
  have HT : Hid ((!decide p.Nodup) = true) := Lib.hid (by rw [decide_eq_false hnd]; rfl)
  have k1 : ((m : Int) != (m : Int)) = false := by simp
  have k2 : ((m : Int) == (m : Int)) = true := by simp
  clear hx hnd
  go_enter Tryz.func78, Tryz.ntmps78
  go_wp2_with (go_at_call 130; refine (twice_calls A p m c _ hl hb hc (by omega)).mono ?_; rintro e w1 ⟨rfl, hB1⟩; rw [HT.out])
  go_ret2
  exact ⟨none, 0, rfl, Nat.le_refl _, Own.nil _ _ _, hf.below hB1, Past.of_below hB1 _⟩
 ·have k1 : ((m : Int) == (n : Int)) = false := by simp; omega
  have k2 : ((m : Int) != (n : Int)) = true := by simp [bne, k1]
  clear hx
  go_enter Tryz.func78, Tryz.ntmps78
  go_wp2
  go_ret2
  exact ⟨none, 0, rfl, Nat.le_refl _, Own.nil _ _ _, hf, Past.refl _ _ _⟩
set_option maxRecDepth 100000 in
set_option maxHeartbeats 4000000 in
theorem through_pcalls (A B : Option Addr) (p q : List F8) (m c d : Nat) (w : World) (hl : p.length = m) (hl2 : q.length = m) (hb : Bytes w A (bs p)) (hb2 : Bytes w B (bs q)) (hc : m ≤ c) (hm : m ≤ 1000) (pf : Option Addr) (hf : FldP w pf) (hfar : Far pf A p) (hfar2 : Far pf B q) (hnd : p.Nodup) :
  Calls Tryz.prog 78 #[.pointer pf, .slice A m c, .slice B m d] w (ThroughRes pf w p q) := by
 have HT : Hid ((!decide p.Nodup) = false) := Lib.hid (by rw [decide_eq_true hnd]; rfl)
 have k1 : ((m : Int) != (m : Int)) = false := by simp
 have k2 : ((m : Int) == (m : Int)) = true := by simp
 have HB := Lib.hid hb
 have HB2 := Lib.hid hb2
 have HL := Lib.hid hl
 have HL2 := Lib.hid hl2
 have HND := Lib.hid hnd
 clear hb hb2 hl2 hnd
 go_enter Tryz.func78, Tryz.ntmps78
 go_wp2_with (go_at_call 130; refine (twice_calls A p m c _ hl HB.out hc (by omega)).mono ?_; rintro e w1 ⟨rfl, hB1⟩; rw [HT.out])
 have hs1 := hB1.size
 refine (orNew_f pf w _ hf hB1).mono ?_
 rintro e w2 ⟨g, rfl, hg, hF2, hB2⟩
 have hs2 := hB2.size
 have hBw2 := hB1.trans (hB2.mono hs1)
 have hfa := hg.far hs1 hfar HB.out
 have hfb := hg.far hs1 hfar2 HB2.out
 have hfag : Far (some ⟨g, 0, none⟩) A p := fun hp a b ha hb => by cases hb; exact (hfa hp a ha).1
 clear hfar hfar2 hf
 go_wp2_with fail
 refine (roots_pcalls A p m c _ hl (HB.out.below hBw2) (by omega) (some ⟨g, 0, none⟩) (FldP.of hF2) hfag).mono ?_
 rintro e w3 ⟨A3, c3, rfl, hc3, hO3, hF3, hP3⟩
 obtain ⟨al, hal⟩ : ∃ al, trim (roots p) = al := ⟨_, rfl⟩
 rw [hal] at hO3 hc3 ⊢
 have hall : al.length = m + 1 := by rw [← hal, roots_len, hl]
 have HAL := Lib.hid hal
 have HALL := Lib.hid hall
 rw [hall] at hO3 hc3 ⊢
 have hs3 := hP3.size
 have hPw3 : Past w.heap.size g w w3 := (Past.of_below hBw2 g).trans (hP3.mono (by omega))
 obtain ⟨w4, hmk, hO4, hB4⟩ := make_run w3 m (by omega)
 have hO3' := Lib.hid (hO3.below hB4)
 have hF3' := Lib.hid (hF3.fld.below hB4 hF3.fld.lt)
 have hP4 := Lib.hid (hPw3.trans (Past.of_below (hB4.mono (by omega)) g))
 have hlt3 := hF3.fld.lt
 have HO4 := Lib.hid hO4
 have hgs : g < w3.heap.size := hlt3
 have hA3 : ∀ a, A3 = some a → a.block < w3.heap.size := fun a ha => by subst ha; exact (hO3.lt a.block rfl).2
 clear hal hall hl
 go_wp2_with fail
 go_loopw [36] (fun i wr => ∃ (k : Nat) (s : List F8), k ≤ m ∧ i = .int .i64 k ∧ Hid (s.length = m) ∧ Hid (Partly p q s k) ∧ Hid (Own wr w3.heap.size 5 (.slice (some ⟨w3.heap.size, 0, none⟩) m m) (bv (bs s))) ∧ Hid (Own wr w2.heap.size 5 (.slice A3 (m + 1) c3) (bv (bs al))) ∧ Hid (Fld wr g) ∧ Hid (Past w.heap.size g w wr)) (fun i _ => m - (intOf i).toNat)
 case atStart =>
  refine ⟨0, List.replicate m 0, by omega, rfl, Lib.hid (by simp), Lib.hid (fun j hj => ?_), HO4, hO3', hF3', hP4⟩
  rw [if_neg (by omega)]
  refine eval_zero _ ((trim_nil_iff (p := List.replicate m (0 : F8))).1 ?_)
  rw [show List.replicate m (0 : F8) = [] ++ List.replicate m 0 from rfl]; exact trim_zeros m
 case round =>
  obtain ⟨k, s, hk, rfl, HSL, HPA, HS, HAl, HF, HP⟩ := hrel
  by_cases hkk : k < m
  ·have hsz := HP.out.size
   have HBr := bytes_far HB.out (fun hp a ha => (hfa hp a ha).1) HP.out
   have HBr2 := bytes_far HB2.out (fun hp a ha => (hfb hp a ha).1) HP.out
   obtain ⟨b, o, rfl⟩ := where_ HB.out (by have := HL.out; omega)
   obtain ⟨b2, o2, rfl⟩ := where_ HB2.out (by have := HL2.out; omega)
   have hcell := cellAt HBr k (by have := HL.out; omega)
   have hcell2 := cellAt HBr2 k (by have := HL2.out; omega)
   have hb2g := (hfb (by intro e; have := HL2.out; rw [e] at this; simp at this; omega) _ rfl).1
   simp only at hb2g
   obtain ⟨x, hx⟩ : ∃ x, coef p k = x := ⟨_, rfl⟩
   obtain ⟨y, hy⟩ : ∃ y, coef q k = y := ⟨_, rfl⟩
   rw [hx] at hcell
   rw [hy] at hcell2
   have HX := Lib.hid hx
   have HY := Lib.hid hy
   have hF1 : Fld (wr.alloc (.cells #[.int .u8 x.n] 5)) g := HF.out.alloc _
   have hX1 : Bytes (wr.alloc (.cells #[.int .u8 x.n] 5)) (some ⟨wr.heap.size, 0, none⟩) (bs [x]) := ⟨Row.new _ _ _ _, bs_lt _⟩
   have hFX : Far (some ⟨g, 0, none⟩) (some ⟨wr.heap.size, 0, none⟩) [x] := by
    intro _ a b ha hb
    cases ha; cases hb
    have := HF.out.lt
    simp; omega
   clear hx hy HBr HBr2
   go_wp2_with fail
   refine (roots_pcalls (some ⟨wr.heap.size, 0, none⟩) [x] 1 1 _ rfl hX1 (by omega) (some ⟨g, 0, none⟩) (FldP.of hF1) hFX).mono ?_
   rintro e V1 ⟨A4, c4, rfl, hc4, hO4b, hF4b, hP4b⟩
   rw [roots_one] at hO4b hc4 ⊢
   have hP1 : Past wr.heap.size g wr V1 := ((Past.refl _ _ _).alloc (Nat.le_refl _) _).trans (hP4b.mono (by simp))
   have hAl1 := own_keep HAl.out (FldP.of HF.out) hP1
   have hByA : Bytes V1 A3 (bs al) := Own.bytes (by have := hAl1; rwa [← HALL.out] at this)
   have hByX : Bytes V1 A4 (bs [x, 1]) := Own.bytes hO4b
   go_wp2_with fail
   refine (div_pcalls A3 A4 al [x, 1] (m + 1) 2 c3 c4 _ HALL.out rfl hByA hByX hc3 hc4 (by omega) (by omega) (some ⟨g, 0, none⟩) hF4b (far_own hF4b.fld hAl1) (far_own hF4b.fld hO4b) (by rw [len_lin]; omega)).mono ?_
   rintro e V2 ⟨u, v, hdv, A5, c5, B5, d5, rfl, hc5, hd5, hO5, hO5b, hF5, hP5⟩
   have hoth := others_of HND.out (by have := HL.out; omega) HX.out (by rw [HAL.out]; exact hdv)
   obtain ⟨hu1, hu2, hu3⟩ := hoth
   rw [HL.out] at hu1 hu3
   rw [hu1] at hO5 hc5
   have HU1 := Lib.hid hu1
   have HU3 := Lib.hid hu3
   obtain ⟨ev, hev⟩ : ∃ ev, eval u x = ev := ⟨_, rfl⟩
   have HEV := Lib.hid hev
   rw [hev] at hu2
   have HU2 := Lib.hid hu2
   have hP2 : Past wr.heap.size g wr V2 := hP1.trans (hP5.mono hP1.size)
   have hByU : Bytes V2 A5 (bs u) := Own.bytes (by have := hO5; rwa [← hu1] at this)
   have HByU := Lib.hid hByU
   have hFU := far_own hF5.fld hO5
   have hcy := (past_cell hP2 ⟨b2, o2 + k, none⟩ (cell_lt hcell2) (by simpa using hb2g)).trans hcell2
   have HF5 := Lib.hid hF5
   have HO5 := Lib.hid hO5
   have HP2 := Lib.hid hP2
   obtain ⟨fc, hfc⟩ : ∃ fc, y / ev = fc := ⟨_, rfl⟩
   have HFC := Lib.hid hfc
   have hdf : ∀ V, Fld V g → Calls Tryz.prog 59 #[.pointer (some ⟨g, 0, none⟩), .int .u8 y.n, .int .u8 ev.n] V fun e w' => e = .returned (.tuple #[.int .u8 fc.n, .bool true]) ∧ Fld w' g ∧ Past V.heap.size g V w' := fun V hV => by rw [← hfc]; exact div_f g y ev hu2 V hV
   have hat : ∀ V, Bytes V A5 (bs u) → Fld V g → Calls Tryz.prog 58 #[.pointer (some ⟨g, 0, none⟩), .slice A5 m c5, .int .u8 x.n] V (AtRes (some ⟨g, 0, none⟩) ev V) := fun V hB hV => by
    rw [← hev]; exact at_calls A5 u m c5 V hu1 hB (by omega) (some ⟨g, 0, none⟩) (FldP.of hV) hFU x
   rw [hu1]
   clear hu1 hu2 hu3 hev hfc hByU hP2 hO4b hF4b hP4b hAl1 hByA hByX hO5b hd5 hdv hX1 hFX hF1 hO5 hF5 hcell2
   go_wp2_with fail
   go_region_with (first
    | (go_at_call 58; refine (hat _ HByU.out.drew (show Fld V2.drew g from HF5.out.fld)).mono ?_; rintro e V3 ⟨rfl, hF6, hP6⟩; have hcy3 := (past_cell hP6 ⟨b2, o2 + k, none⟩ (cell_lt (show V2.drew.cell? ⟨b2, o2 + k, none⟩ = some _ from hcy)) (by simpa [rb] using hb2g)).trans (show V2.drew.cell? ⟨b2, o2 + k, none⟩ = some _ from hcy); have HP6 := Lib.hid hP6; have HF6 := Lib.hid hF6; clear hP6 hF6)
    | (go_at_call 59; refine (hdf _ HF6.out.fld).mono ?_; rintro e V4 ⟨rfl, hF7, hP7⟩; have HF7 := Lib.hid hF7; have HP7 := Lib.hid hP7; clear hF7 hP7))
   all_goals
    have hP24 : Past V2.heap.size g V2 V4 := (Past.refl V2.heap.size g V2).drew.trans ((show Past V2.heap.size g V2.drew V3 from HP6.out).trans (HP7.out.mono HP6.out.size))
    have hP4r : Past wr.heap.size g wr V4 := HP2.out.trans (hP24.mono HP2.out.size)
    have hS4 := own_keep HS.out (FldP.of HF.out) hP4r
    have hAl4 := own_keep HAl.out (FldP.of HF.out) hP4r
    have hU4 := own_keep HO5.out HF5.out hP24
    have hByU4 : Bytes V4 A5 (bs u) := Own.bytes (by have := hU4; rwa [← HU1.out] at this)
    have hwr := (Own.blk HS.out).2
    have hV1 := hP1.size
    have hVr := hP4r.size
    clear hcy hcy3 hat hdf
    go_wp2_with fail
    refine (addTimes_calls w3.heap.size g w3.heap.size m m 0 m m (some ⟨w3.heap.size, 0, none⟩) A5 s u m c5 fc V4 HF7.out hS4 HSL.out HU1.out (fun _ => rfl) (by rw [HSL.out]; omega) (Nat.le_refl _) hByU4 (fun hp a ha => ⟨by have := own_block hU4 a ha; omega, far_own HF7.out hU4 hp a _ ha rfl⟩) (by omega) (by rw [HSL.out]; omega)).mono ?_
    rintro e V5 ⟨rfl, ⟨s2, g1, g2, g3⟩, hF8, hU5⟩
    rw [HSL.out] at g1
    have G1 := Lib.hid g1
    have G3 := Lib.hid g3
    have HPA2 : Hid (Partly p q s2 (k + 1)) := Lib.hid (HPA.out.step (by have := HL.out; omega) HX.out (by rw [HEV.out]; exact HU2.out) (by rw [HL.out]; exact HU3.out) (by rw [HY.out, HEV.out]; exact HFC.out.symm) g2)
    have HAl5 := Lib.hid (own_but hAl4 hU5 (Nat.le_refl _) (fun a ha => by have h1 := hA3 a ha; have h2 := far_own HF.out HAl.out (by intro e; have := HALL.out; rw [e] at this; simp at this) a _ ha rfl; simp at h2; omega))
    have HF8 := Lib.hid hF8
    have HP8 : Hid (Past w.heap.size g w V5) := Lib.hid ((HP.out.trans (hP4r.mono hsz)).trans ((hU5.mono (S' := (· = g)) (by omega) (fun i hi h => by omega)).past))
    clear g1 g2 g3 hF8 hU5
    go_wp2
    go_roundw
    case rel => exact ⟨k + 1, s2, by omega, by go_num, G1, HPA2, G3, HAl5, HF8, HP8⟩
    case measure => simp [intOf]; omega
  ·obtain rfl : k = m := by omega
   have hthru := Lib.hid (HPA.out.all HL.out HL2.out HSL.out)
   have hby := Lib.hid (Own.bytes (by have := HS.out; rwa [← HSL.out] at this))
   obtain ⟨n3, hn3⟩ : ∃ k, len s = k := ⟨_, rfl⟩
   have HN3 := Lib.hid hn3
   have hsz := HP.out.size
   clear hn3 hkk hk
   go_wp2_with (go_at_call 120; refine (trimmed_calls (some ⟨w3.heap.size, 0, none⟩) s k k _ HSL.out hby.out (Nat.le_refl _) (by omega)).mono ?_; rintro e w5 ⟨A5, rfl, hcut, hB5⟩; rw [HN3.out])
   go_ret2
   have hfin := (hcut.own HSL.out (HS.out.below hB5))
   have hlt : (trim s).length = len s := rfl
   refine ⟨trim s, hthru.out, A5, k, by rw [hlt, HN3.out]; rfl, by have := trim_le s; rw [HSL.out] at this; exact this, ?_, hg.fldP (HF.out.below hB5 HF.out.lt), hg.past hs1 (HP.out.trans (Past.of_below (hB5.mono hsz) g))⟩
   rw [hlt]; exact Own.more hfin (by omega)
theorem spec : Spec where
 trimP A p m c w hl hb hc hm := trim_calls A p m c w hl hb hc (by omega)
 degreeP A p m c w hl hb hc hm := degree_calls A p m c w hl hb hc (by omega)
 mulP A B p q m n c d w hl hl2 hb hb2 hc hd hm hn pf hf hfar hfar2 := mul_pcalls A B p q m n c d w hl hl2 hb hb2 hc hd (by omega) (by omega) pf hf hfar hfar2
 divP_zero A B p q m n c d w hl hl2 hb hb2 hc hd hm hn pf hf hfar hfar2 hz := div_pzero A B q m n c d w hl2 hb2 hd (by omega) pf hf hz
 divP A B p q m n c d w hl hl2 hb hb2 hc hd hm hn pf hf hfar hfar2 hz := div_pcalls A B p q m n c d w hl hl2 hb hb2 hc hd (by omega) (by omega) pf hf hfar hfar2 hz
 atP A p m c w hl hb hc hm pf hf hfar x := at_calls A p m c w hl hb (by omega) pf hf hfar x
 rootsP A p m c w hl hb hc hm pf hf hfar := roots_pcalls A p m c w hl hb hm pf hf hfar
 throughP_bad A B p q m n c d w hl hl2 hb hb2 hc hd hm hn pf hf hfar hfar2 hx := through_bad A B p m n c d w hl hb hc hm pf hf hx
 throughP A B p q m n c d w hl hl2 hb hb2 hc hd hm hn pf hf hfar hfar2 hx hnd := by
  subst hx
  exact through_pcalls A B p q m c d w hl hl2 hb hb2 hc hm pf hf hfar hfar2 hnd
end Go.Proofs.YtofihklinkpbiaaGreat.Poly

namespace Go.Proofs.YtofihklinkpbiaaGreat
open Go.RowKit
section
variable {n : Int}
theorem wf_bounds_u8 (h : (Lit.int .u8 n).wf = true) : 0 ≤ n ∧ n ≤ 255 := by
 simp [Lit.wf, IntKind.min, IntKind.max, IntKind.signed, IntKind.bits] at h
 omega
theorem wf_bounds_u16 (h : (Lit.int .u16 n).wf = true) : 0 ≤ n ∧ n ≤ 65535 := by
 simp [Lit.wf, IntKind.min, IntKind.max, IntKind.signed, IntKind.bits] at h
 omega
theorem wf_bounds_u32 (h : (Lit.int .u32 n).wf = true) : 0 ≤ n ∧ n ≤ 4294967295 := by
 simp [Lit.wf, IntKind.min, IntKind.max, IntKind.signed, IntKind.bits] at h
 omega
theorem wf_bounds_u64 (h : (Lit.int .u64 n).wf = true) : 0 ≤ n ∧ n ≤ 18446744073709551615 := by
 simp [Lit.wf, IntKind.min, IntKind.max, IntKind.signed, IntKind.bits] at h
 omega
theorem wf_bounds_i8 (h : (Lit.int .i8 n).wf = true) : -128 ≤ n ∧ n < 128 := by
 simp [Lit.wf, IntKind.min, IntKind.max, IntKind.signed, IntKind.bits] at h
 omega
theorem wf_bounds_i16 (h : (Lit.int .i16 n).wf = true) : -32768 ≤ n ∧ n < 32768 := by
 simp [Lit.wf, IntKind.min, IntKind.max, IntKind.signed, IntKind.bits] at h
 omega
theorem wf_bounds_i32 (h : (Lit.int .i32 n).wf = true) : -2147483648 ≤ n ∧ n < 2147483648 := by
 simp [Lit.wf, IntKind.min, IntKind.max, IntKind.signed, IntKind.bits] at h
 omega
theorem wf_bounds_i64 (h : (Lit.int .i64 n).wf = true) : -9223372036854775808 ≤ n ∧ n < 9223372036854775808 := by
 simp [Lit.wf, IntKind.min, IntKind.max, IntKind.signed, IntKind.bits] at h
 omega
end
theorem bytes_of {W : World} {x : Addr} {len cap : Nat} {zs : List Int} (hl : len ≤ cap) (hz : zs.length = cap) (hcell : ∀ i, i < zs.length → W.cell? (x.add i) = some (.int .u8 (zs.getD i 0)))
  (hwz : ∀ n ∈ zs, (Lit.int .u8 n).wf = true) : Bytes W (some x) ((zs.take len).map Int.toNat) ∧ ((zs.take len).map Int.toNat).length = len := by
 have hw : ∀ n ∈ zs, 0 ≤ n ∧ n < 256 := fun n hn => by
  have := bounds_u8 (hwz n hn); omega
 have hlen : ((zs.take len).map Int.toNat).length = len := by rw [List.length_map, List.length_take]; omega
 refine ⟨⟨?_, ?_⟩, hlen⟩
 ·intro k u hu
  have hk : k < len := by have := (List.getElem?_eq_some_iff.1 hu).1; rw [bv_length, hlen] at this; exact this
  have hc := hcell k (by omega)
  have hs : (x.add k).spot = none := World.cell?_spot hc
  have hx : x.spot = none := by
   by_cases h0 : k = 0
   ·subst h0; simpa [Addr.add] using hs
   ·have h0 := hcell 0 (by omega); have := World.cell?_spot h0; simpa [Addr.add] using this
  obtain ⟨b, off, spot⟩ := x
  obtain rfl : spot = none := hx
  refine ⟨b, off, rfl, ?_⟩
  have e : (⟨b, off, none⟩ : Addr).add k = ⟨b, off + k, none⟩ := by unfold Addr.add; split <;> simp_all
  rw [e] at hc
  rw [hc]
  have hkz : k < zs.length := by omega
  simp only [bv, List.map_map, List.getElem?_map, List.getElem?_take, if_pos hk, List.getElem?_eq_getElem hkz, Option.map_some, Function.comp] at hu
  rw [← hu, List.getD_eq_getElem?_getD, List.getElem?_eq_getElem hkz]
  have := hw _ (List.getElem_mem hkz)
  simp [Int.toNat_of_nonneg this.1]
 ·intro c hc
  obtain ⟨n, hn, rfl⟩ := List.mem_map.1 hc
  have := hw n (List.mem_of_mem_take hn)
  omega
end Go.Proofs.YtofihklinkpbiaaGreat

namespace Go.Proofs.YtofihklinkpbiaaGreat.Pt
open Go.RowKit Go.Shelf Poly GF
attribute [local go_sem] Oper.semAt_some
def RPts (w : World) (r : List Nat × Int) (e : Ending) (w' : World) : Prop :=
 ∃ v, e = .returned (.tuple #[v, .int .i64 r.2]) ∧ Own w' w.heap.size 5 v (bv r.1) ∧ Below w.heap.size w w'
theorem gpts_take {s t G c e : Nat} (hc : c < G) (he : e < s) : bv ((gpts s t G).take (c * s + e + 1)) = bv ((gpts s t G).take (c * s + e)) ++ [.int .u8 (gp (c + e * t) : Nat)] := by
 have h := gpts_at (t := t) hc he
 obtain ⟨hl, hv⟩ := List.getElem?_eq_some_iff.1 h
 have hl' : c * s + e < (gpts s t G).length := by rwa [bv_length] at hl
 rw [take_succ' _ hl', bv_append]
 congr 1
 rw [← hv]
 simp [bv]
theorem gpow_gp (t e : Nat) (he : e < 255) : gpow (gp t) (e : Int) = gp (t * e) := by
 rw [← rpow_eq (gp_lt t) (gp_ne t), ← rpow_gp]
 congr 1
 omega
theorem gpt_val (c t e : Nat) (he : e < 255) : gm (gp c) (gpow (gp t) (e : Int)) = gp (c + e * t) := by
 rw [gpow_gp t e he, gm_pow, Nat.mul_comm]
set_option maxRecDepth 100000 in
set_option maxHeartbeats 2000000 in
theorem refCosets_calls (r G : Int) (w : World) : Calls Tryz.prog 128 #[.int .i64 r, .int .i64 G] w (RPts w (cosetsR r G)) := by
 by_cases h0 : r < 1
 ·have e1 : cosetsR r G = ([], 2) := if_neg (by omega)
  rw [e1]
  go_enter Tryz.func128, Tryz.ntmps128
  go_wp2
  go_ret2
  exact ⟨_, rfl, Own.nil _ _ _, Below.refl _ _⟩
 by_cases h2 : 254 < r
 ·have e1 : cosetsR r G = ([], 2) := if_neg (by omega)
  rw [e1]
  go_enter Tryz.func128, Tryz.ntmps128
  go_wp2
  go_ret2
  exact ⟨_, rfl, Own.nil _ _ _, Below.refl _ _⟩
 obtain ⟨m, rfl⟩ : ∃ m : Nat, r = (m : Int) := ⟨r.toNat, by omega⟩
 obtain ⟨s, hs⟩ : ∃ s : Nat, m + 1 = s := ⟨_, rfl⟩
 have hs1 : (m : Int) + 1 = (s : Int) := by omega
 have hsn : ¬ ((s : Int) = 0) := by omega
 have hmod : (255 : Int).tmod (s : Int) = ((255 % s : Nat) : Int) := by rw [Int.tmod_eq_emod_of_nonneg (by decide)]; simp
 have hmod2 : (255 : Int) % (s : Int) = ((255 % s : Nat) : Int) := by simp
 have hdiv : (255 : Int).tdiv (s : Int) = ((255 / s : Nat) : Int) := by rw [Int.tdiv_eq_ediv_of_nonneg (by decide)]; simp
 have hdiv2 : (255 : Int) / (s : Int) = ((255 / s : Nat) : Int) := by simp
 have hR : cosetsR (m : Int) G = if 255 % s = 0 ∧ 0 ≤ G ∧ G ≤ ((255 / s : Nat) : Int) then (gpts s (255 / s) G.toNat, 0) else ([], 2) := by
  unfold cosetsR
  rw [hs1, hmod2, hdiv2, Int.toNat_natCast, hs]
  by_cases h : 255 % s = 0 ∧ 0 ≤ G ∧ G ≤ ((255 / s : Nat) : Int)
  ·rw [if_pos h, if_pos (by omega)]
  ·rw [if_neg h, if_neg (by omega)]
 have hdle : 255 / s ≤ 255 := Nat.div_le_self _ _
 have hmle : 255 % s ≤ 255 := Nat.mod_le _ _
 rw [hR]
 clear hR hmod2 hdiv2
 obtain ⟨t, ht⟩ : ∃ t, 255 / s = t := ⟨_, rfl⟩
 obtain ⟨q, hq⟩ : ∃ q, 255 % s = q := ⟨_, rfl⟩
 have hprod : t * s ≤ 255 := by rw [← ht]; exact Nat.div_mul_le_self _ _
 rw [ht] at hdiv hdle ⊢
 rw [hq] at hmod hmle ⊢
 have HS := Lib.hid hs
 clear ht hq
 by_cases h3 : q = 0
 ·subst h3
  by_cases h4 : G < 0
  ·rw [if_neg (by omega)]
   go_enter Tryz.func128, Tryz.ntmps128
   go_wp2
   go_ret2
   exact ⟨_, rfl, Own.nil _ _ _, Below.refl _ _⟩
  by_cases h5 : (t : Int) < G
  ·rw [if_neg (by omega)]
   go_enter Tryz.func128, Tryz.ntmps128
   go_wp2
   go_ret2
   exact ⟨_, rfl, Own.nil _ _ _, Below.refl _ _⟩
  obtain ⟨k, rfl⟩ : ∃ k : Nat, G = (k : Int) := ⟨G.toNat, by omega⟩
  rw [if_pos (by omega), Int.toNat_natCast]
  have hkt : k ≤ t := by omega
  have hks : k * s ≤ 255 := Nat.le_trans (Nat.mul_le_mul_right s hkt) hprod
  have hms : m < s := by omega
  have HK : Hid (k ≤ t) := Lib.hid hkt
  have HP : Hid (k * s ≤ 255) := Lib.hid hks
  clear hprod hs hkt hks
  have HG : Hid (gpow 2 (t : Int) = gp t) := Lib.hid (by rw [gpow_two, ge_nat])
  go_enter Tryz.func128, Tryz.ntmps128
  go_wp2_with fail
  refine (refPow_calls 2 (by decide) (t : Int) (by omega) (by omega) _).mono ?_
  rintro e w1 ⟨rfl, rfl⟩
  rw [HG.out]
  go_wp2
  go_loopw [7, 8] (fun v i wr => ∃ c : Nat, c ≤ k ∧ i = .int .i64 c ∧ Own wr w.heap.size 5 v (bv ((gpts s t k).take (c * s))) ∧ Below w.heap.size w wr) (fun _ i _ => k - (intOf i).toNat)
  case atStart => exact ⟨0, Nat.zero_le _, rfl, by rw [Nat.zero_mul]; exact Own.nil _ _ _, Below.refl _ _⟩
  case round =>
   obtain ⟨c, hck, rfl, hO, hB⟩ := hrel
   by_cases hlt : c < k
   ·obtain ⟨A, cc, rfl, _⟩ := hO.form
    generalize (bv ((gpts s t k).take (c * s))).length = ll at hO ⊢
    go_wp2
    go_loopw [7, 9] (fun v i wr2 => ∃ e : Nat, e ≤ s ∧ i = .int .i64 e ∧ Own wr2 w.heap.size 5 v (bv ((gpts s t k).take (c * s + e))) ∧ Below w.heap.size w wr2) (fun _ i _ => s - (intOf i).toNat)
    case atStart => exact ⟨0, Nat.zero_le _, rfl, hO, hB⟩
    case round =>
     obtain ⟨e, hes, rfl, hO2, hB2⟩ := hrel
     have hsz := hB2.size
     obtain ⟨A2, cc2, rfl, _⟩ := hO2.form
     have hll : (bv ((gpts s t k).take (c * s + e))).length ≤ 255 := by
      have := HP.out
      rw [bv_length, List.length_take, gpts_length]; omega
     obtain ⟨l2, hl2⟩ : ∃ l2, (bv ((gpts s t k).take (c * s + e))).length = l2 := ⟨_, rfl⟩
     rw [hl2] at hO2 hll ⊢
     have HL := Lib.hid hl2
     clear hl2
     by_cases hel : e < s
     ·have hem : ¬ ((m : Int) < (e : Int)) := by have := HS.out; omega
      have he255 : e < 255 := by have := HS.out; omega
      have HT := Lib.hid (gpts_take (t := t) hlt hel)
      have HV := Lib.hid (gpt_val c t e he255)
      have HC : Hid (gpow 2 (c : Int) = gp c) := Lib.hid (by rw [gpow_two, ge_nat])
      have hcb : c < 256 := by have := HK.out; omega
      go_wp2_with fail
      refine (refPow_calls 2 (by decide) (c : Int) (by omega) (by omega) _).mono ?_
      rintro ee w1 ⟨rfl, rfl⟩
      rw [HC.out]
      go_wp2_with fail
      refine (refPow_calls (gp t) (gp_lt t) (e : Int) (by omega) (by omega) _).mono ?_
      rintro ee w1 ⟨rfl, rfl⟩
      go_wp2_with fail
      refine (refMul_calls (gp c) (gpow (gp t) (e : Int)) (gp_lt c) (gpow_lt _ _) _).mono ?_
      rintro ee w1 ⟨rfl, rfl⟩
      rw [HV.out]
      generalize hgv : gp (c + e * t) = gv at HT ⊢
      clear hgv HV
      go_wp2_with (at_builtin; refine wpList_app _ rfl _ _ 22 rfl w.heap.size 5 (.int .u8 0) 1 Tryz.underlying22 info_b rfl (by decide) _ _ rfl (hO2.alloc _) _ 1 1 [.int .u8 (gv : Nat)] rfl rfl (Row.new _ _ _ _) (by intro u hu; obtain rfl := List.mem_singleton.1 hu; rfl) (by rw [HL.out]; omega) (by simp; omega) ?_; rintro v2 w2 hO3 hgr hb)
      have hB3 := (hB2.alloc hsz _).trans ((hO2.alloc _).grew (by simp; omega) hgr)
      go_roundw
      case rel => exact ⟨e + 1, by omega, by go_num, by rw [← Nat.add_assoc, HT.out]; exact hO3, hB3⟩
      case measure => simp [intOf]; omega
     ·obtain rfl : e = s := by omega
      have hem : (m : Int) < (e : Int) := by omega
      have hnx : c * e + e = (c + 1) * e := by rw [Nat.add_mul, Nat.one_mul]
      rw [hnx] at hO2
      clear hnx HL
      go_wp2
      go_roundw
      case rel => exact ⟨c + 1, by omega, by go_num, hO2, hB2⟩
      case measure => simp [intOf]; omega
   ·obtain rfl : c = k := by omega
    have ht : (gpts s t c).take (c * s) = gpts s t c := List.take_of_length_le (by rw [gpts_length]; exact Nat.le_refl _)
    rw [ht] at hO
    clear ht
    obtain ⟨A, cc, rfl, _⟩ := hO.form
    generalize (bv (gpts s t c)).length = ll at hO ⊢
    go_wp2
    go_ret2
    exact ⟨_, rfl, hO, hB⟩
 ·rw [if_neg (by omega)]
  have h6 : ¬ ((q : Int) = 0) := by omega
  go_enter Tryz.func128, Tryz.ntmps128
  go_wp2
  go_ret2
  exact ⟨_, rfl, Own.nil _ _ _, Below.refl _ _⟩
end Go.Proofs.YtofihklinkpbiaaGreat.Pt
