/- Of the program, joined: MsSt, MsLaw. -/
import Derived.Test.YtjoghbmedfmioaaGreatPb23
import Derived.Test.YtjoghbmedfmioaaGreatPb03
namespace Go.Proofs.YtjoghbmedfmioaaGreat.Ms
open Go.RowKit Go.Shelf F8 Poly GF Rd
attribute [local go_sem] Oper.semAt_some
def fb (x : Nat) (h : x < 256 := by decide) : F8 := ⟨x, h⟩
theorem wrongs_nil {n : Nat} {S : Nat → List F8} {sh : List (Int × List F8)} (h : ∀ o ∈ sh, 0 ≤ o.1 ∧ o.2 = S o.1.toNat) : wrongs n S sh = [] := by
 unfold wrongs
 rw [List.filter_eq_nil_iff.2 (fun j _ => ?_)]
 ·rfl
 ·rw [Bool.not_eq_true, List.any_eq_false]
  intro o ho hd
  obtain ⟨e1, e2⟩ := of_decide_eq_true hd
  obtain ⟨_, h2⟩ := h o ho
  rw [e1, Int.toNat_natCast] at h2
  exact e2 h2
theorem wex {M N : Nat → List F8} (hc : Cw (Rd.pts 5) 1 0 M N) (h0 : node (Rd.pts 5) 0 1 M N 0 = [fb 5]) (h1 : node (Rd.pts 5) 0 1 M N 1 = [fb 6]) :
  node (Rd.pts 5) 0 1 M N 2 = [0] ∧ node (Rd.pts 5) 0 1 M N 3 = [fb 12] ∧ node (Rd.pts 5) 0 1 M N 4 = [fb 20] := by
 obtain ⟨m, hm⟩ : ∃ m, M 0 = [m] := by
  have := hc.sm.len 0 (by omega)
  match hM : M 0, this with
  | [m], _ => exact ⟨m, rfl⟩
 obtain ⟨q, hq⟩ : ∃ q, N 0 = [q] := by
  have := hc.sn.len 0 (by omega)
  match hN : N 0, this with
  | [q], _ => exact ⟨q, rfl⟩
 have key : ∀ j, node (Rd.pts 5) 0 1 M N j = [m + coef (Rd.pts 5) (0 + j) * q] := fun j => by
  unfold node shr
  show [Poly.eval (M 0) (coef (Rd.pts 5) (0 + j)) + xpow (coef (Rd.pts 5) (0 + j)) 1 * Poly.eval (N 0) (coef (Rd.pts 5) (0 + j))] = _
  rw [hm, hq]
  have e1 : ∀ x y : F8, Poly.eval [x] y = x := fun x y => by show x + y * 0 = x; rw [mul_zero, add_zero]
  rw [e1, e1, show xpow (coef (Rd.pts 5) (0 + j)) 1 = coef (Rd.pts 5) (0 + j) by rw [Wl.xpow_succ]; show _ * 1 = _; rw [mul_one]]
 rw [key] at h0 h1
 have c0 : coef (Rd.pts 5) (0 + 0) = 1 := by decide
 have c1 : coef (Rd.pts 5) (0 + 1) = fb 2 := by decide
 have c2 : coef (Rd.pts 5) (0 + 2) = fb 4 := by decide
 have c3 : coef (Rd.pts 5) (0 + 3) = fb 8 := by decide
 have c4 : coef (Rd.pts 5) (0 + 4) = fb 16 := by decide
 rw [c0] at h0
 rw [c1] at h1
 have e0 : m + 1 * q = fb 5 := by injection h0
 have e1 : m + fb 2 * q = fb 6 := by injection h1
 rw [one_mul] at e0
 have e2 : fb 3 * q = fb 3 * 1 := by
  rw [show fb 3 = 1 + fb 2 by decide, add_mul, one_mul, mul_one]
  have : q + fb 2 * q = (m + q) + (m + fb 2 * q) := by
   rw [show m + q + (m + fb 2 * q) = (m + m) + (q + fb 2 * q) by ac_rfl, F8.add_self, zero_add]
  rw [this, e0, e1]; decide
 have hq1 : q = 1 := F8.mul_left_cancel (by decide) e2
 subst hq1
 have hm4 : m = fb 4 := by
  have : m = (m + 1) + 1 := by rw [add_add_self]
  rw [this, e0]; decide
 subst hm4
 rw [key, key, key, c2, c3, c4]
 decide +kernel
structure Lw (S : Co) (w : World) (V : World) : Prop where
 ok : S.Ok V
 bel : Below w.heap.size w V
 gw : w.heap.size ≤ S.g
section
variable {S : Co} {w V V' : World}
theorem Lw.go (h : Lw S w V) (hf : FldP V' (some ⟨S.g, 0, none⟩)) (hp : Past V.heap.size S.g V V') : Lw S w V' := ⟨h.ok.past hf hp, h.bel.trans ((hp.mono h.bel.size).below h.gw), h.gw⟩
theorem Lw.below (h : Lw S w V) (hb : Below V.heap.size V V') : Lw S w V' := h.go (h.ok.fld.below hb) (Past.of_below hb _)
theorem Lw.alloc (h : Lw S w V) (o : Obj) : Lw S w (V.alloc o) := h.below ((Below.refl _ _).alloc (Nat.le_refl _) o)
end
theorem new_not (PS : Poly.Spec) (g : Nat) (n k d : Int) (w : World) (hf : FldP w (some ⟨g, 0, none⟩)) (hn1 : -9223372036854775808 ≤ n) (hn2 : n < 9223372036854775808) (hk1 : -9223372036854775808 ≤ k) (hk2 : k < 9223372036854775808) (hd1 : -9223372036854775808 ≤ d) (hd2 : d < 9223372036854775808) (hno : ¬ Good n k d) :
  Calls Tryz.prog 29 #[.pointer (some ⟨g, 0, none⟩), .int .i64 n, .int .i64 k, .int .i64 d] w fun e w' => e = .returned (.tuple #[.pointer none, .int .i64 2]) ∧ FldP w' (some ⟨g, 0, none⟩) ∧ Past w.heap.size g w w' :=
 (new_calls PS g n k d w hf hn1 hn2 hk1 hk2 hd1 hd2).mono fun e w' h => by
  rcases h with ⟨h, -⟩ | ⟨-, h⟩
  ·exact absurd h hno
  ·exact h
theorem good522 : Good 5 2 2 := ⟨by decide, by decide⟩
set_option maxRecDepth 100000 in
set_option maxHeartbeats 16000000 in
theorem works_calls (PS : Poly.Spec) (Z : Wl.Spec) (w : World) : Calls Tryz.prog 28 #[] w fun e w' => e = .returned (.bool true) ∧ Below w.heap.size w w' := by
 go_enter Tryz.func28, Tryz.ntmps28
 go_wp2_with fail
 refine (GF.new_calls w).mono ?_
 rintro e w1 ⟨rfl, hw1⟩
 obtain ⟨g, hg⟩ : ∃ g, w.heap.size = g := ⟨_, rfl⟩
 have hF1 : FldP w1 (some ⟨g, 0, none⟩) := FldP.of (by rw [hw1, ← hg]; exact Fld.new w)
 have hB1 : Below g w w1 := by rw [hw1, ← hg]; exact (Below.refl _ _).alloc (Nat.le_refl _) _
 rw [hg]
 have HF1 := Lib.hid hF1
 have HB1 := Lib.hid hB1
 clear hw1 hF1 hB1
 go_wp2_with fail
 refine (new_calls PS g 5 2 2 w1 HF1.out (by decide) (by decide) (by decide) (by decide) (by decide) (by decide)).mono ?_
 rintro e w2 hN
 rcases hN with ⟨-, S, hok, hSg, hSn, hSk, hSd, -, rfl, hp2⟩ | ⟨hno, -⟩
 rotate_left
 ·exact absurd good522 hno
 have hn := hok.nums
 have eSn : S.n = 5 := by omega
 have eSk : S.k = 2 := by omega
 have eSd : S.d = 2 := by omega
 have eSa : S.a = 1 := by omega
 have eSv : S.v = 0 := by omega
 have eSx : S.xs = Rd.pts 5 := by rw [hok.xs_, hok.nx_, eSn, eSv]
 have hbel : Below g w w2 := HB1.out.trans (Past.below (hp2.mono (show g ≤ w1.heap.size by have := HB1.out.size; omega)) (Nat.le_refl g))
 have HL := Lib.hid (⟨hok, by rw [hg]; exact hbel, by omega⟩ : Lw S w w2)
 have ESn := Lib.hid eSn
 have ESk := Lib.hid eSk
 have ESa := Lib.hid eSa
 have ESv := Lib.hid eSv
 have ESx := Lib.hid eSx
 have ESd := Lib.hid eSd
 have HSg := Lib.hid hSg
 have HG := Lib.hid hg
 clear hok hSn hSk hSd hp2 hn eSn eSk eSa eSv eSx eSd HF1 HB1 hg hbel
 go_wp2_with fail
 have HL3 := Lib.hid (HL.out.alloc (.cells #[.int .u8 5, .int .u8 6] 5))
 have hEn := encode_calls PS Z HL3.out.ok (some ⟨w2.heap.size, 0, none⟩) [fb 5, fb 6] 2 2 rfl (by rw [ESk.out, ESa.out]) (bf_new HL.out.ok.fld.fld #[.int .u8 5, .int .u8 6] [fb 5, fb 6] rfl) (Nat.le_refl _)
 rw [ESn.out] at hEn
 with_reducible refine hEn.mono ?_
 clear hEn
 rintro e w4 ⟨A4, c4, l4, M, N, rfl, hc4, hO4, hL4, hCw, hch, hls, hf4, hp4⟩
 have HL4 := Lib.hid (HL3.out.go hf4 hp4)
 have HS4 : Hid (Shs S.g w4 A4 l4) := Lib.hid ⟨Mat.Own.row' (own1_of hO4).1, hL4.lst hf4⟩
 rw [ESx.out, ESa.out, ESv.out] at hCw hch
 rw [ESx.out, ESa.out, ESv.out] at hls
 have hn0 : node (Rd.pts 5) 0 1 M N 0 = [fb 5] := hch 0 (by rw [ESk.out]; omega)
 have hn1 : node (Rd.pts 5) 0 1 M N 1 = [fb 6] := hch 1 (by rw [ESk.out]; omega)
 have hex := wex hCw hn0 hn1
 have HCw := Lib.hid hCw
 have HN0 := Lib.hid hn0
 have HN1 := Lib.hid hn1
 have HEx := Lib.hid hex
 have HLs := Lib.hid hls
 clear hO4 hL4 hCw hch hls hf4 hp4 hn0 hn1 hex HL HL3 hc4
 go_wp2_with fail
 have hHe := help_calls PS (HL4.out.alloc (.cells #[.int .u8 6] 5)).ok 1 0 (by rw [ESn.out]; omega) (by rw [ESn.out]; omega) (by omega) (some ⟨w4.heap.size, 0, none⟩) [fb 6] 1 1 rfl ESa.out.symm (bf_new HL4.out.ok.fld.fld #[.int .u8 6] [fb 6] rfl) (Nat.le_refl _)
 rw [show (Poly.eval [fb 6] (coef S.xs (S.v + 0))).n = 6 by rw [ESx.out, ESv.out]; decide, show ((1 : Nat) : Int) = 1 from rfl, show ((0 : Nat) : Int) = 0 from rfl] at hHe
 with_reducible refine hHe.mono ?_
 clear hHe
 rintro e w5 ⟨rfl, hf5, hp5⟩
 have HS5 := Lib.hid ((HS4.out.below ((Below.refl _ _).alloc (Nat.le_refl _) (.cells #[.int .u8 6] 5))).past (HL4.out.alloc (.cells #[.int .u8 6] 5)).ok.fld.fld hp5)
 have HL5 := Lib.hid ((HL4.out.alloc (.cells #[.int .u8 6] 5)).go hf5 hp5)
 clear hf5 hp5 HS4 HL4
 go_wp2_with fail
 obtain ⟨V5, hV5⟩ : ∃ V5, ((w5.alloc (.cells #[.int .u8 6] 5)).alloc (.cells #[.int .u8 0] 5)).alloc (.cells #[.int .i64 1, .slice (some ⟨w5.heap.size, 0, none⟩) 1 1, .int .i64 2, .slice (some ⟨w5.heap.size + 1, 0, none⟩) 1 1] 54) = V5 := ⟨_, rfl⟩
 have he : Els S.g V5 (some ⟨w5.heap.size + 1 + 1, 0, none⟩) [⟨1, some ⟨w5.heap.size, 0, none⟩, [fb 6], 1⟩, ⟨2, some ⟨w5.heap.size + 1, 0, none⟩, [0], 1⟩] := by
  rw [← hV5]; exact two_els (HL5.out.ok.fld.fld) 1 2 (fb 6) 0
 have hb5 : Below w5.heap.size w5 V5 := by rw [← hV5]; exact (((Below.refl _ _).alloc (Nat.le_refl _) _).alloc (by simp) _).alloc (by simp; omega) _
 rw [hV5]
 have hLv := HL5.out.below hb5
 have hRe := repair_calls PS Z hLv.ok 0 (some ⟨w5.heap.size + 1 + 1, 0, none⟩) _ 2 2 0 (by decide) (by decide) rfl (by decide) he
 with_reducible refine hRe.mono ?_
 rintro e w6 ⟨ms6, wl6, z6, hR6, A6, c6, B6, d6, rfl, hc6, hd6, hO6, hO6w, hf6, hp6⟩
 have hsh : shE [⟨1, some ⟨w5.heap.size, 0, none⟩, [fb 6], 1⟩, ⟨2, some ⟨w5.heap.size + 1, 0, none⟩, [0], 1⟩] = [((1 : Int), [fb 6]), (2, [0])] := rfl
 have hg6 := ris_good (xs := S.xs) (n := S.n) (d := S.d) (a := S.a) (v := S.v) (t := 0) (to := 0) (M := M) (N := N) (sh := [((1 : Int), [fb 6]), (2, [0])]) (by rw [ESx.out, ESa.out, ESv.out]; exact HCw.out) (by rw [ESn.out]; exact ⟨by decide, by decide, by decide, by decide, by decide⟩) (by rw [ESd.out]; decide) (by
  rw [ESx.out, ESa.out, ESv.out, wrongs_nil]
  ·decide
  ·intro o ho
   simp only [List.mem_cons, List.not_mem_nil, or_false] at ho
   unfold helpsOf
   rcases ho with rfl | rfl
   ·refine ⟨by decide, ?_⟩
    show [fb 6] = [Poly.eval (node (pts 5) 0 1 M N 1) _]
    rw [HN1.out]; decide
   ·refine ⟨by decide, ?_⟩
    show [0] = [Poly.eval (node (pts 5) 0 1 M N 2) _]
    rw [HEx.out.1]; decide)
 rw [hsh] at hR6
 obtain ⟨hm6, -, hz6⟩ := hR6.only hLv.ok.par hg6
 rw [ESx.out, ESa.out, ESv.out, show ((0 : Int)).toNat = 0 from rfl, HN0.out] at hm6
 subst hm6 hz6
 have HBr := Lib.hid (BF.own hf6 hO6)
 have HS6 := Lib.hid ((HS5.out.below hb5).past hLv.ok.fld.fld hp6)
 have HL6 := Lib.hid (hLv.go hf6 hp6)
 clear hO6 hO6w hf6 hp6 hR6 hg6 hsh hRe hLv hb5 he hV5 HS5 HL5 hc6 hd6
 go_wp2_with fail
 obtain ⟨V6, hV6⟩ : ∃ V6, ((w6.alloc (.cells #[.int .u8 12] 5)).alloc (.cells #[.int .u8 20] 5)).alloc (.cells #[.int .i64 3, .slice (some ⟨w6.heap.size, 0, none⟩) 1 1, .int .i64 4, .slice (some ⟨w6.heap.size + 1, 0, none⟩) 1 1] 54) = V6 := ⟨_, rfl⟩
 have he : Els S.g V6 (some ⟨w6.heap.size + 1 + 1, 0, none⟩) [⟨3, some ⟨w6.heap.size, 0, none⟩, [fb 12], 1⟩, ⟨4, some ⟨w6.heap.size + 1, 0, none⟩, [fb 20], 1⟩] := by
  rw [← hV6]; exact two_els (HL6.out.ok.fld.fld) 3 4 (fb 12) (fb 20)
 have hb6 : Below w6.heap.size w6 V6 := by rw [← hV6]; exact (((Below.refl _ _).alloc (Nat.le_refl _) _).alloc (by simp) _).alloc (by simp; omega) _
 rw [hV6]
 have hLv := HL6.out.below hb6
 have hDe := decode_calls PS Z hLv.ok (some ⟨w6.heap.size + 1 + 1, 0, none⟩) _ 2 2 0 (by decide) (by decide) rfl (by decide) he
 with_reducible refine hDe.mono ?_
 rintro e w7 ⟨ms7, wl7, z7, hD7, A7, c7, B7, d7, rfl, hc7, hd7, hO7, hO7w, hf7, hp7⟩
 have hsh : shE [⟨3, some ⟨w6.heap.size, 0, none⟩, [fb 12], 1⟩, ⟨4, some ⟨w6.heap.size + 1, 0, none⟩, [fb 20], 1⟩] = [((3 : Int), [fb 12]), (4, [fb 20])] := rfl
 have hw7 : wrongs S.n (node S.xs S.v S.a M N) [((3 : Int), [fb 12]), (4, [fb 20])] = [] := by
  rw [ESx.out, ESa.out, ESv.out]
  refine wrongs_nil fun o ho => ?_
  simp only [List.mem_cons, List.not_mem_nil, or_false] at ho
  rcases ho with rfl | rfl
  ·exact ⟨by decide, HEx.out.2.1.symm⟩
  ·exact ⟨by decide, HEx.out.2.2.symm⟩
 have hg7 := dis_good (xs := S.xs) (n := S.n) (k := S.k) (a := S.a) (v := S.v) (t := 0) (M := M) (N := N) (sh := [((3 : Int), [fb 12]), (4, [fb 20])]) (by rw [ESx.out, ESa.out, ESv.out]; exact HCw.out) (by rw [ESn.out, ESa.out]; exact ⟨by decide, by decide, by decide⟩) (by rw [ESk.out]; decide) (by rw [hw7]; decide)
 rw [hsh] at hD7
 obtain ⟨hm7, hwl7, hz7⟩ := hD7.only hLv.ok.par hg7
 rw [hw7] at hwl7
 have hmo : msgOf S.k (node S.xs S.v S.a M N) = [fb 5, fb 6] := by
  rw [ESk.out, ESx.out, ESa.out, ESv.out]
  show node (pts 5) 0 1 M N 0 ++ (node (pts 5) 0 1 M N 1 ++ []) = _
  rw [HN0.out, HN1.out]; rfl
 rw [hmo] at hm7
 subst hm7 hz7 hwl7
 have HBm := Lib.hid (BF.own hf7 hO7)
 have HBr7 := Lib.hid ((HBr.out.below hb6).past hp7)
 have HS7 := Lib.hid ((HS6.out.below hb6).past hLv.ok.fld.fld hp7)
 have HL7 := Lib.hid (hLv.go hf7 hp7)
 clear hO7 hO7w hf7 hp7 hD7 hg7 hsh hDe hLv hb6 he hV6 HS6 HL6 hc7 hd7 hw7 hmo HBr
 go_wp2_with fail
 have hNb := new_not PS S.g 5 2 1 w7 HL7.out.ok.fld (by decide) (by decide) (by decide) (by decide) (by decide) (by decide) (fun h => absurd h.1.2.1 (by decide))
 rw [HSg.out] at hNb
 with_reducible refine hNb.mono ?_
 clear hNb
 rintro e w8 ⟨rfl, hf8, hp8⟩
 rw [← HSg.out] at hf8 hp8
 have HBm := Lib.hid (HBm.out.past hp8)
 have HBr7 := Lib.hid (HBr7.out.past hp8)
 have HS8 := Lib.hid (HS7.out.past HL7.out.ok.fld.fld hp8)
 have HL8 := Lib.hid (HL7.out.go hf8 hp8)
 clear hf8 hp8 HS7 HL7
 go_wp2_with fail
 have hNb := new_not PS S.g 3 2 3 w8 HL8.out.ok.fld (by decide) (by decide) (by decide) (by decide) (by decide) (by decide) (fun h => absurd h.1.2.2.1 (by decide))
 rw [HSg.out] at hNb
 with_reducible refine hNb.mono ?_
 clear hNb
 rintro e w9 ⟨rfl, hf9, hp9⟩
 rw [← HSg.out] at hf9 hp9
 have HBm := Lib.hid (HBm.out.past hp9)
 have HBr7 := Lib.hid (HBr7.out.past hp9)
 have HS9 := Lib.hid (HS8.out.past HL8.out.ok.fld.fld hp9)
 have HL9 := Lib.hid (HL8.out.go hf9 hp9)
 clear hf9 hp9 HS8 HL8
 go_wp2_with fail
 have hNb := new_not PS S.g 5 1 2 w9 HL9.out.ok.fld (by decide) (by decide) (by decide) (by decide) (by decide) (by decide) (fun h => absurd h.1.1 (by decide))
 rw [HSg.out] at hNb
 with_reducible refine hNb.mono ?_
 clear hNb
 rintro e w10 ⟨rfl, hf10, hp10⟩
 rw [← HSg.out] at hf10 hp10
 have HBm := Lib.hid (HBm.out.past hp10)
 have HBr7 := Lib.hid (HBr7.out.past hp10)
 have HS10 := Lib.hid (HS9.out.past HL9.out.ok.fld.fld hp10)
 have HL10 := Lib.hid (HL9.out.go hf10 hp10)
 clear hf10 hp10 HS9 HL9
 have hl4 : l4.length = 5 := by have := congrArg List.length HLs.out; simpa using this
 have hsAt : ∀ (i : Nat) (hi : i < l4.length), (l4[i]).s = node (pts 5) 0 1 M N i := fun i hi => by
  have h1 : (l4.map El.s)[i]? = ((List.range 5).map (node (pts 5) 0 1 M N))[i]? := by rw [HLs.out]
  rw [List.getElem?_map, List.getElem?_map, List.getElem?_range (by omega), List.getElem?_eq_getElem hi] at h1
  simpa using h1
 have HSat : Hid (∀ V i, i < 5 → Shs S.g V A4 l4 → ∃ b o A c, A4 = some ⟨b, o, none⟩ ∧ V.cell? ⟨b, o + i, none⟩ = some (.slice A (node (pts 5) 0 1 M N i).length c) ∧ BF S.g V A (node (pts 5) 0 1 M N i)) := Lib.hid fun V i hi hV => by
  obtain ⟨b, o, e, hc⟩ := cells1_at hV.row (by omega : i < l4.length)
  have h2 := hV.lst _ (List.getElem_mem (by omega : i < l4.length))
  rw [hsAt i (by omega)] at hc h2
  exact ⟨b, o, _, _, e, hc, h2.1⟩
 obtain ⟨b30, o30, E30, k30, e30, q30, hB30⟩ := HSat.out w10 2 (by omega) HS10.out
 rw [HEx.out.1] at q30 hB30
 obtain rfl := e30
 have hb30 : Below w10.heap.size w10 (w10.alloc (.cells #[.int .u8 0] 5)) := (Below.refl _ _).alloc (Nat.le_refl _) _
 have hL30 := bf_new HL10.out.ok.fld.fld #[.int .u8 0] [0] rfl
 have HB30 := Lib.hid (hB30.below hb30)
 have HLt30 := Lib.hid hL30
 have HS30 := Lib.hid (HS10.out.below hb30)
 have HL30 := Lib.hid (HL10.out.below hb30)
 have HBm30 := Lib.hid (HBm.out.below hb30)
 have HBr30 := Lib.hid (HBr7.out.below hb30)
 clear hb30 hL30 hB30
 go_wp2_with fail
 have hSa := same_calls E30 (some ⟨w10.heap.size, 0, none⟩) [0] [0] 1 1 k30 1 (w10.alloc (.cells #[.int .u8 0] 5)) rfl rfl HB30.out.by_ HLt30.out.by_
 rw [decide_eq_true rfl] at hSa
 with_reducible refine hSa.mono ?_
 clear hSa
 rintro e X30 ⟨rfl, hX30⟩
 rw [hX30] at HS30 HL30 HBm30 HBr30
 clear hX30 q30
 obtain ⟨b31, o31, E31, k31, e31, q31, hB31⟩ := HSat.out X30 3 (by omega) HS30.out
 rw [HEx.out.2.1] at q31 hB31
 cases e31
 have hb31 : Below X30.heap.size X30 (X30.alloc (.cells #[.int .u8 12] 5)) := (Below.refl _ _).alloc (Nat.le_refl _) _
 have hL31 := bf_new HL30.out.ok.fld.fld #[.int .u8 12] [fb 12] rfl
 have HB31 := Lib.hid (hB31.below hb31)
 have HLt31 := Lib.hid hL31
 have HS31 := Lib.hid (HS30.out.below hb31)
 have HL31 := Lib.hid (HL30.out.below hb31)
 have HBm31 := Lib.hid (HBm30.out.below hb31)
 have HBr31 := Lib.hid (HBr30.out.below hb31)
 clear hb31 hL31 hB31
 go_wp2_with fail
 have hSa := same_calls E31 (some ⟨X30.heap.size, 0, none⟩) [fb 12] [fb 12] 1 1 k31 1 (X30.alloc (.cells #[.int .u8 12] 5)) rfl rfl HB31.out.by_ HLt31.out.by_
 rw [decide_eq_true rfl] at hSa
 with_reducible refine hSa.mono ?_
 clear hSa
 rintro e X31 ⟨rfl, hX31⟩
 rw [hX31] at HS31 HL31 HBm31 HBr31
 clear hX31 q31
 obtain ⟨b32, o32, E32, k32, e32, q32, hB32⟩ := HSat.out X31 4 (by omega) HS31.out
 rw [HEx.out.2.2] at q32 hB32
 cases e32
 have hb32 : Below X31.heap.size X31 (X31.alloc (.cells #[.int .u8 20] 5)) := (Below.refl _ _).alloc (Nat.le_refl _) _
 have hL32 := bf_new HL31.out.ok.fld.fld #[.int .u8 20] [fb 20] rfl
 have HB32 := Lib.hid (hB32.below hb32)
 have HLt32 := Lib.hid hL32
 have HS32 := Lib.hid (HS31.out.below hb32)
 have HL32 := Lib.hid (HL31.out.below hb32)
 have HBm32 := Lib.hid (HBm31.out.below hb32)
 have HBr32 := Lib.hid (HBr31.out.below hb32)
 clear hb32 hL32 hB32
 go_wp2_with fail
 have hSa := same_calls E32 (some ⟨X31.heap.size, 0, none⟩) [fb 20] [fb 20] 1 1 k32 1 (X31.alloc (.cells #[.int .u8 20] 5)) rfl rfl HB32.out.by_ HLt32.out.by_
 rw [decide_eq_true rfl] at hSa
 with_reducible refine hSa.mono ?_
 clear hSa
 rintro e X32 ⟨rfl, hX32⟩
 rw [hX32] at HS32 HL32 HBm32 HBr32
 clear hX32 q32
 have hb40 : Below X32.heap.size X32 (X32.alloc (.cells #[.int .u8 5] 5)) := (Below.refl _ _).alloc (Nat.le_refl _) _
 have HLt40 := Lib.hid (bf_new HL32.out.ok.fld.fld #[.int .u8 5] [fb 5] rfl)
 have HL40 := Lib.hid (HL32.out.below hb40)
 have HBm40 := Lib.hid (HBm32.out.below hb40)
 have HBr40 := Lib.hid (HBr32.out.below hb40)
 clear hb40
 go_wp2_with fail
 have hSa := same_calls A6 (some ⟨X32.heap.size, 0, none⟩) [fb 5] [fb 5] 1 1 c6 1 (X32.alloc (.cells #[.int .u8 5] 5)) rfl rfl HBr40.out.by_ HLt40.out.by_
 rw [decide_eq_true rfl] at hSa
 with_reducible refine hSa.mono ?_
 clear hSa
 rintro e X40 ⟨rfl, hX40⟩
 rw [hX40] at HL40 HBm40
 clear hX40
 have hb41 : Below X40.heap.size X40 (X40.alloc (.cells #[.int .u8 5, .int .u8 6] 5)) := (Below.refl _ _).alloc (Nat.le_refl _) _
 have HLt41 := Lib.hid (bf_new HL40.out.ok.fld.fld #[.int .u8 5, .int .u8 6] [fb 5, fb 6] rfl)
 have HL41 := Lib.hid (HL40.out.below hb41)
 have HBm41 := Lib.hid (HBm40.out.below hb41)
 clear hb41
 go_wp2_with fail
 have hSa := same_calls A7 (some ⟨X40.heap.size, 0, none⟩) [fb 5, fb 6] [fb 5, fb 6] 2 2 c7 2 (X40.alloc (.cells #[.int .u8 5, .int .u8 6] 5)) rfl rfl HBm41.out.by_ HLt41.out.by_
 rw [decide_eq_true rfl] at hSa
 with_reducible refine hSa.mono ?_
 clear hSa
 rintro e X41 ⟨rfl, hX41⟩
 rw [hX41] at HL41
 clear hX41
 go_wp2
 go_ret
 exact ⟨rfl, HL41.out.bel⟩
end Go.Proofs.YtjoghbmedfmioaaGreat.Ms

namespace Go.Proofs.YtjoghbmedfmioaaGreat.Ms
open Go.RowKit Go.Shelf F8 Poly GF Rd
attribute [local go_sem] Oper.semAt_some
def Few (n k d : Int) : Prop := n ≤ 9 ∧ k ≤ 9 ∧ d ≤ 9
instance (n k d : Int) : Decidable (Few n k d) := inferInstanceAs (Decidable (_ ∧ _))
theorem few_calls (n k d : Int) (w : World) : Calls Tryz.prog 27 #[.int .i64 n, .int .i64 k, .int .i64 d] w fun e w' => e = .returned (.bool (decide (Few n k d))) ∧ w = w' := by
 by_cases h1 : n ≤ 9
 ·by_cases h2 : k ≤ 9
  ·have d1 : decide (n ≤ 9) = true := decide_eq_true h1
   have d2 : decide (k ≤ 9) = true := decide_eq_true h2
   have HD : Hid (decide (d ≤ 9) = decide (Few n k d)) := Lib.hid (by rw [decide_eq_decide]; exact ⟨fun h => ⟨h1, h2, h⟩, fun h => h.2.2⟩)
   go_enter Tryz.func27, Tryz.ntmps27
   go_wp2
   go_ret
   exact ⟨ret_bool HD.out, rfl⟩
  ·have d1 : decide (n ≤ 9) = true := decide_eq_true h1
   have d2 : decide (k ≤ 9) = false := decide_eq_false h2
   have HD : Hid (decide (Few n k d) = false) := Lib.hid (decide_eq_false fun h => h2 h.2.1)
   go_enter Tryz.func27, Tryz.ntmps27
   go_wp2
   go_ret
   exact ⟨ret_bool HD.out.symm, rfl⟩
 ·have d1 : decide (n ≤ 9) = false := decide_eq_false h1
  have HD : Hid (decide (Few n k d) = false) := Lib.hid (decide_eq_false fun h => h1 h.1)
  go_enter Tryz.func27, Tryz.ntmps27
  go_wp2
  go_ret
  exact ⟨ret_bool HD.out.symm, rfl⟩
structure Lz (S : Co) (w : World) (n k d : Int) (V : World) : Prop where
 lw : Lw S w V
 en : (S.n : Int) = n
 ek : (S.k : Int) = k
 ed : (S.d : Int) = d
theorem made (PS : Poly.Spec) (n k d : Int) (w w1 : World) (hw1 : w1 = w.alloc (.cells (fcells 0 0 0) 81)) (hn1 : -9223372036854775808 ≤ n) (hn2 : n < 9223372036854775808) (hk1 : -9223372036854775808 ≤ k) (hk2 : k < 9223372036854775808) (hd1 : -9223372036854775808 ≤ d) (hd2 : d < 9223372036854775808) :
  Calls Tryz.prog 29 #[.pointer (some ⟨w.heap.size, 0, none⟩), .int .i64 n, .int .i64 k, .int .i64 d] w1 fun e w' =>
   (Good n k d ∧ ∃ S : Co, Lz S w n k d w' ∧ e = .returned (.tuple #[.pointer (some ⟨S.b, 0, none⟩), .int .i64 0])) ∨ (¬ Good n k d ∧ e = .returned (.tuple #[.pointer none, .int .i64 2]) ∧ Below w.heap.size w w') := by
 have hF1 : FldP w1 (some ⟨w.heap.size, 0, none⟩) := FldP.of (by rw [hw1]; exact Fld.new w)
 have hB1 : Below w.heap.size w w1 := by rw [hw1]; exact (Below.refl _ _).alloc (Nat.le_refl _) _
 refine (new_calls PS w.heap.size n k d w1 hF1 hn1 hn2 hk1 hk2 hd1 hd2).mono ?_
 rintro e w2 (⟨hg, S, hok, hSg, hSn, hSk, hSd, -, rfl, hp2⟩ | ⟨hno, rfl, -, hp2⟩)
 ·exact .inl ⟨hg, S, ⟨⟨hok, hB1.trans (Past.below (hp2.mono hB1.size) (Nat.le_refl _)), by omega⟩, hSn, hSk, hSd⟩, rfl⟩
 ·exact .inr ⟨hno, rfl, hB1.trans (Past.below (hp2.mono hB1.size) (Nat.le_refl _))⟩
end Go.Proofs.YtjoghbmedfmioaaGreat.Ms
