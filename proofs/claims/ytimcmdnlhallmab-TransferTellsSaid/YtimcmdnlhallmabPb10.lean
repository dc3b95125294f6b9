/- Of the program, joined: TrDecode, TrSt, TrWorks, TrRefNew, TrFew. -/
import Derived.Test.YtimcmdnlhallmabPb09
import Derived.Test.YtimcmdnlhallmabPb03
namespace Go.Proofs.Ytimcmdnlhallmab.Tr
open Go.RowKit Go.Shelf F8 Poly GF Rd Ms
attribute [local go_sem] Oper.semAt_some
theorem shok_iff {n a : Nat} {l : List El} : ShOk n a (shE l) ↔ Sy.VOk n a [] (Sy.elsN l) := by
 have e1 : (shE l).map Prod.fst = (Sy.elsN l).map Prod.fst := by simp [shE, Sy.elsN]
 unfold ShOk Sy.VOk
 rw [e1]
 constructor
 ·rintro ⟨h2, h1⟩
  refine ⟨h1, fun o ho => ?_⟩
  obtain ⟨e, he, rfl⟩ := List.mem_map.1 ho
  have := h2 (e.p, e.s) (List.mem_map.2 ⟨e, he, rfl⟩)
  exact ⟨this.1, by simp, this.2⟩
 ·rintro ⟨h1, h2⟩
  refine ⟨fun o ho => ?_, h1⟩
  obtain ⟨e, he, rfl⟩ := List.mem_map.1 ho
  have := h2 (e.p, e.s.length) (List.mem_map.2 ⟨e, he, rfl⟩)
  exact ⟨this.1, this.2.2⟩
def DecG (S : Tc) (sh : List (Int × List F8)) (w : World) (e : Ending) (w' : World) : Prop :=
 ∃ ms z, TIs S.n S.k (pts S.E) sh ms z ∧ PolyResE (some ⟨S.g, 0, none⟩) w w' e ms z
theorem DecG.err {S : Tc} {sh : List (Int × List F8)} {w w' : World} {z : Int} (hf : FldP w' (some ⟨S.g, 0, none⟩)) (hp : Past w.heap.size S.g w w') (h : TIs S.n S.k (pts S.E) sh [] z) : DecG S sh w (.returned (.tuple #[.slice none 0 0, .int .i64 z])) w' :=
 ⟨[], z, h, none, 0, rfl, Nat.le_refl _, Own.nil _ _ _, hf, hp⟩
set_option maxRecDepth 100000 in
set_option maxHeartbeats 8000000 in
theorem decode_calls (PS : Poly.Spec) {S : Tc} {w : World} (h : S.Ok w) (A : Option Addr) (l : List El) (m c : Nat) (hl : l.length = m) (hm9 : m ≤ 1000) (hE : Els S.g w A l) :
  Calls Try.prog 23 #[.pointer (some ⟨S.b, 0, none⟩), .slice A m c] w (DecG S (shE l) w) := by
 have HNone := Lib.hid (isNone_calls h)
 have hn := h.n24
 have hkn := h.kn
 have H := Lib.hid h
 have HE := Lib.hid hE
 have HL := Lib.hid hl
 obtain ⟨u, hu⟩ : ∃ u, S.n - 1 = u := ⟨_, rfl⟩
 have HU := Lib.hid hu
 have HAl : Hid (∀ V, S.Ok V → Calls Try.prog 11 #[.pointer (some ⟨S.b, 0, none⟩)] V fun e w' => e = .returned (.int .i64 (u : Nat)) ∧ V = w') := Lib.hid fun V hV => by rw [← hu]; exact alpha_calls hV
 have HVal : Hid (∀ V, Below w.heap.size w V → Calls Try.prog 38 #[.slice A m c, .int .i64 (S.n : Nat), .int .i64 (u : Nat), .slice none 0 0] V fun e w' => e = .returned (.bool (decide (Sy.VOk S.n u [] (Sy.elsN l)))) ∧ Below V.heap.size V w') := Lib.hid fun V hV =>
  Sy.valid_calls A l m c S.n u none [] 0 0 V hl hm9 (hE.below hV).row (by omega) rfl (by omega) (Row.nil _ _)
 have HC : Hid (∀ V, S.Ok V → V.cell? ⟨S.b, 0, none⟩ = some (.int .i64 S.n)) := Lib.hid fun V hV => hV.cells.1
 have HK := Lib.hid (h.below (Below.refl _ _).drew)
 have HB : Hid (Below w.heap.size w w.drew) := Lib.hid (Below.refl _ _).drew
 have HS := Lib.hid (HC.out _ HK.out)
 obtain ⟨bb, hbb⟩ : ∃ bb, decide (Sy.VOk S.n u [] (Sy.elsN l)) = bb := ⟨_, rfl⟩
 rw [hbb] at HVal
 clear h hE hl hu
 go_enter Try.func23, Try.ntmps23
 go_wp2_with (go_at_call 27; refine HNone.out.mono ?_; rintro e w1 ⟨rfl, rfl⟩)
 go_region_held (fun V => V.cell? ⟨S.b, 0, none⟩ = some (.int .i64 S.n)) (exact HS.out)
  ((first
   | (go_at_call 38; (with_reducible refine (HVal.out _ HB.out).mono ?_); rintro e1 w1 ⟨rfl, hb1⟩; replace HK := Lib.hid (HK.out.below hb1); replace HB := Lib.hid (HB.out.trans (hb1.mono HB.out.size)); replace HS := Lib.hid (HC.out _ HK.out); clear hb1)
   | (go_at_call 11; (with_reducible refine (HAl.out _ HK.out).mono ?_); rintro e1 w1 ⟨rfl, rfl⟩)))
 cases bb
 ·have hno : ¬ ShOk S.n (S.n - 1) (shE l) := fun hA => of_decide_eq_false hbb (by rw [HU.out] at hA; exact shok_iff.1 hA)
  have HX := Lib.hid (DecG.err HK.out.fld (Past.of_below HB.out _) (.inl ⟨hno, rfl, rfl⟩) : DecG S (shE l) w (.returned (.tuple #[.slice none 0 0, .int .i64 2])) w1)
  clear hno hbb
  go_wp2
  go_ret2
  exact HX.out
 have hA : ShOk S.n (S.n - 1) (shE l) := by rw [HU.out]; exact shok_iff.2 (of_decide_eq_true hbb)
 have hsl : (shE l).length = m := by rw [shE_length]; exact HL.out
 obtain ⟨-, c1, -, c3⟩ := HK.out.cells
 by_cases hk : m < S.k
 ·have HX := Lib.hid (DecG.err HK.out.fld (Past.of_below HB.out _) (.inr (.inl ⟨hA, by omega, rfl, rfl⟩)) : DecG S (shE l) w (.returned (.tuple #[.slice none 0 0, .int .i64 70])) w1)
  have hd : ((m : Int) < (S.k : Int)) := by omega
  clear hA hbb
  go_wp2
  go_ret2
  exact HX.out
 have hd : ¬ ((m : Int) < (S.k : Int)) := by omega
 have HKn := Lib.hid (known_calls HK.out A l m c HL.out hm9 (HE.out.below HB.out) hA)
 have HA := Lib.hid hA
 have HSl := Lib.hid hsl
 have hsw := HB.out.size
 clear hA hsl hbb HS HC HVal HAl
 go_wp2_with fail
 refine HKn.out.mono ?_
 rintro e w2 (⟨hcons, P, pc, Y, yc, rfl, hpc, hyc, hO1, hO2, hb2⟩ | ⟨hnc, rfl, hb2⟩)
 rotate_left
 ·have hB2 := HB.out.trans (hb2.mono hsw)
  have HX := Lib.hid (DecG.err (HK.out.fld.below hb2) (Past.of_below hB2 _) (tis_lost (pts_length _) HA.out (by rw [HSl.out]; omega) hnc) : DecG S (shE l) w (.returned (.tuple #[.slice none 0 0, .int .i64 80])) w2)
  clear hnc hb2 hB2 HKn
  go_wp2
  go_ret2
  exact HX.out
 have HK2 := Lib.hid (HK.out.below hb2)
 have HB2 := Lib.hid (HB.out.trans (hb2.mono hsw))
 obtain ⟨N, hN⟩ : ∃ N, (seen (items S.n (nat (shE l)))).length = N := ⟨_, rfl⟩
 rw [hN] at hpc hyc hO1 hO2 ⊢
 have hN9 : N ≤ 1000 := by
  have h5 := seen_le (nat_ok HA.out).1 (L := items S.n (nat (shE l))) (fun z hz => hz)
  have := HK2.out.e255
  unfold Tc.E at this
  omega
 have hglt := HK2.out.fld.fld.lt
 have hO2' : Own w2 w1.heap.size 5 (.slice Y N yc) (bv (bs (ysD (seen (items S.n (nat (shE l))))))) := hO2
 have hDc := Rd.decode_calls PS HK2.out.cd P (plI (seen (items S.n (nat (shE l))))) N pc (by simp [plI, hN]) (own_row hO1) hN9 Y (ysD (seen (items S.n (nat (shE l))))) N yc (by simp [ysD, hN]) (Own.bytes hO2') hyc hN9 (far_own HK2.out.fld.fld hO2')
 have HDc := Lib.hid hDc
 have HTis : Hid (∀ lm z, DecIs (pts S.E) S.B (plI (seen (items S.n (nat (shE l))))) (ysD (seen (items S.n (nat (shE l))))) lm z → TIs S.n S.k (pts S.E) (shE l) (if z = 0 then lm else []) (if z = 0 then 0 else 80)) := Lib.hid fun lm z hd => tis_of (pts_length _) HA.out (by rw [HSl.out]; omega) hcons hd
 obtain ⟨-, -, -, c3⟩ := HK2.out.cells
 have hs2 := HB2.out.size
 clear hcons hO1 hO2 hO2' hb2 hN hDc HKn
 go_wp2_with fail
 refine HDc.out.mono ?_
 rintro e w3 ⟨lm, z, hdi, A9, c9, rfl, hc9, hO9, hf9, hp9⟩
 have hp9' : Past w2.heap.size S.g w2 w3 := hp9
 have hti := HTis.out lm z hdi
 have hpw : Past w.heap.size S.g w w3 := (Past.of_below HB2.out _).trans (hp9'.mono hs2)
 by_cases hz : z = 0
 ·rw [if_pos hz, if_pos hz] at hti
  have HX : Hid (DecG S (shE l) w (.returned (.tuple #[.slice A9 lm.length c9, .int .i64 0])) w3) := Lib.hid ⟨lm, 0, hti, A9, c9, rfl, hc9, hO9.more hs2, hf9, hpw⟩
  have hzz : (z != 0) = false := by simp [hz]
  obtain ⟨q, hq⟩ : ∃ q, lm.length = q := ⟨_, rfl⟩
  rw [hq] at HX ⊢
  clear hti hdi hO9 hf9 hp9 hp9' hpw hz hc9 hq HDc HTis
  go_wp2
  go_ret2
  exact HX.out
 ·rw [if_neg hz, if_neg hz] at hti
  have HX := Lib.hid (DecG.err hf9 hpw hti)
  have hzz : (z != 0) = true := by simp [hz]
  obtain ⟨q, hq⟩ : ∃ q, lm.length = q := ⟨_, rfl⟩
  rw [hq]
  clear hti hdi hO9 hf9 hp9 hp9' hpw hz hc9 hq HDc HTis
  go_wp2
  go_ret2
  exact HX.out
theorem decode_nil (A : Option Addr) (m c : Nat) (w : World) : Calls Try.prog 23 #[.pointer none, .slice A m c] w fun e w' => e = .returned (.tuple #[.slice none 0 0, .int .i64 1]) ∧ w = w' := by
 go_enter Try.func23, Try.ntmps23
 go_wp2_with (go_at_call 27; refine (none_nil _).mono ?_; rintro e w1 ⟨rfl, rfl⟩)
 go_ret2
 exact ⟨rfl, rfl⟩
theorem repair_nil (z : Int) (A : Option Addr) (m c : Nat) (w : World) : Calls Try.prog 24 #[.pointer none, .int .i64 z, .slice A m c] w fun e w' => e = .returned (.tuple #[.slice none 0 0, .int .i64 1]) ∧ w = w' := by
 go_enter Try.func24, Try.ntmps24
 go_wp2_with (go_at_call 27; refine (none_nil _).mono ?_; rintro e w1 ⟨rfl, rfl⟩)
 go_ret2
 exact ⟨rfl, rfl⟩
end Go.Proofs.Ytimcmdnlhallmab.Tr

namespace Go.Proofs.Ytimcmdnlhallmab.Tr
open Go.RowKit Go.Shelf F8 Poly GF Rd Ms
attribute [local go_sem] Oper.semAt_some
theorem two_elsL {g : Nat} {w : World} (hf : Fld w g) (p q : Int) (cx cy : Array Value) (x y : List F8) (n m : Nat) (hx : cx.toList = bv (bs x)) (hy : cy.toList = bv (bs y)) (hn : x.length = n) (hm : y.length = m) :
  Els g (((w.alloc (.cells cx 5)).alloc (.cells cy 5)).alloc (.cells #[.int .i64 p, .slice (some ⟨w.heap.size, 0, none⟩) n n, .int .i64 q, .slice (some ⟨w.heap.size + 1, 0, none⟩) m m] 52)) (some ⟨w.heap.size + 1 + 1, 0, none⟩) [⟨p, some ⟨w.heap.size, 0, none⟩, x, n⟩, ⟨q, some ⟨w.heap.size + 1, 0, none⟩, y, m⟩] := by
 subst hn hm
 have hb1 : Below w.heap.size w (w.alloc (.cells cx 5)) := (Below.refl _ _).alloc (Nat.le_refl _) _
 have h1 := bf_new hf cx x hx
 have hf1 : Fld (w.alloc (.cells cx 5)) g := hf.below hb1 hf.lt
 have h2 := bf_new hf1 cy y hy
 have hb2 : Below (w.alloc (.cells cx 5)).heap.size (w.alloc (.cells cx 5)) ((w.alloc (.cells cx 5)).alloc (.cells cy 5)) := (Below.refl _ _).alloc (Nat.le_refl _) _
 have h1' := h1.below hb2
 rw [World.size_alloc] at h2
 obtain ⟨W, hW⟩ : ∃ W, (w.alloc (.cells cx 5)).alloc (.cells cy 5) = W := ⟨_, rfl⟩
 have hz : W.heap.size = w.heap.size + 1 + 1 := by rw [← hW, World.size_alloc, World.size_alloc]
 rw [hW] at h1' h2 ⊢
 have hb3 : Below W.heap.size W (W.alloc (.cells #[.int .i64 p, .slice (some ⟨w.heap.size, 0, none⟩) x.length x.length, .int .i64 q, .slice (some ⟨w.heap.size + 1, 0, none⟩) y.length y.length] 52)) := (Below.refl _ _).alloc (Nat.le_refl _) _
 refine ⟨?_, fun e he => ?_⟩
 ·have := Row.new W #[.int .i64 p, .slice (some ⟨w.heap.size, 0, none⟩) x.length x.length, .int .i64 q, .slice (some ⟨w.heap.size + 1, 0, none⟩) y.length y.length] 52 (0, 0)
  rw [hz] at this
  exact this
 ·simp only [List.mem_cons, List.not_mem_nil, or_false] at he
  rcases he with rfl | rfl
  ·exact ⟨h1'.below hb3, Nat.le_refl _⟩
  ·exact ⟨h2.below hb3, Nat.le_refl _⟩
structure Lw (S : Tc) (w : World) (V : World) : Prop where
 ok : S.Ok V
 bel : Below w.heap.size w V
 gw : w.heap.size ≤ S.g
section
variable {S : Tc} {w V V' : World}
theorem Lw.go (h : Lw S w V) (hf : FldP V' (some ⟨S.g, 0, none⟩)) (hp : Past V.heap.size S.g V V') : Lw S w V' := ⟨h.ok.past hf hp, h.bel.trans ((hp.mono h.bel.size).below h.gw), h.gw⟩
theorem Lw.below (h : Lw S w V) (hb : Below V.heap.size V V') : Lw S w V' := h.go (h.ok.fld.below hb) (Past.of_below hb _)
theorem Lw.alloc (h : Lw S w V) (o : Obj) : Lw S w (V.alloc o) := h.below ((Below.refl _ _).alloc (Nat.le_refl _) o)
end
structure Lz (S : Tc) (w : World) (n k : Int) (V : World) : Prop where
 lw : Lw S w V
 en : (S.n : Int) = n
 ek : (S.k : Int) = k
theorem made (n k : Int) (w w1 : World) (hw1 : w1 = w.alloc (.cells (fcells 0 0 0) 79)) (hn1 : -9223372036854775808 ≤ n) (hn2 : n < 9223372036854775808) (hk1 : -9223372036854775808 ≤ k) (hk2 : k < 9223372036854775808) :
  Calls Try.prog 7 #[.pointer (some ⟨w.heap.size, 0, none⟩), .int .i64 n, .int .i64 k] w1 fun e w' =>
   (Good n k ∧ ∃ S : Tc, Lz S w n k w' ∧ S.g = w.heap.size ∧ e = .returned (.tuple #[.pointer (some ⟨S.b, 0, none⟩), .int .i64 0])) ∨ (¬ Good n k ∧ e = .returned (.tuple #[.pointer none, .int .i64 2]) ∧ Below w.heap.size w w') := by
 have hF1 : FldP w1 (some ⟨w.heap.size, 0, none⟩) := FldP.of (by rw [hw1]; exact Fld.new w)
 have hB1 : Below w.heap.size w w1 := by rw [hw1]; exact (Below.refl _ _).alloc (Nat.le_refl _) _
 by_cases hg : Good n k
 ·obtain ⟨h1, h2, h3⟩ := hg
  obtain ⟨N, rfl⟩ : ∃ N : Nat, n = (N : Int) := ⟨n.toNat, by omega⟩
  obtain ⟨K, rfl⟩ : ∃ K : Nat, k = (K : Int) := ⟨k.toNat, by omega⟩
  refine (new_good w.heap.size N K (by omega) (by omega) (by omega) w1 hF1).mono ?_
  rintro e w2 ⟨S, hok, hSg, hSn, hSk, -, rfl, hp2⟩
  exact .inl ⟨⟨h1, h2, h3⟩, S, ⟨⟨hok, hB1.trans (Past.below (hp2.mono hB1.size) (Nat.le_refl _)), by omega⟩, by omega, by omega⟩, hSg, rfl⟩
 ·refine (new_bad w.heap.size n k hn1 hn2 hk1 hk2 hg w1).mono ?_
  rintro e w2 ⟨rfl, rfl⟩
  exact .inr ⟨hg, rfl, hB1⟩
def fb (x : Nat) (h : x < 256 := by decide) : F8 := ⟨x, h⟩
instance (L : List (Nat × F8)) : Decidable (Cons L) := inferInstanceAs (Decidable (∀ x ∈ L, ∀ y ∈ L, x.1 = y.1 → x.2 = y.2))
instance (n s : Nat) (sh : List (Int × List F8)) : Decidable (ShOk n s sh) := inferInstanceAs (Decidable (_ ∧ _))
theorem ex_a : (List.range 3).map (shr 3 (word [1, 0, 0] (pts (rs 3 3)))) = [[1, 1], [1, 1], [1, 1]] := by decide +kernel
theorem ex_b : (List.range 3).map (shr 3 (word [0, 1, 0] (pts (rs 3 3)))) = [[1, fb 2], [1, fb 4], [fb 2, fb 4]] := by decide +kernel
theorem ex_m : TIs 3 2 (pts (rs 3 3)) [((1 : Int), [1, fb 4]), (2, [fb 2, fb 4])] [0, 1, 0] 0 :=
 .inr (.inr (.inl ⟨by decide +kernel, by decide, rfl, by decide, by decide +kernel⟩))
theorem ex_l : TIs 3 2 (pts (rs 3 3)) [((1 : Int), [1, fb 4]), (2, [fb 2, fb 5])] [] 80 :=
 tis_lost (pts_length _) (by decide +kernel) (by decide) (by decide +kernel)
theorem share_at {g : Nat} {V : World} {A : Option Addr} {l : List El} (h : Shs g V A l) {L : List (List F8)} (hl : l.map El.s = L) {i : Nat} (hi : i < L.length) : ∃ b o B c, A = some ⟨b, o, none⟩ ∧ V.cell? ⟨b, o + i, none⟩ = some (.slice B (L[i]).length c) ∧ BF g V B L[i] := by
 subst hl
 have hi' : i < l.length := by simpa using hi
 obtain ⟨b, o, e, hc⟩ := cells1_at h.row hi'
 have h2 := h.lst _ (List.getElem_mem hi')
 have e2 : (l.map El.s)[i] = (l[i]).s := by simp
 rw [e2]
 exact ⟨b, o, _, _, e, hc, h2.1⟩
end Go.Proofs.Ytimcmdnlhallmab.Tr

namespace Go.Proofs.Ytimcmdnlhallmab.Tr
open Go.RowKit Go.Shelf F8 Poly GF Rd Ms
attribute [local go_sem] Oper.semAt_some
structure WS (S : Tc) (w : World) (Aa : Option Addr) (la : List El) (Ab : Option Addr) (lb : List El) (V : World) : Prop where
 lw : Lw S w V
 sa : Shs S.g V Aa la
 sb : Shs S.g V Ab lb
section
variable {S : Tc} {w V V' : World} {Aa Ab : Option Addr} {la lb : List El}
theorem WS.go (h : WS S w Aa la Ab lb V) (hf : FldP V' (some ⟨S.g, 0, none⟩)) (hp : Past V.heap.size S.g V V') : WS S w Aa la Ab lb V' :=
 ⟨h.lw.go hf hp, h.sa.past h.lw.ok.fld.fld hp, h.sb.past h.lw.ok.fld.fld hp⟩
theorem WS.below (h : WS S w Aa la Ab lb V) (hb : Below V.heap.size V V') : WS S w Aa la Ab lb V' := h.go (h.lw.ok.fld.below hb) (Past.of_below hb _)
theorem WS.alloc (h : WS S w Aa la Ab lb V) (o : Obj) : WS S w Aa la Ab lb (V.alloc o) := h.below ((Below.refl _ _).alloc (Nat.le_refl _) o)
end
set_option maxRecDepth 100000 in
set_option maxHeartbeats 16000000 in
theorem works_calls (PS : Poly.Spec) (w : World) : Calls Try.prog 10 #[] w fun e w' => e = .returned (.bool true) ∧ Below w.heap.size w w' := by
 go_enter Try.func10, Try.ntmps10
 go_wp2_with fail
 refine (GF.new_calls w).mono ?_
 rintro e w1 ⟨rfl, hw1⟩
 have HMd := Lib.hid (made 3 2 w w1 hw1 (by decide) (by decide) (by decide) (by decide))
 clear hw1
 go_wp2_with fail
 refine HMd.out.mono ?_
 rintro e w2 (⟨-, S, hL, hSg, rfl⟩ | ⟨hno, -⟩)
 rotate_left
 ·exact absurd (⟨by decide, by decide, by decide⟩ : Good 3 2) hno
 have en : S.n = 3 := by have := hL.en; omega
 have ek : S.k = 2 := by have := hL.ek; omega
 have eE : S.E = rs 3 3 := by unfold Tc.E; rw [en]
 have eB : S.B = 3 := by unfold Tc.B; rw [en, ek]; rfl
 have HL := Lib.hid hL.lw
 have EN := Lib.hid en
 have EK := Lib.hid ek
 have EE := Lib.hid eE
 have EB := Lib.hid eB
 have HSg := Lib.hid hSg
 clear hL en ek eE eB hSg HMd
 go_wp2_with fail
 have HL3 := Lib.hid (HL.out.alloc (.cells #[.int .u8 1, .int .u8 0, .int .u8 0] 5))
 have hEn := encode_good PS HL3.out.ok (some ⟨w2.heap.size, 0, none⟩) [1, 0, 0] 3 3 rfl EB.out.symm (bf_new HL.out.ok.fld.fld #[.int .u8 1, .int .u8 0, .int .u8 0] [1, 0, 0] rfl) (Nat.le_refl _)
 with_reducible refine hEn.mono ?_
 clear hEn
 rintro e w4 ⟨A4, c4, l4, rfl, hc4, hO4, hL4, hls, hf4, hp4⟩
 have HL4 := Lib.hid (HL3.out.go hf4 hp4)
 have HS4 : Hid (Shs S.g w4 A4 l4) := Lib.hid ⟨own_row (own1_of hO4).1, hL4.lst hf4⟩
 rw [EN.out, EE.out, ex_a] at hls
 rw [EN.out] at hc4 ⊢
 have HLa := Lib.hid hls
 clear hO4 hL4 hls hf4 hp4 HL HL3 hc4
 go_wp2_with fail
 have HL5 := Lib.hid (HL4.out.alloc (.cells #[.int .u8 0, .int .u8 1, .int .u8 0] 5))
 have hEn := encode_good PS HL5.out.ok (some ⟨w4.heap.size, 0, none⟩) [0, 1, 0] 3 3 rfl EB.out.symm (bf_new HL4.out.ok.fld.fld #[.int .u8 0, .int .u8 1, .int .u8 0] [0, 1, 0] rfl) (Nat.le_refl _)
 with_reducible refine hEn.mono ?_
 clear hEn
 rintro e w6 ⟨A6, c6, l6, rfl, hc6, hO6, hL6, hls, hf6, hp6⟩
 have HW6 : Hid (WS S w A4 l4 A6 l6 w6) := Lib.hid ⟨HL5.out.go hf6 hp6, (HS4.out.below ((Below.refl _ _).alloc (Nat.le_refl _) _)).past HL5.out.ok.fld.fld hp6, own_row (own1_of hO6).1, hL6.lst hf6⟩
 rw [EN.out, EE.out, ex_b] at hls
 rw [EN.out] at hc6 ⊢
 have HLb := Lib.hid hls
 clear hO6 hL6 hls hf6 hp6 HL4 HL5 HS4 hc6
 go_wp2_with fail
 have HW7 := Lib.hid (HW6.out.alloc (.cells #[.int .u8 2, .int .u8 4] 5))
 have hHe := help_good HW7.out.lw.ok 2 0 (by rw [EN.out]; omega) (by rw [EN.out]; omega) (by omega) (some ⟨w6.heap.size, 0, none⟩) [fb 2, fb 4] 2 2 rfl (by rw [EN.out]) (bf_new HW6.out.lw.ok.fld.fld #[.int .u8 2, .int .u8 4] [fb 2, fb 4] rfl).by_
 rw [show (coef [fb 2, fb 4] (idx 2 0)).n = 2 from rfl, show ((2 : Nat) : Int) = 2 from rfl, show ((0 : Nat) : Int) = 0 from rfl] at hHe
 with_reducible refine hHe.mono ?_
 clear hHe
 rintro e w7 ⟨rfl, hw7⟩
 rw [hw7] at HW7
 clear hw7 HW6
 go_wp2_with fail
 obtain ⟨V7, hV7⟩ : ∃ V7, ((w7.alloc (.cells #[.int .u8 2] 5)).alloc (.cells #[.int .u8 1] 5)).alloc (.cells #[.int .i64 2, .slice (some ⟨w7.heap.size, 0, none⟩) 1 1, .int .i64 1, .slice (some ⟨w7.heap.size + 1, 0, none⟩) 1 1] 52) = V7 := ⟨_, rfl⟩
 have he : Els S.g V7 (some ⟨w7.heap.size + 1 + 1, 0, none⟩) [⟨2, some ⟨w7.heap.size, 0, none⟩, [fb 2], 1⟩, ⟨1, some ⟨w7.heap.size + 1, 0, none⟩, [1], 1⟩] := by
  rw [← hV7]; exact two_elsL HW7.out.lw.ok.fld.fld 2 1 #[.int .u8 2] #[.int .u8 1] [fb 2] [1] 1 1 rfl rfl rfl rfl
 have hb7 : Below w7.heap.size w7 V7 := by rw [← hV7]; exact (((Below.refl _ _).alloc (Nat.le_refl _) _).alloc (by simp) _).alloc (by simp; omega) _
 rw [hV7]
 have HW8 := Lib.hid (HW7.out.below hb7)
 have hRe := repair_good HW8.out.lw.ok 0 (by rw [EN.out]; omega) (some ⟨w7.heap.size + 1 + 1, 0, none⟩) _ 2 2 rfl (by decide) he (by rw [EN.out]; exact (by decide : Sy.VOk 3 1 [((0 : Nat) : Int)] [((2 : Int), 1), (1, 1)])) (by rw [EN.out]; decide)
 rw [show ((0 : Nat) : Int) = 0 from rfl] at hRe
 with_reducible refine hRe.mono ?_
 clear hRe
 rintro e w9 ⟨A9, c9, s9, rfl, hc9, hs9, hr9, hO9, hb9⟩
 rw [EN.out] at hc9 hs9 hO9 ⊢
 have e9 : s9 = [1, fb 2] := by
  have h1 := hr9 _ (List.mem_cons_self ..)
  have h2 := hr9 _ (List.mem_cons_of_mem _ (List.mem_cons_self ..))
  match s9, hs9 with
  | [x, y], _ =>
   have h1 : y = fb 2 := h1
   have h2 : x = 1 := h2
   rw [h1, h2]
 rw [e9] at hO9
 have HW9 := Lib.hid (HW8.out.below hb9)
 have HB9 := Lib.hid (BF.own HW9.out.lw.ok.fld hO9)
 clear hO9 hb9 hr9 hs9 e9 he hb7 hV7 HW7 HW8 hc9
 go_wp2_with fail
 obtain ⟨Va, hVa⟩ : ∃ Va, ((w9.alloc (.cells #[.int .u8 1, .int .u8 4] 5)).alloc (.cells #[.int .u8 2, .int .u8 4] 5)).alloc (.cells #[.int .i64 1, .slice (some ⟨w9.heap.size, 0, none⟩) 2 2, .int .i64 2, .slice (some ⟨w9.heap.size + 1, 0, none⟩) 2 2] 52) = Va := ⟨_, rfl⟩
 have he : Els S.g Va (some ⟨w9.heap.size + 1 + 1, 0, none⟩) [⟨1, some ⟨w9.heap.size, 0, none⟩, [1, fb 4], 2⟩, ⟨2, some ⟨w9.heap.size + 1, 0, none⟩, [fb 2, fb 4], 2⟩] := by
  rw [← hVa]; exact two_elsL HW9.out.lw.ok.fld.fld 1 2 #[.int .u8 1, .int .u8 4] #[.int .u8 2, .int .u8 4] [1, fb 4] [fb 2, fb 4] 2 2 rfl rfl rfl rfl
 have hba : Below w9.heap.size w9 Va := by rw [← hVa]; exact (((Below.refl _ _).alloc (Nat.le_refl _) _).alloc (by simp) _).alloc (by simp; omega) _
 rw [hVa]
 have HWa := Lib.hid (HW9.out.below hba)
 have hDe := decode_calls PS HWa.out.lw.ok (some ⟨w9.heap.size + 1 + 1, 0, none⟩) _ 2 2 rfl (by decide) he
 with_reducible refine hDe.mono ?_
 clear hDe
 rintro e wb ⟨ms, z, hT, A10, c10, rfl, hc10, hO10, hf10, hp10⟩
 rw [EN.out, EK.out, EE.out] at hT
 obtain ⟨hms, hz⟩ := hT.only (pts_length _) (pts_nodup (by decide +kernel)) ex_m
 subst hms hz
 have HWb := Lib.hid (HWa.out.go hf10 hp10)
 have HBb9 := Lib.hid ((HB9.out.below hba).past hp10)
 have HBm := Lib.hid (BF.own hf10 hO10)
 clear hO10 hf10 hp10 hT hc10 he hba hVa HW9 HWa HB9
 go_wp2_with fail
 obtain ⟨Va, hVa⟩ : ∃ Va, ((wb.alloc (.cells #[.int .u8 1, .int .u8 4] 5)).alloc (.cells #[.int .u8 2, .int .u8 5] 5)).alloc (.cells #[.int .i64 1, .slice (some ⟨wb.heap.size, 0, none⟩) 2 2, .int .i64 2, .slice (some ⟨wb.heap.size + 1, 0, none⟩) 2 2] 52) = Va := ⟨_, rfl⟩
 have he : Els S.g Va (some ⟨wb.heap.size + 1 + 1, 0, none⟩) [⟨1, some ⟨wb.heap.size, 0, none⟩, [1, fb 4], 2⟩, ⟨2, some ⟨wb.heap.size + 1, 0, none⟩, [fb 2, fb 5], 2⟩] := by
  rw [← hVa]; exact two_elsL HWb.out.lw.ok.fld.fld 1 2 #[.int .u8 1, .int .u8 4] #[.int .u8 2, .int .u8 5] [1, fb 4] [fb 2, fb 5] 2 2 rfl rfl rfl rfl
 have hba : Below wb.heap.size wb Va := by rw [← hVa]; exact (((Below.refl _ _).alloc (Nat.le_refl _) _).alloc (by simp) _).alloc (by simp; omega) _
 rw [hVa]
 have HWa := Lib.hid (HWb.out.below hba)
 have hDe := decode_calls PS HWa.out.lw.ok (some ⟨wb.heap.size + 1 + 1, 0, none⟩) _ 2 2 rfl (by decide) he
 with_reducible refine hDe.mono ?_
 clear hDe
 rintro e wc ⟨ms, z, hT, A11, c11, rfl, hc11, hO11, hf11, hp11⟩
 rw [EN.out, EK.out, EE.out] at hT
 obtain ⟨hms, hz⟩ := hT.only (pts_length _) (pts_nodup (by decide +kernel)) ex_l
 subst hms hz
 have HWc := Lib.hid (HWa.out.go hf11 hp11)
 have HBc9 := Lib.hid ((HBb9.out.below hba).past hp11)
 have HBcm := Lib.hid ((HBm.out.below hba).past hp11)
 clear hO11 hf11 hp11 hT hc11 he hba hVa HWb HWa HBb9 HBm
 go_wp2_with fail
 have hNb := new_bad S.g 24 2 (by decide) (by decide) (by decide) (by decide) (fun h => absurd h.2.2 (by decide)) wc
 rw [HSg.out] at hNb
 with_reducible refine hNb.mono ?_
 clear hNb
 rintro e w12 ⟨rfl, rfl⟩
 have hAl := alpha_calls HWc.out.lw.ok
 rw [EN.out, show ((3 - 1 : Nat) : Int) = 2 from rfl] at hAl
 have HAl := Lib.hid hAl
 clear hAl
 go_wp2_with fail
 refine HAl.out.mono ?_
 rintro e wx ⟨rfl, rfl⟩
 have hBc := b_calls HWc.out.lw.ok
 rw [EB.out, show ((3 : Nat) : Int) = 3 from rfl] at hBc
 have HBc := Lib.hid hBc
 clear hBc HAl
 obtain ⟨b0, o0, E0, k0, e0, q0, -⟩ := share_at HWc.out.sa HLa.out (i := 1) (by decide)
 obtain ⟨b1, o1, E1, k1, e1, q1, -⟩ := share_at HWc.out.sb HLb.out (i := 0) (by decide)
 subst e0 e1
 clear q0 q1
 go_wp2_with fail
 refine HBc.out.mono ?_
 rintro e x0 ⟨rfl, hbx⟩
 have HWx0 := Lib.hid (HWc.out.below hbx)
 have HBs0 := Lib.hid (HBc9.out.below hbx)
 have HBm0 := Lib.hid (HBcm.out.below hbx)
 clear hbx HBc HWc HBc9 HBcm
 obtain ⟨bb0, oo0, E0, k0, e0, q0, hB0⟩ := share_at HWx0.out.sa HLa.out (i := 1) (by decide)
 cases e0
 have q0' : x0.cell? _ = some (.slice E0 2 k0) := q0
 have hB0' : BF S.g x0 E0 [1, 1] := hB0
 have hb0 : Below x0.heap.size x0 (x0.alloc (.cells #[.int .u8 1, .int .u8 1] 5)) := (Below.refl _ _).alloc (Nat.le_refl _) _
 have HB0 := Lib.hid (hB0'.below hb0)
 have HLt0 := Lib.hid (bf_new HWx0.out.lw.ok.fld.fld #[.int .u8 1, .int .u8 1] [1, 1] rfl)
 have HWy0 := Lib.hid (HWx0.out.below hb0)
 have HBs0y := Lib.hid (HBs0.out.below hb0)
 have HBm0y := Lib.hid (HBm0.out.below hb0)
 clear hb0 hB0 hB0' q0
 go_wp2_with fail
 have hSa := same_calls E0 (some ⟨x0.heap.size, 0, none⟩) [1, 1] [1, 1] 2 2 k0 2 (x0.alloc (.cells #[.int .u8 1, .int .u8 1] 5)) rfl rfl HB0.out.by_ HLt0.out.by_
 rw [decide_eq_true rfl] at hSa
 with_reducible refine hSa.mono ?_
 clear hSa
 rintro e x1 ⟨rfl, hx0⟩
 rw [hx0] at HWy0 HBs0y HBm0y
 have HWx1 := HWy0
 have HBs1 := HBs0y
 have HBm1 := HBm0y
 clear hx0 q0' HWx0 HWy0 HBs0 HBs0y HBm0 HBm0y HB0 HLt0
 obtain ⟨bb1, oo1, E1, k1, e1, q1, hB1⟩ := share_at HWx1.out.sb HLb.out (i := 0) (by decide)
 cases e1
 have q1' : x1.cell? ⟨b1, o1, none⟩ = some (.slice E1 2 k1) := q1
 have hB1' : BF S.g x1 E1 [1, fb 2] := hB1
 have hb1 : Below x1.heap.size x1 (x1.alloc (.cells #[.int .u8 1, .int .u8 2] 5)) := (Below.refl _ _).alloc (Nat.le_refl _) _
 have HB1 := Lib.hid (hB1'.below hb1)
 have HLt1 := Lib.hid (bf_new HWx1.out.lw.ok.fld.fld #[.int .u8 1, .int .u8 2] [1, fb 2] rfl)
 have HWy1 := Lib.hid (HWx1.out.below hb1)
 have HBs1y := Lib.hid (HBs1.out.below hb1)
 have HBm1y := Lib.hid (HBm1.out.below hb1)
 clear hb1 hB1 hB1' q1
 go_wp2_with fail
 have hSa := same_calls E1 (some ⟨x1.heap.size, 0, none⟩) [1, fb 2] [1, fb 2] 2 2 k1 2 (x1.alloc (.cells #[.int .u8 1, .int .u8 2] 5)) rfl rfl HB1.out.by_ HLt1.out.by_
 rw [decide_eq_true rfl] at hSa
 with_reducible refine hSa.mono ?_
 clear hSa
 rintro e x2 ⟨rfl, hx1⟩
 rw [hx1] at HWy1 HBs1y HBm1y
 have HWx2 := HWy1
 have HBs2 := HBs1y
 have HBm2 := HBm1y
 clear hx1 q1' HWx1 HWy1 HBs1 HBs1y HBm1 HBm1y HB1 HLt1
 obtain ⟨bb2, oo2, E2, k2, e2, q2, hB2⟩ := share_at HWx2.out.sb HLb.out (i := 1) (by decide)
 cases e2
 have q2' : x2.cell? _ = some (.slice E2 2 k2) := q2
 have hB2' : BF S.g x2 E2 [1, fb 4] := hB2
 have hb2 : Below x2.heap.size x2 (x2.alloc (.cells #[.int .u8 1, .int .u8 4] 5)) := (Below.refl _ _).alloc (Nat.le_refl _) _
 have HB2 := Lib.hid (hB2'.below hb2)
 have HLt2 := Lib.hid (bf_new HWx2.out.lw.ok.fld.fld #[.int .u8 1, .int .u8 4] [1, fb 4] rfl)
 have HWy2 := Lib.hid (HWx2.out.below hb2)
 have HBs2y := Lib.hid (HBs2.out.below hb2)
 have HBm2y := Lib.hid (HBm2.out.below hb2)
 clear hb2 hB2 hB2' q2
 go_wp2_with fail
 have hSa := same_calls E2 (some ⟨x2.heap.size, 0, none⟩) [1, fb 4] [1, fb 4] 2 2 k2 2 (x2.alloc (.cells #[.int .u8 1, .int .u8 4] 5)) rfl rfl HB2.out.by_ HLt2.out.by_
 rw [decide_eq_true rfl] at hSa
 with_reducible refine hSa.mono ?_
 clear hSa
 rintro e x3 ⟨rfl, hx2⟩
 rw [hx2] at HWy2 HBs2y HBm2y
 have HWx3 := HWy2
 have HBs3 := HBs2y
 have HBm3 := HBm2y
 clear hx2 q2' HWx2 HWy2 HBs2 HBs2y HBm2 HBm2y HB2 HLt2
 obtain ⟨bb3, oo3, E3, k3, e3, q3, hB3⟩ := share_at HWx3.out.sb HLb.out (i := 2) (by decide)
 cases e3
 have q3' : x3.cell? _ = some (.slice E3 2 k3) := q3
 have hB3' : BF S.g x3 E3 [fb 2, fb 4] := hB3
 have hb3 : Below x3.heap.size x3 (x3.alloc (.cells #[.int .u8 2, .int .u8 4] 5)) := (Below.refl _ _).alloc (Nat.le_refl _) _
 have HB3 := Lib.hid (hB3'.below hb3)
 have HLt3 := Lib.hid (bf_new HWx3.out.lw.ok.fld.fld #[.int .u8 2, .int .u8 4] [fb 2, fb 4] rfl)
 have HWy3 := Lib.hid (HWx3.out.below hb3)
 have HBs3y := Lib.hid (HBs3.out.below hb3)
 have HBm3y := Lib.hid (HBm3.out.below hb3)
 clear hb3 hB3 hB3' q3
 go_wp2_with fail
 have hSa := same_calls E3 (some ⟨x3.heap.size, 0, none⟩) [fb 2, fb 4] [fb 2, fb 4] 2 2 k3 2 (x3.alloc (.cells #[.int .u8 2, .int .u8 4] 5)) rfl rfl HB3.out.by_ HLt3.out.by_
 rw [decide_eq_true rfl] at hSa
 with_reducible refine hSa.mono ?_
 clear hSa
 rintro e x4 ⟨rfl, hx3⟩
 rw [hx3] at HWy3 HBs3y HBm3y
 have HWx4 := HWy3
 have HBs4 := HBs3y
 have HBm4 := HBm3y
 clear hx3 q3' HWx3 HWy3 HBs3 HBs3y HBm3 HBm3y HB3 HLt3
 have hb4 : Below x4.heap.size x4 (x4.alloc (.cells #[.int .u8 1, .int .u8 2] 5)) := (Below.refl _ _).alloc (Nat.le_refl _) _
 have HLt4 := Lib.hid (bf_new HWx4.out.lw.ok.fld.fld #[.int .u8 1, .int .u8 2] [1, fb 2] rfl)
 have HWy4 := Lib.hid (HWx4.out.below hb4)
 have HBs4y := Lib.hid (HBs4.out.below hb4)
 have HBm4y := Lib.hid (HBm4.out.below hb4)
 clear hb4
 go_wp2_with fail
 have hSa := same_calls A9 (some ⟨x4.heap.size, 0, none⟩) [1, fb 2] [1, fb 2] 2 2 c9 2 (x4.alloc (.cells #[.int .u8 1, .int .u8 2] 5)) rfl rfl HBs4y.out.by_ HLt4.out.by_
 rw [decide_eq_true rfl] at hSa
 with_reducible refine hSa.mono ?_
 clear hSa
 rintro e x5 ⟨rfl, hx4⟩
 rw [hx4] at HWy4 HBs4y HBm4y
 have HWx5 := HWy4
 have HBs5 := HBs4y
 have HBm5 := HBm4y
 clear hx4 HWx4 HWy4 HBs4 HBs4y HBm4 HBm4y HLt4
 have hb5 : Below x5.heap.size x5 (x5.alloc (.cells #[.int .u8 0, .int .u8 1, .int .u8 0] 5)) := (Below.refl _ _).alloc (Nat.le_refl _) _
 have HLt5 := Lib.hid (bf_new HWx5.out.lw.ok.fld.fld #[.int .u8 0, .int .u8 1, .int .u8 0] [0, 1, 0] rfl)
 have HWy5 := Lib.hid (HWx5.out.below hb5)
 have HBs5y := Lib.hid (HBs5.out.below hb5)
 have HBm5y := Lib.hid (HBm5.out.below hb5)
 clear hb5
 go_wp2_with fail
 have hSa := same_calls A10 (some ⟨x5.heap.size, 0, none⟩) [0, 1, 0] [0, 1, 0] 3 3 c10 3 (x5.alloc (.cells #[.int .u8 0, .int .u8 1, .int .u8 0] 5)) rfl rfl HBm5y.out.by_ HLt5.out.by_
 rw [decide_eq_true rfl] at hSa
 with_reducible refine hSa.mono ?_
 clear hSa
 rintro e x6 ⟨rfl, hx5⟩
 rw [hx5] at HWy5 HBs5y HBm5y
 have HWx6 := HWy5
 have HBs6 := HBs5y
 have HBm6 := HBm5y
 clear hx5 HWx5 HWy5 HBs5 HBs5y HBm5 HBm5y HLt5
 go_wp2
 go_ret
 exact ⟨rfl, HWx6.out.lw.bel⟩
end Go.Proofs.Ytimcmdnlhallmab.Tr

namespace Go.Proofs.Ytimcmdnlhallmab.Tr
open Go.RowKit Go.Shelf F8 Poly GF Rd Ms
attribute [local go_sem] Oper.semAt_some
abbrev C2 (b : Nat) (n k : Int) (V : World) : Prop := V.cell? ⟨b, 0, none⟩ = some (.int .i64 n) ∧ V.cell? ⟨b, 1, none⟩ = some (.int .i64 k)
theorem C2.below {b : Nat} {n k : Int} {V V' : World} (h : C2 b n k V) (hb : Below V.heap.size V V') : C2 b n k V' :=
 ⟨(hb.cell (cell_lt h.1)).trans h.1, (hb.cell (cell_lt h.2)).trans h.2⟩
theorem C2.new (w : World) (n k : Int) : C2 w.heap.size n k (w.alloc (.cells #[.int .i64 n, .int .i64 k] 29)) :=
 ⟨(Block.new w 29 #[.int .i64 n, .int .i64 k]).cell 0, (Block.new w 29 #[.int .i64 n, .int .i64 k]).cell 1⟩
def refN (n k : Int) : Int := if Good n k then 0 else 2
set_option maxRecDepth 100000 in
theorem refNew_calls (n k : Int) (w : World) :
  Calls Try.prog 9 #[.agg #[.int .i64 n, .int .i64 k]] w fun e w' => e = .returned (.int .i64 (refN n k)) ∧ Below w.heap.size w w' := by
 have hba : Below w.heap.size w (w.alloc (.cells #[.int .i64 n, .int .i64 k] 29)) := (Below.refl _ _).alloc (Nat.le_refl _) _
 obtain ⟨c0, c1⟩ := C2.new w n k
 have HBa := Lib.hid hba
 clear hba
 by_cases h1 : k < 1
 ·have HX : Hid (refN n k = 2) := Lib.hid (if_neg fun h => by have := h.1; omega)
  have d1 : decide (k < 1) = true := by simpa using h1
  go_enter Try.func9, Try.ntmps9
  go_wp2
  go_ret
  exact ⟨ret_int HX.out.symm, HBa.out⟩
 have d1 : decide (k < 1) = false := by simp; omega
 by_cases h2 : n ≤ k
 ·have HX : Hid (refN n k = 2) := Lib.hid (if_neg fun h => by have := h.2.1; omega)
  have d2 : decide (n ≤ k) = true := by simpa using h2
  go_enter Try.func9, Try.ntmps9
  go_wp2
  go_ret
  exact ⟨ret_int HX.out.symm, HBa.out⟩
 have d2 : decide (n ≤ k) = false := by simp; omega
 by_cases h3 : n > 23
 ·have HX : Hid (refN n k = 2) := Lib.hid (if_neg fun h => by have := h.2.2; omega)
  have d3 : decide (n > 23) = true := by simpa using h3
  go_enter Try.func9, Try.ntmps9
  go_wp2
  go_ret
  exact ⟨ret_int HX.out.symm, HBa.out⟩
 have d3 : decide (n > 23) = false := by simp; omega
 have HX : Hid (refN n k = 0) := Lib.hid (if_pos ⟨by omega, by omega, by omega⟩)
 go_enter Try.func9, Try.ntmps9
 go_wp2
 go_ret
 exact ⟨ret_int HX.out.symm, HBa.out⟩
theorem b_nums {n k : Nat} (hn : n < 24) (hk : k < n) : ∃ u v z : Nat, IntKind.i64.wrap ((n : Int) - 1) = (n : Int) - 1 ∧ IntKind.i64.wrap ((k : Int) * ((n : Int) - 1)) = (u : Int) ∧ IntKind.i64.wrap ((k : Int) - 1) = (k : Int) - 1 ∧ IntKind.i64.wrap ((k : Int) * ((k : Int) - 1)) = (v : Int) ∧ IntKind.i64.wrap ((v : Int) / 2) = (z : Int) ∧ IntKind.i64.wrap ((u : Int) - (z : Int)) = ((rs n k : Nat) : Int) := by
 have hB := bytes_k n hn k (by omega) hk
 obtain ⟨q, hq⟩ : ∃ q, rs n k = q := ⟨_, rfl⟩
 rw [hq] at hB ⊢
 obtain ⟨u, hu⟩ : ∃ u : Nat, (k : Int) * ((n : Int) - 1) = (u : Int) := ⟨k * (n - 1), by rw [Int.natCast_mul, Int.natCast_sub (by omega)]; rfl⟩
 obtain ⟨v, hv⟩ : ∃ v : Nat, (k : Int) * ((k : Int) - 1) = (v : Int) := by
  rcases Nat.eq_zero_or_pos k with h0 | h0
  ·exact ⟨0, by rw [h0]; rfl⟩
  ·exact ⟨k * (k - 1), by rw [Int.natCast_mul, Int.natCast_sub (by omega)]; rfl⟩
 have hu9 : u ≤ 23 * 23 := by
  have : (k : Int) * ((n : Int) - 1) ≤ 23 * 23 := Int.mul_le_mul (by omega) (by omega) (by omega) (by omega)
  omega
 have hv9 : v ≤ 23 * 23 := by
  have : (k : Int) * ((k : Int) - 1) ≤ 23 * 23 := by
   rcases Nat.eq_zero_or_pos k with h0 | h0
   ·rw [h0]; decide
   ·exact Int.mul_le_mul (by omega) (by omega) (by omega) (by omega)
  omega
 rw [hu, hv] at hB
 refine ⟨u, v, v / 2, IntWalk.i64_in _ (by omega), by rw [hu]; exact IntWalk.i64_in _ (by omega), IntWalk.i64_in _ (by omega), by rw [hv]; exact IntWalk.i64_in _ (by omega), by rw [show (v : Int) / 2 = ((v / 2 : Nat) : Int) by omega]; exact IntWalk.i64_in _ (by omega), by rw [show (u : Int) - ((v / 2 : Nat) : Int) = (q : Int) by omega]; exact IntWalk.i64_in _ (by omega)⟩
set_option maxRecDepth 100000 in
theorem refB_calls {n k : Nat} (hn : n < 24) (hk : k < n) (w : World) :
  Calls Try.prog 13 #[.agg #[.int .i64 (n : Nat), .int .i64 (k : Nat)]] w fun e w' => e = .returned (.int .i64 (rs n k : Nat)) ∧ Below w.heap.size w w' := by
 have hba : Below w.heap.size w (w.alloc (.cells #[.int .i64 (n : Int), .int .i64 (k : Int)] 29)) := (Below.refl _ _).alloc (Nat.le_refl _) _
 obtain ⟨c0, c1⟩ := C2.new w n k
 have HBa := Lib.hid hba
 obtain ⟨u, v, z, w1, w2, w3, w4, w5, w6⟩ := b_nums hn hk
 obtain ⟨q, hq⟩ : ∃ q, rs n k = q := ⟨_, rfl⟩
 rw [hq] at w6 ⊢
 clear hba hq
 have hmx : Try.prog.follows .mixedOrders = true := by kernel_rfl
 go_enter Try.func13, Try.ntmps13
 go_wp2
 go_ret
 exact ⟨rfl, HBa.out⟩
def Few (n k : Int) : Prop := n ≤ 9 ∧ k ≤ 9
instance (n k : Int) : Decidable (Few n k) := inferInstanceAs (Decidable (_ ∧ _))
theorem few_calls (n k : Int) (w : World) : Calls Try.prog 14 #[.int .i64 n, .int .i64 k] w fun e w' => e = .returned (.bool (decide (Few n k))) ∧ w = w' := by
 by_cases h1 : n ≤ 9
 ·have d1 : decide (n ≤ 9) = true := decide_eq_true h1
  have HD : Hid (decide (k ≤ 9) = decide (Few n k)) := Lib.hid (by rw [decide_eq_decide]; exact ⟨fun h => ⟨h1, h⟩, fun h => h.2⟩)
  go_enter Try.func14, Try.ntmps14
  go_wp2
  go_ret
  exact ⟨ret_bool HD.out, rfl⟩
 ·have d1 : decide (n ≤ 9) = false := decide_eq_false h1
  have HD : Hid (decide (Few n k) = false) := Lib.hid (decide_eq_false fun h => h1 h.1)
  go_enter Try.func14, Try.ntmps14
  go_wp2
  go_ret
  exact ⟨ret_bool HD.out.symm, rfl⟩
end Go.Proofs.Ytimcmdnlhallmab.Tr

namespace Go.Proofs.Ytimcmdnlhallmab.Tr
open Go.RowKit Go.Shelf F8 Poly GF Rd Ms
attribute [local go_sem] Oper.semAt_some
set_option maxRecDepth 100000 in
set_option maxHeartbeats 4000000 in
theorem repair_few {S : Tc} {w : World} (h : S.Ok w) (i : Nat) (hi : i < S.n) (A : Option Addr) (l : List El) (m c : Nat) (hl : l.length = m) (hm9 : m ≤ 1000) (hE : Els S.g w A l) (hv : Sy.VOk S.n 1 [(i : Int)] (Sy.elsN l)) (hm : m < S.n - 1) :
  Calls Try.prog 24 #[.pointer (some ⟨S.b, 0, none⟩), .int .i64 (i : Nat), .slice A m c] w fun e w' => e = .returned (.tuple #[.slice none 0 0, .int .i64 70]) ∧ Below w.heap.size w w' := by
 obtain ⟨c0, -⟩ := h.cells
 have HNone := Lib.hid (isNone_calls h)
 have hn := h.n24
 have HAl : Hid (∀ V, Below w.heap.size w V → Calls Try.prog 11 #[.pointer (some ⟨S.b, 0, none⟩)] V fun e w' => e = .returned (.int .i64 (S.n - 1 : Nat)) ∧ V = w') := Lib.hid fun V hV => alpha_calls (h.below hV)
 have h1 := Sy.isNode_calls (i : Int) S.n w
 rw [decide_eq_true (by omega)] at h1
 have H1 := Lib.hid h1
 have hb0 : Below w.heap.size w (w.alloc (.cells #[.int .i64 (i : Int)] 3)) := (Below.refl _ _).alloc (Nat.le_refl _) _
 have hV := Sy.valid_calls A l m c S.n 1 (some ⟨w.heap.size, 0, none⟩) [(i : Int)] 1 1 (w.alloc (.cells #[.int .i64 (i : Int)] 3)) hl hm9 (hE.below hb0).row (by omega) rfl (by omega) (Row.new w #[.int .i64 (i : Int)] 3 (0, 0))
 rw [decide_eq_true hv, show ((1 : Nat) : Int) = 1 from rfl] at hV
 have HV := Lib.hid hV
 have HB0 := Lib.hid hb0
 obtain ⟨u, hu⟩ : ∃ u, S.n - 1 = u := ⟨_, rfl⟩
 rw [hu] at hm HAl
 clear h1 hV hE hl hv hb0 h hu
 go_enter Try.func24, Try.ntmps24
 go_wp2_with (first
  | (go_at_call 27; refine HNone.out.mono ?_; rintro e w1 ⟨rfl, rfl⟩)
  | (go_at_call 33; (with_reducible refine H1.out.mono ?_); rintro e w1 ⟨rfl, rfl⟩)
  | (go_at_call 38; (with_reducible refine HV.out.mono ?_); rintro e w1 ⟨rfl, hb1⟩; have HB1 := Lib.hid (HB0.out.trans (hb1.mono HB0.out.size)); clear hb1; have hle : ((m : Int) < (u : Int)) := (by omega))
  | (go_at_call 11; refine (HAl.out _ HB1.out).mono ?_; rintro e w9 ⟨rfl, rfl⟩))
 go_ret2
 exact ⟨rfl, HB1.out⟩
def LB (g : Nat) (V : World) (E : List El) : Prop := ∀ e ∈ E, ∃ b y, e.A = some ⟨b, 0, none⟩ ∧ e.s = [y] ∧ e.c = 1 ∧ Block V b 5 #[.int .u8 (y.n : Nat)] ∧ b ≠ g
section
variable {g : Nat} {V V' : World} {E : List El}
theorem LB.nil (g : Nat) (V : World) : LB g V [] := fun e he => by simp at he
theorem LB.below (h : LB g V E) (hb : Below V.heap.size V V') : LB g V' E := fun e he => by
 obtain ⟨b, y, h1, h2, h3, h4, h5⟩ := h e he
 exact ⟨b, y, h1, h2, h3, h4.below hb h4.lt, h5⟩
theorem LB.grown {n B : Nat} {v : Value} {xs : List Value} (h : LB g V E) (ho : OwnK 2 V B 52 v n xs) (hg : V.grownBy V' v.ownBlock) : LB g V' E := fun e he => by
 obtain ⟨b, y, h1, h2, h3, h4, h5⟩ := h e he
 refine ⟨b, y, h1, h2, h3, (hg.block _ h4.lt (fun e1 => ?_)).trans h4, h5⟩
 rcases ho.2 with ⟨rfl, -⟩ | ⟨g', cap, cur, rfl, -, hh, -⟩
 ·simp [Value.ownBlock] at e1
 ·simp only [Value.ownBlock, Option.some.injEq] at e1
  subst e1
  unfold Block at h4
  rw [h4] at hh
  injection hh with hh
  injection hh with _ hh
  exact absurd hh (by decide)
theorem LB.append {E' : List El} (h : LB g V E) (h' : LB g V E') : LB g V (E ++ E') := fun e he => (List.mem_append.1 he).elim (h e) (h' e)
theorem LB.sub {E' : List El} (h : LB g V E) (hs : ∀ e ∈ E', e ∈ E) : LB g V E' := fun e he => h e (hs e he)
theorem LB.lst (h : LB g V E) : Lst g V E := fun e he => by
 obtain ⟨b, y, h1, h2, h3, h4, h5⟩ := h e he
 refine ⟨⟨⟨?_, bs_lt _⟩, fun _ a q ha hq => ?_⟩, by rw [h2, h3]; exact Nat.le_refl _⟩
 ·rw [h1, h2]
  intro k u hu
  have hk : k = 0 := by
   have := (List.getElem?_eq_some_iff.1 hu).1
   simp [bv, bs] at this
   omega
  subst hk
  refine ⟨b, 0, rfl, ?_⟩
  rw [Nat.zero_add]
  have := h4.cell 0
  rw [this]
  simpa [bv, bs] using hu
 ·rw [h1] at ha
  cases ha; cases hq
  exact h5
end
structure HBs (n j a : Nat) (s : List F8) (E : List El) : Prop where
 nd : (E.map El.p).Nodup
 rng : ∀ e ∈ E, ∃ i : Nat, e.p = (i : Int) ∧ a ≤ i ∧ i < n ∧ i ≠ j
 all : ∀ i : Nat, a ≤ i → i < n → i ≠ j → (i : Int) ∈ E.map El.p
 val : ∀ e ∈ E, e.s = [coef s (idx j e.p.toNat)]
 len : E.length + a + (if j < a then 0 else 1) = n
theorem HBs.start {n j : Nat} (s : List F8) (hj : j < n) : HBs n j n s [] := ⟨List.nodup_nil, fun e he => by simp at he, fun i h1 h2 => by omega, fun e he => by simp at he, by rw [if_pos hj]; simp⟩
theorem HBs.skip {n j : Nat} {s : List F8} {E : List El} (h : HBs n j (j + 1) s E) : HBs n j j s E := by
 refine ⟨h.nd, fun e he => ?_, fun i h1 h2 h3 => h.all i (by omega) h2 h3, h.val, ?_⟩
 ·obtain ⟨i, h1, h2, h3, h4⟩ := h.rng e he
  exact ⟨i, h1, by omega, h3, h4⟩
 ·have := h.len
  rw [if_pos (by omega)] at this
  rw [if_neg (by omega)]; omega
theorem HBs.snoc {n j a : Nat} {s : List F8} {E : List El} (h : HBs n j (a + 1) s E) (ha : a < n) (haj : a ≠ j) {e : El} (h1 : e.p = (a : Int)) (h2 : e.s = [coef s (idx j a)]) : HBs n j a s (E ++ [e]) := by
 refine ⟨?_, fun x hx => ?_, fun i h3 h4 h5 => ?_, fun x hx => ?_, ?_⟩
 ·rw [List.map_append, List.nodup_append]
  refine ⟨h.nd, by simp, fun x hx y hy e2 => ?_⟩
  obtain ⟨z, hz, rfl⟩ := List.mem_map.1 hx
  obtain ⟨i, h3, h4, -⟩ := h.rng z hz
  have h5 : y = (a : Int) := by rw [← h1]; simpa using hy
  omega
 ·rcases List.mem_append.1 hx with hx | hx
  ·obtain ⟨i, h3, h4, h5, h6⟩ := h.rng x hx
   exact ⟨i, h3, by omega, h5, h6⟩
  ·obtain rfl := List.mem_singleton.1 hx
   exact ⟨a, h1, Nat.le_refl _, ha, haj⟩
 ·rw [List.map_append, List.mem_append]
  by_cases e2 : i = a
  ·right; subst e2; simp [h1]
  ·exact .inl (h.all i (by omega) h4 h5)
 ·rcases List.mem_append.1 hx with hx | hx
  ·exact h.val x hx
  ·obtain rfl := List.mem_singleton.1 hx
   rw [h2, h1]; rfl
 ·have := h.len
  rw [List.length_append]
  by_cases e2 : j < a
  ·rw [if_pos e2]; rw [if_pos (by omega)] at this; simp; omega
  ·rw [if_neg e2]; rw [if_neg (by omega)] at this; simp; omega
theorem HBs.vok {n j : Nat} {s : List F8} {E : List El} (h : HBs n j 0 s E) : Sy.VOk n 1 [(j : Int)] (Sy.elsN E) := by
 refine ⟨?_, fun o ho => ?_⟩
 ·unfold Sy.elsN
  rw [List.map_map]
  exact h.nd
 ·obtain ⟨e, he, rfl⟩ := List.mem_map.1 ho
  obtain ⟨i, h1, -, h3, h4⟩ := h.rng e he
  have h2 := h.val e he
  refine ⟨⟨by show 0 ≤ e.p; omega, by show e.p < (n : Int); omega⟩, ?_, by show e.s.length = 1; rw [h2]; rfl⟩
  show e.p ∉ _
  simp; omega
theorem HBs.vokS {n j : Nat} {s : List F8} {E E' : List El} (h : HBs n j 0 s E) (hs : E'.Sublist E) : Sy.VOk n 1 [(j : Int)] (Sy.elsN E') :=
 ⟨h.vok.1.sublist ((hs.map _).map _), fun o ho => h.vok.2 o ((hs.map _).subset ho)⟩
theorem HBs.rep {n j : Nat} {wd F : List F8} {E : List El} (hj : j < n) (h : HBs n j 0 (shr n wd j) E) (hF : F.length = n - 1) (hr : ∀ o ∈ E, coef F (idx j o.p.toNat) = coef o.s 0) : F = shr n wd j := by
 refine List.ext_getElem (by rw [hF, shr_length wd hj]) fun q h1 h2 => ?_
 have hq : ∃ i, i < n ∧ i ≠ j ∧ idx j i = q := by
  by_cases e : q < j
  ·exact ⟨q, by omega, by omega, by unfold idx; rw [if_neg (by omega)]⟩
  ·exact ⟨q + 1, by omega, by omega, by unfold idx; rw [if_pos (by omega)]; omega⟩
 obtain ⟨i, hi, hij, rfl⟩ := hq
 obtain ⟨e, he, hp⟩ := List.mem_map.1 (h.all i (Nat.zero_le _) hi hij)
 have h3 := hr e he
 rw [h.val e he, hp] at h3
 have h4 : coef F (idx j i) = coef (shr n wd j) (idx j i) := h3
 rwa [coef_of_lt h1, coef_of_lt h2] at h4
end Go.Proofs.Ytimcmdnlhallmab.Tr
