/- MsrMends, for every input: the frame round the walk; the argument lists are opened, the walk's contract is met, what was read reads as it did. -/
import Derived.Test.YtjoghbmedfmioaaGreatPb24
import Derived.Test.YtjoghbmedfmioaaGreatPb31
import Derived.Deep.CutRange
import Derived.Test.YtjoghbmedfmioaaGreatRows
import Derived.Test.YtjoghbmedfmioaaGreatPb30
import Derived.WalkKit
import Derived.ProofKit
import Derived.OpenShut
import Derived.ShutString
import Derived.ChangeOld
import Derived.Below
import Derived.Deep.DeepHandedRow
import Derived.SizedLaws
namespace Go.Proofs.YtjoghbmedfmioaaGreat.msrMends
open Go.RowKit Go.Shelf F8 GF Poly Rd Ms
attribute [local go_sem] Oper.semAt_some


structure MS (S : Co) (w5 : World) (j a : Nat) (F : Nat → F8) (hv : Value) (V : World) (E : List El) : Prop where
 own : OwnK 2 V w5.heap.size 54 hv E.length (cells2 E)
 hb : HOne w5.heap.size V E
 hl : HTel j a F E
 fld : FldP V (some ⟨S.g, 0, none⟩)
 past : Past w5.heap.size S.g w5 V

structure CL (S : Co) (w5 w6 : World) (F : Nat → F8) (i : Nat) (E E2 : List El) (en : Nat) (A6 : Option Addr) (c6 : Nat) (A7 : Option Addr) (c7 : Nat) (V : World) : Prop where
 hc : HChg F i E E2
 hb : HOne w5.heap.size V E2
 ow : OwnK 2 V w5.heap.size 54 (.slice A6 en c6) en (cells2 E)
 wo : Own V w6.heap.size 5 (.slice A7 en c7) (bv (bs (wasOf F E)))
 fld : FldP V (some ⟨S.g, 0, none⟩)
 past : Past w5.heap.size S.g w5 V
theorem CL.drew {S : Co} {w5 w6 : World} {F : Nat → F8} {i : Nat} {E E2 : List El} {en : Nat} {A6 : Option Addr} {c6 : Nat} {A7 : Option Addr} {c7 : Nat} {V : World} (h : CL S w5 w6 F i E E2 en A6 c6 A7 c7 V) : CL S w5 w6 F i E E2 en A6 c6 A7 c7 V.drew :=
 ⟨h.hc, h.hb.below (Below.refl _ _).drew, h.ow.drew, h.wo.drew, h.fld.below (Below.refl _ _).drew, h.past.drew⟩
set_option maxRecDepth 100000 in
set_option maxHeartbeats 8000000 in
theorem core (PS : Poly.Spec) (Z : Wl.Spec) (w : World) (n k d : Int) (hl0 : -9223372036854775808 ≤ n) (hn0 : n < 9223372036854775808) (hl1 : -9223372036854775808 ≤ k) (hn1 : k < 9223372036854775808) (hl2 : -9223372036854775808 ≤ d) (hn2 : d < 9223372036854775808) (B : Option Addr) (q : List F8) (o c : Nat) (ho : q.length = o) (hbq : Bytes w B (bs q)) (tq : Nat) (htq : tq < 256) (btz : Nat) (D : Option Addr) (r : List F8) (p f : Nat) (hp : r.length = p) (hbr : Bytes w D (bs r)) (D2 : Option Addr) (r2 : List F8) (p2 f2 : Nat) (hp2 : r2.length = p2) (hbr2 : Bytes w D2 (bs r2)) (tt : Nat) (htt : tt < 256) :
  Calls Tryz.prog 7 #[.int .i64 n, .int .i64 k, .int .i64 d, .slice B o c, .int .u8 tq, .int .u64 btz, .slice D p f, .slice D2 p2 f2, .int .u8 tt] w fun e w' => e = .returned (.bool true) ∧ Below w.heap.size w w' := by
 have HB := Lib.hid hbq
 have HO := Lib.hid ho
 have HD := Lib.hid hbr
 have HP := Lib.hid hp
 have HD2 := Lib.hid hbr2
 have HP2 := Lib.hid hp2
 have hfew := few_calls n k d w
 by_cases hf : Few n k d
 rotate_left
 ·rw [decide_eq_false hf] at hfew
  have HFew := Lib.hid hfew
  clear hbq ho hfew hf HB hbr hp HD hbr2 hp2 HD2
  go_enter Tryz.func7, Tryz.ntmps7
  go_wp2_with (first
   | (go_at_call 27; refine HFew.out.mono ?_; rintro e w0 ⟨rfl, rfl⟩)
   | (go_at_call 28; (with_reducible refine (works_calls PS Z _).mono ?_); rintro e wz ⟨rfl, HZ⟩))
  go_ret
  exact ⟨rfl, HZ⟩
 rw [decide_eq_true hf] at hfew
 have HFew := Lib.hid hfew
 have HF := Lib.hid hf
 clear hbq ho hfew hf hbr hp hbr2 hp2
 by_cases hp6 : p > 6
 ·have hp6i : decide ((p : Int) > 6) = true := by simp; omega
  clear HB HD HD2 HF hp6
  go_enter Tryz.func7, Tryz.ntmps7
  go_wp2_with (first
   | (go_at_call 27; refine HFew.out.mono ?_; rintro e w0 ⟨rfl, rfl⟩)
   | (go_at_call 28; (with_reducible refine (works_calls PS Z _).mono ?_); rintro e wz ⟨rfl, HZ⟩))
  go_ret
  exact ⟨rfl, HZ⟩
 have hp6i : decide ((p : Int) > 6) = false := by simp; omega
 go_enter Tryz.func7, Tryz.ntmps7
 go_wp2_with (go_at_call 27; refine HFew.out.mono ?_; rintro e w0 ⟨rfl, rfl⟩)
 refine (GF.new_calls w).mono ?_
 rintro e w1 ⟨rfl, hw1⟩
 have HMd := Lib.hid (made PS n k d w w1 hw1 hl0 hn0 hl1 hn1 hl2 hn2)
 clear hw1
 go_wp2_with fail
 refine HMd.out.mono ?_
 clear HMd
 rintro e w2 (⟨hgood, S, hL, rfl⟩ | ⟨-, rfl, HBz⟩)
 rotate_left
 ·go_wp2_with (go_at_call 28; (with_reducible refine (works_calls PS Z _).mono ?_); rintro e wz ⟨rfl, HZ⟩)
  go_ret
  exact ⟨rfl, HBz.trans (HZ.mono HBz.size)⟩
 have HL := Lib.hid hL.lw
 have hn := hL.lw.ok.nums
 have hek := hL.ek
 have hk9 : S.k ≤ 9 := by have := HF.out.2.1; omega
 obtain ⟨kn, hkn⟩ : ∃ kn, S.k = kn := ⟨_, rfl⟩
 obtain ⟨sn, hsn⟩ : ∃ sn, S.n = sn := ⟨_, rfl⟩
 obtain ⟨dn, hdn⟩ : ∃ dn, S.d = dn := ⟨_, rfl⟩
 obtain ⟨sa, hsa⟩ : ∃ sa, S.a = sa := ⟨_, rfl⟩
 obtain rfl : n = (sn : Int) := by rw [← hsn]; exact hL.en.symm
 obtain rfl : d = (dn : Int) := by rw [← hdn]; exact hL.ed.symm
 obtain rfl : k = (kn : Int) := by rw [← hkn]; exact hL.ek.symm
 obtain ⟨mb, hmb⟩ : ∃ mb, S.k * S.a = mb := ⟨_, rfl⟩
 have hmb2 : mb ≤ 9 * 16 := by rw [← hmb]; exact Nat.mul_le_mul hk9 hn.2.1
 have HBc : Hid (∀ V, Lw S w V → Calls Tryz.prog 31 #[.pointer (some ⟨S.b, 0, none⟩)] V fun e w' => e = .returned (.int .i64 (mb : Nat)) ∧ Below V.heap.size V w') := Lib.hid fun V hV => by
  have h := b_calls hV.ok
  rw [hmb] at h
  exact h
 have HMb := Lib.hid hmb
 have HKn := Lib.hid hkn
 have HSn := Lib.hid hsn
 have HDn := Lib.hid hdn
 have HSa := Lib.hid hsa
 have hdn9 : dn ≤ 254 := by omega
 have hsn1 : 1 ≤ sn := by omega
 have hks : kn ≤ sn := by omega
 have hkn9 : kn ≤ 9 := by omega
 have hs9 : sn ≤ 9 := by have := HF.out.1; omega
 clear hL hn hek hmb hkn hsn hdn hsa hgood hk9 HF HFew hl0 hn0 hl1 hn1 hl2 hn2
 go_wp2_with fail
 refine (HBc.out _ HL.out).mono ?_
 rintro e w3 ⟨rfl, hb3⟩
 have HL3 := Lib.hid (HL.out.below hb3)
 clear hb3 HL HBc
 have HFu := Lib.hid (kfull_calls B q o c mb w3 HO.out (HB.out.below HL3.out.bel) (by omega))
 go_wp2_with fail
 refine HFu.out.mono ?_
 rintro e w4 ⟨A4, c4, rfl, hc4, hO4, hb4⟩
 obtain ⟨mx, hm⟩ : ∃ m, full q mb = m := ⟨_, rfl⟩
 have hml : mx.length = mb := by rw [← hm, full_length]
 rw [hm] at hO4
 have HL4 := Lib.hid (HL3.out.below hb4)
 have HM4 := Lib.hid (BF.own HL4.out.ok.fld hO4)
 have HMl := Lib.hid hml
 clear hO4 hb4 hm hml HFu HL3
 have hEn := encode_calls PS Z HL4.out.ok A4 mx mb c4 HMl.out HMb.out.symm HM4.out hc4
 rw [HSn.out, HKn.out] at hEn
 have HEn := Lib.hid hEn
 clear hEn
 go_wp2_with fail
 refine HEn.out.mono ?_
 clear HEn
 rintro e w5 ⟨A5, c5, l5, M, N, rfl, hc5, hO5, hL5, hCw, hch, hls, hf5, hp5⟩
 have HL5 := Lib.hid (HL4.out.go hf5 hp5)
 have HM5 := Lib.hid (HM4.out.past hp5)
 have HS5 : Hid (Shs S.g w5 A5 l5) := Lib.hid ⟨own_row (own1_of hO5).1, hL5.lst hf5⟩
 have HCw := Lib.hid hCw
 have HCh := Lib.hid hch
 have HLs := Lib.hid hls
 have hln : l5.length = sn := by have := congrArg List.length hls; simpa using this
 have hsz : ∀ e ∈ l5, e.s.length ≤ 1000 := fun e he => by
  have h1 : e.s ∈ l5.map El.s := List.mem_map_of_mem he
  rw [hls] at h1
  obtain ⟨i, hi, h2⟩ := List.mem_map.1 h1
  rw [← h2, node, shr_length]
  have := HL5.out.ok.a16
  omega
 obtain ⟨s, hs⟩ : ∃ s : Nat, tt % 3 = s := ⟨_, rfl⟩
 have hs3 : s ≤ 2 := by omega
 have es1 : (tt : Int) % 3 = (s : Int) := by omega
 have es2 : (tt : Int).tmod 3 = (s : Int) := by rw [Int.tmod_eq_emod_of_nonneg (by omega)]; exact es1
 have es3 : IntKind.u8.wrap (s : Int) = (s : Int) := by rw [IntKind.wrap_u8']; omega
 have es4 : IntKind.i64.wrap (s : Int) = (s : Int) := IntWalk.i64_in _ (by omega)
 obtain ⟨j, hj⟩ : ∃ j : Nat, tq % sn = j := ⟨_, rfl⟩
 have hjn : j < sn := by rw [← hj]; exact Nat.mod_lt _ (by omega)
 have ej1 : (tq : Int) % (sn : Int) = (j : Int) := by rw [← hj]; simp
 have ej2 : (tq : Int).tmod (sn : Int) = (j : Int) := by rw [Int.tmod_eq_emod_of_nonneg (by omega)]; exact ej1
 have hn00 : ((sn : Int) == 0) = false := by simp; omega
 have hto : IntKind.i64.wrap (tq : Int) = (tq : Int) := IntWalk.i64_in _ (by omega)
 have hnn : ((sn : Int) != (sn : Int)) = false := by simp
 have HLn := Lib.hid hln
 obtain ⟨F, hF⟩ : ∃ F : Nat → F8, (fun i => Poly.eval (node S.xs S.v S.a M N i) (coef S.xs (S.v + j))) = F := ⟨_, rfl⟩
 have HF := Lib.hid hF
 have hg5 := HL5.out.ok.fld.fld.lt
 clear hO5 hL5 hCw hch hls hf5 hp5 HL4 HM4 HM5 hln hsz hs htt hj hF HMb HMl HCh
 go_wp2_with fail
 go_loopw [25, 26] (fun hv iv wr => ∃ (a : Nat) (E : List El), a ≤ sn ∧ iv = .int .i64 a ∧ Hid (MS S w5 j a F hv wr E)) (fun _ iv _ => sn - (intOf iv).toNat)
 case atStart => exact ⟨0, [], by omega, rfl, Lib.hid ⟨OwnK.nil _ _ _ _, HOne.nil _ _, HTel.nil _ _, HL5.out.ok.fld, Past.refl _ _ _⟩⟩
 case round =>
  obtain ⟨a, E, ha, rfl, HM⟩ := hrel
  obtain ⟨w6, hw6⟩ : ∃ w6, wr = w6 := ⟨_, rfl⟩
  rw [hw6] at HM ⊢
  clear hw6
  by_cases han : a < sn
  ·have ha64 : a < 64 := by omega
   by_cases haj : a = j
   ·have hE : ((a : Int) == (j : Int)) = true := by simp [haj]
    have HM2 : Hid (MS S w5 j (a + 1) F u25 w6 E) := Lib.hid ⟨HM.out.own, HM.out.hb, HM.out.hl.skip, HM.out.fld, HM.out.past⟩
    clear HM haj
    go_wp2
    go_roundw
    case rel => exact ⟨a + 1, E, by omega, by go_num, HM2⟩
    case measure => first | (simp [intOf]; done) | (simp [intOf]; omega)
   ·have hE : ((a : Int) == (j : Int)) = false := by simp; omega
    cases hbit : (bits BinOp.and IntKind.u64 ((btz : Int) / 2 ^ a) 1 == 0) with
    | true =>
     have HM2 : Hid (MS S w5 j (a + 1) F u25 w6 E) := Lib.hid ⟨HM.out.own, HM.out.hb, HM.out.hl.skip, HM.out.fld, HM.out.past⟩
     clear HM haj
     go_wp2
     go_roundw
     case rel => exact ⟨a + 1, E, by omega, by go_num, HM2⟩
     case measure => first | (simp [intOf]; done) | (simp [intOf]; omega)
    | false =>
     have hil : a < l5.length := by rw [HLn.out]; exact han
     have hL6 := HL5.out.go HM.out.fld HM.out.past
     have hS6 := HS5.out.past HL5.out.ok.fld.fld HM.out.past
     obtain ⟨b1, o1, hA5, q1⟩ := cells1_at hS6.row hil
     have hlst := hS6.lst _ (List.getElem_mem hil)
     have hes : (l5[a]).s = node S.xs S.v S.a M N a := by
      have h6 : (l5.map El.s)[a]? = some (node S.xs S.v S.a M N a) := by rw [HLs.out, List.getElem?_map, List.getElem?_range han]; rfl
      rw [List.getElem?_map, List.getElem?_eq_getElem hil] at h6
      injection h6 with h6
     have hlen : (node S.xs S.v S.a M N a).length = sa := by unfold node; rw [shr_length]; exact HSa.out
     rw [hes, hlen] at q1
     rw [hes] at hlst
     obtain ⟨eA, heA⟩ : ∃ x, (l5[a]).A = x := ⟨_, rfl⟩
     obtain ⟨ec, hec⟩ : ∃ x, (l5[a]).c = x := ⟨_, rfl⟩
     rw [heA, hec] at q1 hlst
     subst hA5
     have hHe := help_calls PS hL6.ok a j (by rw [HSn.out]; exact han) (by rw [HSn.out]; exact hjn) haj eA _ sa ec hlen HSa.out.symm hlst.1 (by rw [← hlen]; exact hlst.2)
     obtain ⟨y, hy⟩ : ∃ y, Poly.eval (node S.xs S.v S.a M N a) (coef S.xs (S.v + j)) = y := ⟨_, rfl⟩
     rw [hy] at hHe
     have hFy : F a = y := by rw [← HF.out]; exact hy
     have HHe := Lib.hid hHe
     have HFy := Lib.hid hFy
     have hEl : E.length ≤ 9 := by have := HM.out.hl.len; omega
     have hs6 := HM.out.past.size
     clear hil hL6 hS6 hlst hes hlen heA hec hHe hy hFy
     go_wp2_with fail
     refine HHe.out.mono ?_
     clear HHe
     rintro e w7 ⟨rfl, hf7, hp7⟩
     have hs7 := hp7.size
     have hOw7 := ownK_past HM.out.own hg5 hp7
     have hHb7 := HM.out.hb.past hg5 hp7
     have hP7 := HM.out.past.trans (hp7.mono hs6)
     have hyy : ((y.n : Int) != (y.n : Int)) = false := by simp
     obtain ⟨v8, hv8⟩ : ∃ v8, (w7.alloc (.cells #[.int .u8 (y.n : Nat)] 5)).alloc (.cells #[.int .i64 (a : Int), .slice (some ⟨w7.heap.size, 0, none⟩) 1 1] 54) = v8 := ⟨_, rfl⟩
     have hb8 : Below w7.heap.size w7 v8 := by rw [← hv8]; exact ((Below.refl _ _).alloc (Nat.le_refl _) _).alloc (by simp) _
     have hz8 : v8.heap.size = w7.heap.size + 1 + 1 := by rw [← hv8, World.size_alloc, World.size_alloc]
     have hrow : Row v8 (some ⟨w7.heap.size + 1, 0, none⟩) (cells2 [⟨(a : Int), some ⟨w7.heap.size, 0, none⟩, [y], 1⟩]) := by
      have h1 := Row.new (w7.alloc (.cells #[.int .u8 (y.n : Nat)] 5)) #[.int .i64 (a : Int), .slice (some ⟨w7.heap.size, 0, none⟩) 1 1] 54 (0, 0)
      rw [World.size_alloc] at h1
      rw [← hv8]
      exact h1
     have HHb := Lib.hid (hHb7.snoc (e := ⟨(a : Int), some ⟨w7.heap.size, 0, none⟩, [y], 1⟩) rfl rfl rfl (by omega) (Nat.le_refl _) hb8 (by rw [← hv8]; exact (Block.new w7 5 #[.int .u8 (y.n : Nat)]).alloc _))
     have HRow := Lib.hid hrow
     have HOw := Lib.hid (hOw7.below hb8)
     have HHl : Hid (HTel j (a + 1) F (E ++ [(⟨(a : Int), some ⟨w7.heap.size, 0, none⟩, [y], 1⟩ : El)])) := Lib.hid (HM.out.hl.snoc haj rfl (by show [y] = [F a]; rw [HFy.out]))
     have HF8 := Lib.hid (hf7.below hb8)
     have HP8 := Lib.hid (hP7.trans (Past.of_below (hb8.mono (by omega)) S.g))
     obtain ⟨en, hen⟩ : ∃ en, E.length = en := ⟨_, rfl⟩
     rw [hen] at HOw hEl
     have HEn := Lib.hid hen
     have hz9 : w5.heap.size ≤ v8.heap.size := by omega
     clear hf7 hp7 hOw7 hHb7 hP7 hrow hb8 hen HM hz8 haj
     go_wp2_with (at_builtin; refine wpList_appK _ rfl 2 _ _ _ rfl w5.heap.size 54 _ 32 Tryz.underlying43 info_sym rfl (by omega) (by omega) _ _ _ rfl HOw.out ⟨w7.heap.size + 1, 0, none⟩ 1 1 (cells2 [⟨(a : Int), some ⟨w7.heap.size, 0, none⟩, [y], 1⟩]) rfl rfl HRow.out (cells2_one _) (by omega) hz9 ?_; rintro v9 w9 hown hg9 -)
     rw [← cells2_append] at hown
     have hB9 := HOw.out.grew hz9 hg9
     have HM9 : Hid (MS S w5 j (a + 1) F v9 w9 (E ++ [⟨(a : Int), some ⟨w7.heap.size, 0, none⟩, [y], 1⟩])) := Lib.hid ⟨by rw [List.length_append, HEn.out]; exact hown, HHb.out.grown HOw.out (by decide) hg9, HHl.out, fldp_later HF8.out hg5 hB9, HP8.out.trans (Past.of_below hB9 S.g)⟩
     clear hown hg9 hB9
     go_wp2
     go_roundw
     case rel => exact ⟨a + 1, _, by omega, by go_num, HM9⟩
     case measure => first | (simp [intOf]; done) | (simp [intOf]; omega)
  ·obtain rfl : sn = a := by omega
   obtain ⟨en, hen⟩ : ∃ en, E.length = en := ⟨_, rfl⟩
   have hown := HM.out.own
   rw [hen] at hown
   obtain ⟨A6, c6, rfl, hc6, hr6, hA6⟩ := hown.shape
   have hen9 : en ≤ 9 := by have := HM.out.hl.len; omega
   have HEn := Lib.hid hen
   have HOw := Lib.hid hown
   have HHb := Lib.hid HM.out.hb
   have HHl := Lib.hid HM.out.hl
   have HF6 := Lib.hid HM.out.fld
   have HP6 := Lib.hid HM.out.past
   have hs56 := HM.out.past.size
   have HU6 := Lib.hid HM.out.hb.hu
   have HAt : Hid (∀ (V : World) (E2 : List El), cells2 E2 = cells2 E → E2.length = en → OwnK 2 V w5.heap.size 54 (.slice A6 en c6) en (cells2 E) → HOne w5.heap.size V E2 → ∀ (t : Nat) (ht : t < E2.length), ∃ b6 b y, A6 = some ⟨b6, 0, none⟩ ∧ (E2[t]).A = some ⟨b, 0, none⟩ ∧ (E2[t]).s = [y] ∧ (E2[t]).c = 1 ∧ V.cell? ⟨b6, t * 2, none⟩ = some (.int .i64 (E2[t]).p) ∧ V.cell? ⟨b6, t * 2 + 1, none⟩ = some (.slice (some ⟨b, 0, none⟩) 1 1) ∧ Block V b 5 #[.int .u8 (y.n : Nat)] ∧ w5.heap.size ≤ b) := Lib.hid fun V E2 hC hl hO hB t ht => by
    obtain ⟨A', c', e1, -, hr, -⟩ := hO.shape
    obtain rfl := (Value.slice.inj e1).1
    obtain ⟨b, y, h1, h2, h3, h4, h5⟩ := hB.at_ ht
    rcases hO.2 with ⟨e2, -⟩ | ⟨g9, cap, cur, e2, -⟩
    ·have := (Value.slice.inj e2).2.1
     omega
    ·obtain rfl := (Value.slice.inj e2).1
     rw [← hC] at hr
     obtain ⟨q1, q2⟩ := cells2_get (List.getElem?_eq_getElem ht)
     obtain ⟨b', o', e3, hc0⟩ := hr _ _ q1
     cases e3
     obtain ⟨b', o', e3, hc1⟩ := hr _ _ q2
     cases e3
     rw [Nat.zero_add] at hc0 hc1
     refine ⟨g9, b, y, rfl, h1, h2, h3, hc0, ?_, h5, h4⟩
     rw [hc1]
     unfold El.v
     rw [h1, h2, h3]; rfl
   clear hown hr6 hen HM ha han
   go_wp2_with fail
   go_loopw [29, 30] (fun ov iv wr => ∃ t : Nat, t ≤ en ∧ iv = .int .i64 t ∧ Hid (Own wr w6.heap.size 5 ov (bv (bs (wasOf F (E.take t))))) ∧ Hid (Below w6.heap.size w6 wr)) (fun _ iv _ => en - (intOf iv).toNat)
   case atStart => exact ⟨0, by omega, rfl, Lib.hid (Own.nil _ _ _), Lib.hid (Below.refl _ _)⟩
   case round =>
    obtain ⟨t, ht, rfl, HO, HW⟩ := hrel
    by_cases hte : t < en
    ·have htl : t < E.length := by rw [HEn.out]; exact hte
     obtain ⟨b6, b, y, hA, h1, h2, -, hc0, hc1, hblk, -⟩ := HAt.out wr E rfl HEn.out (HOw.out.below HW.out) (HHb.out.below HW.out) t htl
     subst hA
     have hcd : wr.cell? ⟨b, 0, none⟩ = some (.int .u8 (y.n : Nat)) := hblk.cell 0
     have hFy : F (E[t]).p.toNat = y := by
      have h3 := HHl.out.val _ (List.getElem_mem htl)
      rw [h2] at h3
      injection h3 with h3
      exact h3.symm
     have HT : Hid (bv (bs (wasOf F (E.take t))) ++ bv [y.n] = bv (bs (wasOf F (E.take (t + 1))))) := Lib.hid (by rw [wasOf_take htl, bvs_snoc, hFy])
     have HN : Hid ((bv (bs (wasOf F (E.take t)))).length ≤ 9) := Lib.hid (by rw [bvs_length, wasOf_length, List.length_take]; omega)
     have hsz := HW.out.size
     clear hc0 hblk h1 h2 hFy htl
     go_wp2_with (at_builtin; refine wpList_app _ rfl _ _ _ rfl w6.heap.size 5 _ 1 Tryz.underlying34 info_u8 rfl (by omega) _ _ rfl (HO.out.alloc _) (some ⟨wr.heap.size, 0, none⟩) 1 1 (bv [y.n]) rfl rfl (Row.new _ _ _ _) (bv_one _) (by have := HN.out; omega) (by simp; omega) ?_; rintro v2 w7 hown hg7 -)
     rw [HT.out] at hown
     have HO7 := Lib.hid hown
     have HW7 := Lib.hid ((HW.out.alloc hsz (.cells #[.int .u8 (y.n : Int)] 5)).trans ((HO.out.alloc (.cells #[.int .u8 (y.n : Int)] 5)).grew (by simp; omega) hg7))
     clear hown hg7
     go_roundw
     case rel => exact ⟨t + 1, by omega, by go_num, HO7, HW7⟩
     case measure => first | (simp [intOf]; done) | (simp [intOf]; omega)
    ·obtain rfl : t = en := by omega
     obtain ⟨A7, c7, rfl, hc7⟩ := Own.shape HO.out
     have hwl : (wasOf F (E.take t)).length = t := by rw [wasOf_length, List.length_take, HEn.out]; omega
     have hwa : wasOf F (E.take t) = wasOf F E := by rw [List.take_of_length_le (by rw [HEn.out]; exact Nat.le_refl _)]
     rw [hwl] at hc7 HO ⊢
     rw [hwa] at HO
     obtain ⟨w7, hw7⟩ : ∃ w7, wr = w7 := ⟨_, rfl⟩
     rw [hw7] at HO HW ⊢
     have hs67 := HW.out.size
     have HCl : Hid (CL S w5 w6 F 0 E E t A6 c6 A7 c7 w7) := Lib.hid ⟨HChg.start HHl.out, HHb.out.below HW.out, HOw.out.below HW.out, HO.out, HF6.out.below HW.out, HP6.out.trans (Past.of_below (HW.out.mono hs56) _)⟩
     have hte' : ¬ ((t : Int) < (t : Int)) := by omega
     clear hw7 hwl hwa HO HW ht hte
     go_wp2_with fail
     go_loopw [31] (fun iv wr2 => ∃ (i : Nat) (E2 : List El), i ≤ s ∧ iv = .int .i64 i ∧ Hid (CL S w5 w6 F i E E2 t A6 c6 A7 c7 wr2)) (fun iv _ => s - (intOf iv).toNat)
     case atStart => exact ⟨0, E, by omega, rfl, HCl⟩
     case round =>
      clear HCl
      obtain ⟨i, E2, hi, rfl, HC⟩ := hrel
      go_upto_region 26 with fail
      go_cut [153] from 134 to 172 (fun c wx => c = .bool (decide (i < p ∧ i < p2 ∧ i < s ∧ 0 < t)) ∧ wr = wx)
      case first =>
       rcases (by omega : ¬ i < p ∨ (i < p ∧ ¬ i < p2) ∨ (i < p ∧ i < p2 ∧ ¬ i < s) ∨ (i < p ∧ i < p2 ∧ i < s ∧ ¬ 0 < t) ∨ (i < p ∧ i < p2 ∧ i < s ∧ 0 < t)) with h1 | ⟨h1, h2⟩ | ⟨h1, h2, h3⟩ | ⟨h1, h2, h3, h4⟩ | ⟨h1, h2, h3, h4⟩
       ·go_wp2_with fail
        go_meet
        exact ⟨congrArg Value.bool (decide_eq_false (by omega)).symm, rfl⟩
       ·go_wp2_with fail
        go_meet
        exact ⟨congrArg Value.bool (decide_eq_false (by omega)).symm, rfl⟩
       ·go_wp2_with fail
        go_meet
        exact ⟨congrArg Value.bool (decide_eq_false (by omega)).symm, rfl⟩
       ·go_wp2_with fail
        go_meet
        exact ⟨congrArg Value.bool (decide_eq_false (by omega)).symm, rfl⟩
       ·go_wp2_with fail
        go_meet
        exact ⟨congrArg Value.bool (decide_eq_true ⟨h1, h2, h3, h4⟩).symm, rfl⟩
      case rest =>
       obtain ⟨rfl, rfl⟩ := hcut
       have hL9 := HL5.out.go HC.out.fld HC.out.past
       rcases (by omega : (i < p ∧ i < p2 ∧ i < s ∧ 0 < t) ∨ ¬ (i < p ∧ i < p2 ∧ i < s ∧ 0 < t)) with ⟨hi1, hi2, hi3, hi4⟩ | hno
       ·have hb1 := HD.out.below hL9.bel
        have hb2 := HD2.out.below hL9.bel
        obtain ⟨b1, f1, rfl⟩ := where_ hb1 (by rw [HP.out]; omega)
        obtain ⟨b2, f2', rfl⟩ := where_ hb2 (by rw [HP2.out]; omega)
        have q1 := cellAt hb1 i (by rw [HP.out]; exact hi1)
        have q2 := cellAt hb2 i (by rw [HP2.out]; exact hi2)
        obtain ⟨a, ha⟩ : ∃ a, coef r i = a := ⟨_, rfl⟩
        obtain ⟨y, hy⟩ : ∃ y, coef r2 i = y := ⟨_, rfl⟩
        rw [ha] at q1
        rw [hy] at q2
        have ha256 := a.h
        obtain ⟨x, hx⟩ : ∃ x : Nat, a.n % t = x := ⟨_, rfl⟩
        have hxt : x < t := by rw [← hx]; exact Nat.mod_lt _ hi4
        have ex : (a.n : Int) % (t : Int) = (x : Int) := by rw [← hx]; simp
        have ex2 : (a.n : Int).tmod (t : Int) = (x : Int) := by rw [Int.tmod_eq_emod_of_nonneg (by omega)]; exact ex
        have hi0 : ((t : Int) == 0) = false := by simp; omega
        have hxl : x < E2.length := by rw [HC.out.hc.len, HEn.out]; exact hxt
        obtain ⟨b6, b, y0, hA, h1, h2, h3, hc0, hc1, hblk, hbB⟩ := HAt.out wr E2 HC.out.hc.cs (by rw [HC.out.hc.len]; exact HEn.out) HC.out.ow HC.out.hb x hxl
        subst hA
        have hcd : wr.cell? ⟨b, 0, none⟩ = some (.int .u8 (y0.n : Nat)) := hblk.cell 0
        have hfz := hblk.frozen 0
        have hbU : b < w6.heap.size := HU6.out (some ⟨b, 0, none⟩) (by rw [← HC.out.hc.as_, ← h1]; exact List.mem_map_of_mem (List.getElem_mem hxl)) _ rfl
        have hbw : Below w5.heap.size wr (wr.setCell ⟨b, 0, none⟩ (.int .u8 (y.n : Int))) := (Below.refl _ _).setCell (p := ⟨b, 0, none⟩) hbB _
        have HC2 : Hid (CL S w5 w6 F (i + 1) E (E2.set x ⟨(E2[x]).p, some ⟨b, 0, none⟩, [y], 1⟩) t (some ⟨b6, 0, none⟩) c6 A7 c7 (wr.setCell ⟨b, 0, none⟩ (.int .u8 (y.n : Int)))) := Lib.hid ⟨HC.out.hc.put hxl h1 h3 y, HC.out.hb.put hxl h1 y, ownK_far HC.out.ow (HC.out.hb.apart HC.out.ow (by decide) (List.getElem_mem hxl) h1) _, Own.far HC.out.wo (p := ⟨b, 0, none⟩) (fun e => by have := (HC.out.wo.lt _ e).1; simp at this; omega) _, fldp_later HC.out.fld hg5 hbw, HC.out.past.trans (Past.of_below hbw _)⟩
        obtain ⟨E3, HC3⟩ : ∃ E3, Hid (CL S w5 w6 F (i + 1) E E3 t (some ⟨b6, 0, none⟩) c6 A7 c7 (wr.setCell ⟨b, 0, none⟩ (.int .u8 (y.n : Int))).drew) := ⟨_, Lib.hid (HC2.out.drew)⟩
        clear hb1 hb2 ha hy hx h1 h2 h3 hblk hbU hbw HC HC2 hL9 hc0 hbB hxl
        go_wp2_with fail
        go_region
        generalize (wr.setCell ⟨b, 0, none⟩ (.int .u8 (y.n : Int))).drew = w8 at *
        go_wp2
        go_roundw
        case rel => exact ⟨i + 1, _, by omega, by go_num, HC3⟩
        case measure => simp [intOf]; omega
       ·rw [decide_eq_false hno]
        obtain ⟨w9, hw9⟩ : ∃ w9, wr = w9 := ⟨_, rfl⟩
        rw [hw9] at HC hL9 ⊢
        have HL9 := Lib.hid hL9
        have hE2 : E2.length = t := by rw [HC.out.hc.len]; exact HEn.out
        clear hw9 hno hL9
        go_wp2_with fail
        go_loopw [32, 33] (fun ov iv wr => ∃ q : Nat, q ≤ t ∧ iv = .int .i64 q ∧ Hid (Own wr w9.heap.size 3 ov (zs (liarsOf F (E2.take q)))) ∧ Hid (Below w9.heap.size w9 wr)) (fun _ iv _ => t - (intOf iv).toNat)
        case atStart => exact ⟨0, by omega, rfl, Lib.hid (Own.nil _ _ _), Lib.hid (Below.refl _ _)⟩
        case round =>
         obtain ⟨q, hq, rfl, HO, HW⟩ := hrel
         have hsz := HW.out.size
         by_cases hqt : q < t
         ·have hql : q < E2.length := by rw [hE2]; exact hqt
          obtain ⟨b6, b, y, hA, h1, h2, h3, hc0, hc1, hblk, -⟩ := HAt.out wr E2 HC.out.hc.cs hE2 (HC.out.ow.below HW.out) (HC.out.hb.below HW.out) q hql
          subst hA
          have hcd : wr.cell? ⟨b, 0, none⟩ = some (.int .u8 (y.n : Nat)) := hblk.cell 0
          have hwb := Own.bytes (HC.out.wo.below HW.out)
          have hwl : (wasOf F E).length = t := by rw [wasOf_length]; exact HEn.out
          obtain ⟨b7, o7, rfl⟩ := where_ hwb (by rw [hwl]; omega)
          have hcw := cellAt hwb q (by rw [hwl]; exact hqt)
          rw [← wasOf_ps HC.out.hc.ps, wasOf_coef hql] at hcw
          obtain ⟨j2, hj1, hj2, -⟩ := HC.out.hc.rng HHl.out _ (List.getElem_mem hql)
          have htk := liarsOf_take (F := F) hql
          rw [h2] at htk
          rw [hj1] at htk hcw hc0
          obtain ⟨z, hz⟩ : ∃ z, F ((j2 : Nat) : Int).toNat = z := ⟨_, rfl⟩
          rw [hz] at htk hcw
          have HLe : Hid ((zs (liarsOf F (E2.take q))).length ≤ 9) := Lib.hid (by
           rw [zs_length]
           have := liarsOf_len F (E2.take q)
           rw [List.length_take] at this
           omega)
          by_cases hyz : y = z
          ·have hb2 : ((y.n : Int) != (z.n : Int)) = false := by simp [hyz]
           rw [if_neg (fun h => h (by rw [hyz])), List.append_nil] at htk
           have HO2 : Hid (Own wr.drew w9.heap.size 3 u32 (zs (liarsOf F (E2.take (q + 1))))) := Lib.hid (by rw [htk]; exact HO.out.drew)
           have HW2 := Lib.hid HW.out.drew
           clear htk hz hyz h1 h2 h3 hblk hwb hwl hj1 hql HO HW hc0
           go_wp2_with fail
           go_region
           obtain ⟨w10, hw10⟩ : ∃ w10, wr.drew = w10 := ⟨_, rfl⟩
           rw [hw10] at HO2 HW2 ⊢
           clear hw10
           go_wp2
           go_roundw
           case rel => exact ⟨q + 1, by omega, by go_num, HO2, HW2⟩
           case measure => first | (simp [intOf]; done) | (simp [intOf]; omega)
          ·have hb2 : ((y.n : Int) != (z.n : Int)) = true := by rw [bne, n_beq_false hyz]; rfl
           rw [if_pos (fun h => hyz (by injection h))] at htk
           have HT : Hid (zs (liarsOf F (E2.take q)) ++ zs [(j2 : Int)] = zs (liarsOf F (E2.take (q + 1)))) := Lib.hid (by rw [htk, zs_append])
           have HOd := Lib.hid HO.out.drew
           have HWd := Lib.hid HW.out.drew
           have hc0d : wr.drew.cell? ⟨b6, q * 2, none⟩ = some (.int .i64 (j2 : Int)) := hc0
           have hszd : w9.heap.size ≤ wr.drew.heap.size := hsz
           clear htk hz hyz h1 h2 h3 hblk hwb hwl hj1 hql HO HW
           go_wp2_with fail
           go_region
           obtain ⟨w10, hw10⟩ : ∃ w10, wr.drew = w10 := ⟨_, rfl⟩
           rw [hw10] at HOd HWd hc0d hszd ⊢
           clear hw10 hc0 hcd hc1 hcw
           go_wp2_with (at_builtin; refine wpList_app _ rfl _ _ _ rfl w9.heap.size 3 _ 8 Tryz.underlying44 info_i rfl (by omega) _ _ rfl (HOd.out.alloc _) (some ⟨w10.heap.size, 0, none⟩) 1 1 (zs [(j2 : Int)]) rfl rfl (Row.new _ _ _ _) (zs_one _) (by have := HLe.out; simp; omega) (by simp; omega) ?_; rintro v2 w11 hown hg3 -)
           rw [HT.out] at hown
           have HO3 := Lib.hid hown
           have HW3 := Lib.hid ((HWd.out.alloc hszd (.cells #[.int .i64 (j2 : Int)] 3)).trans ((HOd.out.alloc (.cells #[.int .i64 (j2 : Int)] 3)).grew (by simp; omega) hg3))
           clear hown hg3
           go_roundw
           case rel => exact ⟨q + 1, by omega, by go_num, HO3, HW3⟩
           case measure => first | (simp [intOf]; done) | (simp [intOf]; omega)
         ·obtain rfl : q = t := by omega
          have hO := HO.out
          rw [List.take_of_length_le (by rw [hE2]; exact Nat.le_refl _), HC.out.hc.liars HHl.out (Nat.le_refl _)] at hO
          obtain ⟨wg, hwg⟩ : ∃ wg, wrongs sn (fun i => [F i]) (shE E2) = wg := ⟨_, rfl⟩
          have hwle := HC.out.hc.wrong_le (n := sn)
          rw [hwg] at hO hwle
          obtain ⟨P, cp, rfl, -, -⟩ := hO.form
          obtain ⟨pn, hpn⟩ : ∃ pn, wg.length = pn := ⟨_, rfl⟩
          rw [zs_length, hpn] at hO ⊢
          rw [hpn] at hwle
          have hhe : (fun i => [F i]) = helpsOf S.xs S.v S.a M N j := by rw [← HF.out]; rfl
          rw [hhe] at hwg
          have hgv := HL9.out.below HW.out
          have hown9 := HC.out.ow.below HW.out
          have hhb9 := HC.out.hb.below HW.out
          have hEls : Els S.g wr A6 E2 := by
           have h1 := hown9
           rw [← HC.out.hc.cs] at h1
           exact h1.els (hhb9.lst hg5)
          have hA : ArgR S.n (j : Int) (shE E2) (s : Int) := by
           refine ⟨⟨by omega, by rw [HSn.out]; omega⟩, fun o ho => ?_, ?_, fun o ho => ?_, by omega⟩
           ·obtain ⟨e, he, rfl⟩ := List.mem_map.1 ho
            obtain ⟨i2, k1, k2, k3⟩ := HC.out.hc.rng HHl.out e he
            show e.p ≠ _
            omega
           ·have h1 := HC.out.hc.nd HHl.out
            have e1 : (shE E2).map Prod.fst = E2.map El.p := by simp [shE]
            rw [e1]; exact h1
           ·obtain ⟨e, he, rfl⟩ := List.mem_map.1 ho
            obtain ⟨i2, k1, k2, k3⟩ := HC.out.hc.rng HHl.out e he
            exact ⟨by show 0 ≤ e.p; omega, by show e.p < _; rw [HSn.out]; omega, HC.out.hc.one e he⟩
          have HRe := Lib.hid (repair_calls PS Z hgv.ok (j : Int) A6 E2 q c6 (s : Int) (by omega) (by omega) hE2 (by omega) hEls)
          have HAr := Lib.hid hA
          have HGv := Lib.hid hgv
          have HOp := Lib.hid hO
          have HWg := Lib.hid hwg
          have HPn := Lib.hid hpn
          have HE2 := Lib.hid hE2
          have HS9 := Lib.hid (HS5.out.past HL5.out.ok.fld.fld (HC.out.past.trans (Past.of_below (HW.out.mono HC.out.past.size) _)))
          have es5 : IntKind.i64.wrap (2 * (s : Int)) = 2 * (s : Int) := IntWalk.i64_in _ (by omega)
          have es6 : IntKind.i64.wrap ((dn : Int) + 2 * (s : Int)) = (dn : Int) + 2 * (s : Int) := IntWalk.i64_in _ (by omega)
          have hqt' : ¬ ((q : Int) < (q : Int)) := by omega
          clear hO hwg hpn hhe hgv hown9 hhb9 hEls hA HO HW hE2 HC HAt HU6 HHb HOw HHl HEn hqt hq HF
          go_wp2_with fail
          refine HRe.out.mono ?_
          clear HRe
          rintro e w11 ⟨ms, wl, z, hR, A11, c11, B11, d11, rfl, hc11, hd11, hO11, hO11b, hf11, hp11⟩
          have HL11 := Lib.hid (HGv.out.go hf11 hp11)
          have HS11 := Lib.hid (HS9.out.past HGv.out.ok.fld.fld hp11)
          have hOp11 := (own1_of (own_keepK (ownK1 HOp.out rfl) (by decide) HGv.out.ok.fld.fld hp11)).1
          have hpar := HL11.out.ok.par
          by_cases hfew : (q : Int) < (dn : Int) + 2 * (s : Int)
          ·obtain ⟨-, -, rfl⟩ := hR.only hpar (ris_few HAr.out (by rw [shE_length, HE2.out, HDn.out]; exact hfew))
           obtain ⟨ml, hml⟩ : ∃ ml, ms.length = ml := ⟨_, rfl⟩
           obtain ⟨wn, hwn⟩ : ∃ wn, wl.length = wn := ⟨_, rfl⟩
           rw [hml, hwn]
           clear hR hO11 hO11b hf11 hp11 hml hwn hc11 hd11 hOp11 hpar
           go_wp2_with (go_at_call 28; (with_reducible refine (works_calls PS Z _).mono ?_); rintro e wz ⟨rfl, HZ⟩)
           go_ret
           exact ⟨rfl, HL11.out.bel.trans (HZ.mono HL11.out.bel.size)⟩
          ·obtain ⟨e1, e2, rfl⟩ := hR.only hpar (ris_good HCw.out HAr.out (by rw [shE_length, HE2.out, HDn.out]; omega) (by rw [Int.toNat_natCast, HSn.out, HWg.out, HPn.out]; omega))
           rw [Int.toNat_natCast] at e1 e2
           rw [HSn.out, HWg.out] at e2
           subst e2
           have hjl : j < l5.length := by rw [HLn.out]; exact hjn
           obtain ⟨b9, o9, hA9, hq9⟩ := cells1_at HS11.out.row hjl
           have hl9 := HS11.out.lst _ (List.getElem_mem hjl)
           have hes : (l5[j]).s = node S.xs S.v S.a M N j := by
            have h6 : (l5.map El.s)[j]? = some (node S.xs S.v S.a M N j) := by rw [HLs.out, List.getElem?_map, List.getElem?_range hjn]; rfl
            rw [List.getElem?_map, List.getElem?_eq_getElem hjl] at h6
            injection h6 with h6
           have hlen : (node S.xs S.v S.a M N j).length = sa := by unfold node; rw [shr_length]; exact HSa.out
           rw [hes, hlen] at hq9
           rw [hes] at hl9
           obtain ⟨eA, heA⟩ : ∃ x, (l5[j]).A = x := ⟨_, rfl⟩
           obtain ⟨ec, hec⟩ : ∃ x, (l5[j]).c = x := ⟨_, rfl⟩
           rw [heA, hec] at hq9 hl9
           subst hA9
           subst e1
           rw [hlen] at hc11 hO11 ⊢
           rw [HPn.out] at hd11 hO11b ⊢
           have hSm := same_calls A11 eA _ _ sa sa c11 ec w11 hlen hlen (Own.bytes hO11) hl9.1.by_
           rw [decide_eq_true rfl] at hSm
           have HSm := Lib.hid hSm
           have HSz := Lib.hid (Wl.samez_calls B11 P wl wl pn pn d11 cp w11 HPn.out HPn.out (by omega) (own_row hO11b) (own_row hOp11) true (decide_eq_true rfl))
           clear hR hO11 hO11b hf11 hp11 hc11 hd11 hOp11 hpar hSm hl9 hes hlen heA hec hjl
           go_wp2_with (first
            | (go_at_call 21; (with_reducible refine HSm.out.mono ?_); rintro e wq ⟨rfl, rfl⟩)
            | (go_at_call 24; (with_reducible refine HSz.out.mono ?_); rintro e w12 ⟨rfl, hb12⟩; have HL12 := Lib.hid (HL11.out.below hb12); clear hb12)
            | (go_at_call 28; (with_reducible refine (works_calls PS Z _).mono ?_); rintro e wz ⟨rfl, HZ⟩))
           go_ret
           exact ⟨rfl, HL12.out.bel.trans (HZ.mono HL12.out.bel.size)⟩
theorem walk (PS : Poly.Spec) (Z : Wl.Spec) (w : World) (n0 : Int) (hl0 : -9223372036854775808 ≤ n0) (hn0 : n0 < 9223372036854775808) (n1 : Int) (hl1 : -9223372036854775808 ≤ n1) (hn1 : n1 < 9223372036854775808) (n2 : Int) (hl2 : -9223372036854775808 ≤ n2) (hn2 : n2 < 9223372036854775808) (A3 : Option Addr) (l3 : List Nat) (c3 : Nat) (hb3 : Bytes w A3 l3) (_ : l3.length ≤ c3) (_ : c3 ≤ 9223372036854775807) (n4 : Nat) (hn4 : n4 < 256) (n5 : Nat) (_ : n5 < 18446744073709551616) (A6 : Option Addr) (l6 : List Nat) (c6 : Nat) (hb6 : Bytes w A6 l6) (_ : l6.length ≤ c6) (_ : c6 ≤ 9223372036854775807) (A7 : Option Addr) (l7 : List Nat) (c7 : Nat) (hb7 : Bytes w A7 l7) (_ : l7.length ≤ c7) (_ : c7 ≤ 9223372036854775807) (n8 : Nat) (hn8 : n8 < 256) :
  Calls Tryz.prog 7 #[.int .i64 n0, .int .i64 n1, .int .i64 n2, .slice A3 l3.length c3, .int .u8 (n4 : Nat), .int .u64 (n5 : Nat), .slice A6 l6.length c6, .slice A7 l7.length c7, .int .u8 (n8 : Nat)] w fun e w' => e = .returned (.bool true) ∧ Below w.heap.size w w' := by
 obtain ⟨q, rfl⟩ := F8.of_bytes l3 hb3.lt
 obtain ⟨r, rfl⟩ := F8.of_bytes l6 hb6.lt
 obtain ⟨r2, rfl⟩ := F8.of_bytes l7 hb7.lt
 exact core PS Z w n0 n1 n2 hl0 hn0 hl1 hn1 hl2 hn2 A3 q _ c3 (bs_length q).symm hb3 n4 hn4 n5 A6 r _ c6 (bs_length r).symm hb6 A7 r2 _ c7 (bs_length r2).symm hb7 n8 hn8
end Go.Proofs.YtjoghbmedfmioaaGreat.msrMends

namespace Go.Proofs.YtjoghbmedfmioaaGreat.msrMends
open Go.ChangeShapes Go.WideShapes Go.ChangeAt Go.RowKit
open Go.ChangeMaps (open_string shut_string)
set_option linter.unusedVariables false
theorem own : ownKnob Tryz.prog.godebug = none := by kernel_rfl
theorem laidOut : laidOutB Tryz.prog = true := by kernel_rfl

set_option maxRecDepth 100000 in
theorem contract (H : Type) (enc : TypeId × Value → H) (W : World) (base : Nat) (args : Array Value) (ds gs : List (DataW H)) (before : List MemPlace)
  (hval : ∀ (j : Nat) t v, Tryz.f7.params[j]? = some t → args[j]? = some v → Value.okWide Tryz.prog W .any base t v)
  (hW : DataW.Whole enc Tryz.prog Tryz.f7.params.toList Rows.msrMendsSpec.vars false W args.toList ds gs before)
  (hsz : (DataW.weightsEach Tryz.prog (Tryz.f7.params.toList ++ Rows.msrMendsSpec.plain.varTypes Tryz.prog) (ds ++ gs)).all (· ≤ reachBytes) = true) :
  Calls Tryz.prog 7 args W fun e W' => ∃ v, e = .returned v ∧ Rows.msrMendsSpec.post enc Tryz.prog Tryz.f7 false true false false W args v W' := by
 have hW' := hW
 obtain ⟨p, q, hA0, hV, rfl, hfz, hnd⟩ := hW
 have hA : DataW.TrodAll enc Tryz.prog W 0 (fun _ => true) true Tryz.f7.params.toList args.toList ds p := hA0
 rw [Tryz.params7] at hA hval hsz
 obtain ⟨v0, vs0, d0, ds0, p0, q0, hargs, rfl, rfl, h0, r0⟩ := trodAll_cons hA
 obtain ⟨v1, vs1, d1, ds1, p1, q1, rfl, rfl, rfl, h1, r1⟩ := trodAll_cons r0
 obtain ⟨v2, vs2, d2, ds2, p2, q2, rfl, rfl, rfl, h2, r2⟩ := trodAll_cons r1
 obtain ⟨v3, vs3, d3, ds3, p3, q3, rfl, rfl, rfl, h3, r3⟩ := trodAll_cons r2
 obtain ⟨v4, vs4, d4, ds4, p4, q4, rfl, rfl, rfl, h4, r4⟩ := trodAll_cons r3
 obtain ⟨v5, vs5, d5, ds5, p5, q5, rfl, rfl, rfl, h5, r5⟩ := trodAll_cons r4
 obtain ⟨v6, vs6, d6, ds6, p6, q6, rfl, rfl, rfl, h6, r6⟩ := trodAll_cons r5
 obtain ⟨v7, vs7, d7, ds7, p7, q7, rfl, rfl, rfl, h7, r7⟩ := trodAll_cons r6
 obtain ⟨v8, vs8, d8, ds8, p8, q8, rfl, rfl, rfl, h8, r8⟩ := trodAll_cons r7
 obtain ⟨rfl, rfl, rfl⟩ := trodAll_nil r8
 obtain rfl : args = #[v0, v1, v2, v3, v4, v5, v6, v7, v8] := by cases args; simp_all
 obtain ⟨rfl, rfl⟩ := trodVars_none hV
 obtain ⟨n0, rfl, rfl, rfl, w0⟩ := open_int Tryz.underlying3 (hval 0 3 v0 rfl rfl) h0
 have b0 := wf_bounds_i64 w0
 obtain ⟨n1, rfl, rfl, rfl, w1⟩ := open_int Tryz.underlying3 (hval 1 3 v1 rfl rfl) h1
 have b1 := wf_bounds_i64 w1
 obtain ⟨n2, rfl, rfl, rfl, w2⟩ := open_int Tryz.underlying3 (hval 2 3 v2 rfl rfl) h2
 have b2 := wf_bounds_i64 w2
 obtain ⟨A3, len3, c3, rfl⟩ := okWide_slice Tryz.underlying34 (hval 3 34 v3 rfl rfl)
 have k3 := h3
 have lt3 : ∀ x ∈ p3, x.block < W.heap.size := by obtain ⟨m, hm⟩ := k3; exact DataW.trod_lt m _ _ _ hm
 obtain ⟨l3, rfl, hb3, hc3, hm3⟩ : ∃ l : List Nat, len3 = l.length ∧ Bytes W A3 l ∧ l.length ≤ c3 ∧ c3 ≤ 9223372036854775807 := by
  obtain ⟨fuel, hf⟩ := h3
  rcases open_ints Tryz.underlying34 Tryz.underlying5 (by kernel_rfl) hf with ⟨hcs, _⟩ | ⟨x, l, c, zs, hcs, _, hl, hm, hz, _, hcell, hwz⟩
  ·simp [Value.cells] at hcs
   obtain ⟨rfl, rfl, rfl⟩ := hcs
   exact ⟨[], rfl, Bytes.nil _ _, by simp, by simp⟩
  ·simp [Value.cells] at hcs
   obtain ⟨rfl, rfl, rfl⟩ := hcs
   obtain ⟨h1, h2⟩ := bytes_of hl (by simpa using hz) hcell hwz
   exact ⟨_, h2.symm, h1, by rw [h2]; exact hl, by have h := hm; simp only [maxLen] at h; omega⟩
 obtain ⟨a4, rfl, rfl, rfl, w4⟩ := open_int Tryz.underlying5 (hval 4 5 v4 rfl rfl) h4
 have b4 := wf_bounds_u8 w4
 obtain ⟨n4, rfl⟩ := Int.eq_ofNat_of_zero_le b4.1
 have hn4 : n4 < 256 := by omega
 obtain ⟨a5, rfl, rfl, rfl, w5⟩ := open_int Tryz.underlying42 (hval 5 42 v5 rfl rfl) h5
 have b5 := wf_bounds_u64 w5
 obtain ⟨n5, rfl⟩ := Int.eq_ofNat_of_zero_le b5.1
 have hn5 : n5 < 18446744073709551616 := by omega
 obtain ⟨A6, len6, c6, rfl⟩ := okWide_slice Tryz.underlying34 (hval 6 34 v6 rfl rfl)
 have k6 := h6
 have lt6 : ∀ x ∈ p6, x.block < W.heap.size := by obtain ⟨m, hm⟩ := k6; exact DataW.trod_lt m _ _ _ hm
 obtain ⟨l6, rfl, hb6, hc6, hm6⟩ : ∃ l : List Nat, len6 = l.length ∧ Bytes W A6 l ∧ l.length ≤ c6 ∧ c6 ≤ 9223372036854775807 := by
  obtain ⟨fuel, hf⟩ := h6
  rcases open_ints Tryz.underlying34 Tryz.underlying5 (by kernel_rfl) hf with ⟨hcs, _⟩ | ⟨x, l, c, zs, hcs, _, hl, hm, hz, _, hcell, hwz⟩
  ·simp [Value.cells] at hcs
   obtain ⟨rfl, rfl, rfl⟩ := hcs
   exact ⟨[], rfl, Bytes.nil _ _, by simp, by simp⟩
  ·simp [Value.cells] at hcs
   obtain ⟨rfl, rfl, rfl⟩ := hcs
   obtain ⟨h1, h2⟩ := bytes_of hl (by simpa using hz) hcell hwz
   exact ⟨_, h2.symm, h1, by rw [h2]; exact hl, by have h := hm; simp only [maxLen] at h; omega⟩
 obtain ⟨A7, len7, c7, rfl⟩ := okWide_slice Tryz.underlying34 (hval 7 34 v7 rfl rfl)
 have k7 := h7
 have lt7 : ∀ x ∈ p7, x.block < W.heap.size := by obtain ⟨m, hm⟩ := k7; exact DataW.trod_lt m _ _ _ hm
 obtain ⟨l7, rfl, hb7, hc7, hm7⟩ : ∃ l : List Nat, len7 = l.length ∧ Bytes W A7 l ∧ l.length ≤ c7 ∧ c7 ≤ 9223372036854775807 := by
  obtain ⟨fuel, hf⟩ := h7
  rcases open_ints Tryz.underlying34 Tryz.underlying5 (by kernel_rfl) hf with ⟨hcs, _⟩ | ⟨x, l, c, zs, hcs, _, hl, hm, hz, _, hcell, hwz⟩
  ·simp [Value.cells] at hcs
   obtain ⟨rfl, rfl, rfl⟩ := hcs
   exact ⟨[], rfl, Bytes.nil _ _, by simp, by simp⟩
  ·simp [Value.cells] at hcs
   obtain ⟨rfl, rfl, rfl⟩ := hcs
   obtain ⟨h1, h2⟩ := bytes_of hl (by simpa using hz) hcell hwz
   exact ⟨_, h2.symm, h1, by rw [h2]; exact hl, by have h := hm; simp only [maxLen] at h; omega⟩
 obtain ⟨a8, rfl, rfl, rfl, w8⟩ := open_int Tryz.underlying5 (hval 8 5 v8 rfl rfl) h8
 have b8 := wf_bounds_u8 w8
 obtain ⟨n8, rfl⟩ := Int.eq_ofNat_of_zero_le b8.1
 have hn8 : n8 < 256 := by omega
 clear hA0
 refine (walk Poly.spec (Wl.spec Poly.spec) W n0 b0.1 b0.2 n1 b1.1 b1.2 n2 b2.1 b2.2 A3 l3 c3 hb3 hc3 hm3 n4 hn4 n5 hn5 A6 l6 c6 hb6 hc6 hm6 A7 l7 c7 hb7 hc7 hm7 n8 hn8 ).mono fun e W' ⟨he, bel⟩ => ?_
 subst he
 exact ⟨_, rfl, _, _, _, [], _, [], hW', trodAll_mk1 (shut_bool Tryz.underlying4 _), (trodAll_cons_mk (shut_int Tryz.underlying3 w0) (trodAll_cons_mk (shut_int Tryz.underlying3 w1) (trodAll_cons_mk (shut_int Tryz.underlying3 w2) (trodAll_cons_mk (Below.trod laidOut (by kernel_rfl) (of_decide_eq_true (by kernel_rfl)) k3 bel lt3) (trodAll_cons_mk (shut_int Tryz.underlying5 w4) (trodAll_cons_mk (shut_int Tryz.underlying42 w5) (trodAll_cons_mk (Below.trod laidOut (by kernel_rfl) (of_decide_eq_true (by kernel_rfl)) k6 bel lt6) (trodAll_cons_mk (Below.trod laidOut (by kernel_rfl) (of_decide_eq_true (by kernel_rfl)) k7 bel lt7) (trodAll_cons_mk (shut_int Tryz.underlying5 w8) trodAll_mk0))))))))), rfl, bel.frame _, fun h => by cases h⟩

set_option maxRecDepth 100000 in
theorem lifted (os : Os) (started : os.Started) (H : Type) (enc : TypeId × Value → H) :
  ReturnsInHanded {} Tryz.checked os 7 .any (Rows.msrMendsSpec.pre6 enc Tryz.prog Tryz.f7 Rows.msrMendsRow.domain false) (Rows.msrMendsSpec.post enc Tryz.prog Tryz.f7 false true false false) := by
 refine returnsInHanded_of_change_sized (C := Tryz.checked) own started (by kernel_rfl) Tryz.func7
  (ChangeSpec.witness6 (enc := enc) (C := Tryz.checked) false ⟨#[], #[.int .i64 0, .int .i64 0, .int .i64 0, .slice none 0 0, .int .u8 0, .int .u64 0, .slice none 0 0, .slice none 0 0, .int .u8 0], []⟩ 8 (by kernel_rfl) (by kernel_rfl) (by kernel_rfl) (by kernel_rfl)) ?_
 intro W base args ds gs before hval hW _ hsz _
 exact contract H enc W base args ds gs before hval hW hsz


theorem proved : Rows.MsrMendsSaid :=
 OpenClaim.holds_of_wide 7 Tryz.f7 rfl rfl rfl rfl rfl rfl rfl ⟨rfl, rfl, rfl, rfl, rfl⟩ rfl rfl rfl rfl rfl (by kernel_rfl) Tryz.func7 (by kernel_rfl)
  (of_decide_eq_true (by kernel_rfl)) (by unfold Func.isWrapper; first | (rw [if_pos (by decide +kernel)]; kernel_rfl) | (rw [if_neg (by decide +kernel)]; exact ⟨rfl, rfl⟩))
  (fun os started H enc _ => lifted os started H enc)
end Go.Proofs.YtjoghbmedfmioaaGreat.msrMends
