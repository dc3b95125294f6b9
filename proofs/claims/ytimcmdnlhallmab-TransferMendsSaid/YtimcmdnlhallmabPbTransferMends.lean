/- TransferMends, for every input: the frame round the walk; the argument lists are opened, the walk's contract is met, what was read reads as it did. -/
import Derived.Test.YtimcmdnlhallmabPb10
import Derived.Test.YtimcmdnlhallmabRows
import Derived.Test.YtimcmdnlhallmabPb11
import Derived.WalkKit
import Derived.ProofKit
import Derived.OpenShut
import Derived.ShutString
import Derived.ChangeOld
import Derived.Below
import Derived.Deep.DeepHandedRow
import Derived.SizedLaws
namespace Go.Proofs.Ytimcmdnlhallmab.transferMends
open Go.RowKit Go.Shelf F8 GF Poly Rd Ms Tr
attribute [local go_sem] Oper.semAt_some
structure MS (S : Tc) (w5 : World) (A5 : Option Addr) (l5 : List El) (wd : List F8) (j a : Nat) (hv : Value) (V : World) (E : List El) : Prop where
 own : OwnK 2 V w5.heap.size 52 hv E.length (cells2 E)
 lb : LB S.g V E
 hb : HBs S.n j a (shr S.n wd j) E
 bel : Below w5.heap.size w5 V
theorem _root_.Go.Proofs.Ytimcmdnlhallmab.Ms.OwnK.num {w : World} {B n : Nat} {e : TypeId} {v : Value} {L : List El} (h : OwnK 2 w B e v n (cells2 L)) : OwnK 2 w B e v L.length (cells2 L) := by
 have h1 := h.1
 rw [cells2_length] at h1
 have : n = L.length := by omega
 subst this
 exact h
theorem share_in {g n : Nat} {V : World} {A : Option Addr} {l : List El} {wd : List F8} (h : Shs g V A l) (hl : l.map El.s = (List.range n).map (shr n wd)) {i : Nat} (hi : i < n) : ∃ b o B c, A = some ⟨b, o, none⟩ ∧ V.cell? ⟨b, o + i, none⟩ = some (.slice B (n - 1) c) ∧ BF g V B (shr n wd i) := by
 obtain ⟨b, o, B, c, e, hc, hb⟩ := share_at h hl (i := i) (by simpa using hi)
 have e1 : ((List.range n).map (shr n wd))[i]'(by simpa using hi) = shr n wd i := by simp
 rw [e1] at hc hb
 rw [shr_length wd hi] at hc
 exact ⟨b, o, B, c, e, hc, hb⟩
theorem info_sy : (Try.prog.info? 52).map (fun i => (i.zero, i.size, i.bytes)) = some (some (.agg #[.int .i64 0, .slice none 0 0]), 2, 32) := by kernel_rfl
set_option maxRecDepth 100000 in
set_option maxHeartbeats 8000000 in
theorem core (PS : Poly.Spec) (w : World) (n k : Int) (hl0 : -9223372036854775808 ≤ n) (hn0 : n < 9223372036854775808) (hl1 : -9223372036854775808 ≤ k) (hn1 : k < 9223372036854775808) (B : Option Addr) (q : List F8) (o c : Nat) (ho : q.length = o) (hbq : Bytes w B (bs q)) (to less : Nat) (ht : to < 256) (hle : less < 256) :
  Calls Try.prog 6 #[.int .i64 n, .int .i64 k, .slice B o c, .int .u8 to, .int .u8 less] w fun e w' => e = .returned (.bool true) ∧ Below w.heap.size w w' := by
 have HB := Lib.hid hbq
 have HO := Lib.hid ho
 have hfew := few_calls n k w
 by_cases hf : Few n k
 rotate_left
 ·rw [decide_eq_false hf] at hfew
  have HFew := Lib.hid hfew
  clear hbq ho hfew hf HB HO
  go_enter Try.func6, Try.ntmps6
  go_wp2_with (first
   | (go_at_call 14; refine HFew.out.mono ?_; rintro e w0 ⟨rfl, rfl⟩)
   | (go_at_call 10; (with_reducible refine (works_calls PS _).mono ?_); rintro e wz ⟨rfl, HZ⟩))
  go_ret
  exact ⟨rfl, HZ⟩
 rw [decide_eq_true hf] at hfew
 have HFew := Lib.hid hfew
 have HF := Lib.hid hf
 clear hbq ho hfew hf
 go_enter Try.func6, Try.ntmps6
 go_wp2_with (go_at_call 14; refine HFew.out.mono ?_; rintro e w0 ⟨rfl, rfl⟩)
 refine (GF.new_calls w).mono ?_
 rintro e w1 ⟨rfl, hw1⟩
 have HMd := Lib.hid (made n k w w1 hw1 hl0 hn0 hl1 hn1)
 clear hw1
 go_wp2_with fail
 refine HMd.out.mono ?_
 clear HMd
 rintro e w2 (⟨hgood, S, hL, -, rfl⟩ | ⟨-, rfl, HBz⟩)
 rotate_left
 ·go_wp2_with (go_at_call 10; (with_reducible refine (works_calls PS _).mono ?_); rintro e wz ⟨rfl, HZ⟩)
  go_ret
  exact ⟨rfl, HBz.trans (HZ.mono HBz.size)⟩
 have hn9 : S.n ≤ 9 := by have := HF.out.1; have := hL.en; omega
 have HL := Lib.hid hL.lw
 have HK := Lib.hid hL.lw.ok.kn
 obtain ⟨sn, hsn⟩ : ∃ sn, S.n = sn := ⟨_, rfl⟩
 obtain rfl : n = (sn : Int) := by rw [← hsn]; exact hL.en.symm
 obtain ⟨mb, hmb⟩ : ∃ mb, S.B = mb := ⟨_, rfl⟩
 have hmb9 : mb ≤ 255 := by
  have h1 := rs_mono S.n (Nat.le_of_lt hL.lw.ok.kn)
  have h2 := (edges_n S.n hL.lw.ok.n24).2
  rw [← hmb]; unfold Tc.B; omega
 have hBc := b_calls hL.lw.ok
 rw [hmb] at hBc
 have HBc := Lib.hid hBc
 have HMb := Lib.hid hmb
 have HSn := Lib.hid hsn
 have hs1 : 2 ≤ sn := by have := hL.lw.ok.k1; have := hL.lw.ok.kn; omega
 have hs9 : sn ≤ 9 := by omega
 clear hL hBc hmb hsn hgood hn9 HF HFew hl0 hn0 hl1 hn1
 go_wp2_with fail
 refine HBc.out.mono ?_
 rintro e w3 ⟨rfl, hb3⟩
 have HL3 := Lib.hid (HL.out.below hb3)
 have HQ3 := Lib.hid (HB.out.below HL3.out.bel)
 clear hb3 HBc HL
 have HFu := Lib.hid (kfull_calls B q o c mb w3 HO.out HQ3.out (by omega))
 go_wp2_with fail
 refine HFu.out.mono ?_
 rintro e w4 ⟨A4, c4, rfl, hc4, hO4, hb4⟩
 obtain ⟨m, hm⟩ : ∃ m, full q mb = m := ⟨_, rfl⟩
 have hml : m.length = mb := by rw [← hm, full_length]
 rw [hm] at hO4
 have HL4 := Lib.hid (HL3.out.below hb4)
 have HM4 := Lib.hid (BF.own HL4.out.ok.fld hO4)
 have HMl := Lib.hid hml
 clear hO4 hb4 hm hml HFu HL3 HQ3
 have HEn := Lib.hid (encode_good PS HL4.out.ok A4 m mb c4 HMl.out HMb.out.symm HM4.out hc4)
 go_wp2_with fail
 refine HEn.out.mono ?_
 clear HEn
 rintro e w5 ⟨A5, c5, l5, rfl, hc5, hO5, hL5, hls, hf5, hp5⟩
 have HL5 := Lib.hid (HL4.out.go hf5 hp5)
 have HS5 : Hid (Shs S.g w5 A5 l5) := Lib.hid ⟨own_row (own1_of hO5).1, hL5.lst hf5⟩
 obtain ⟨wd, hwd⟩ : ∃ wd, word m (pts S.E) = wd := ⟨_, rfl⟩
 rw [hwd] at hls
 have HLs := Lib.hid hls
 rw [HSn.out] at hc5 ⊢
 clear hO5 hL5 hls hf5 hp5 hwd HL4 HM4 hc5
 obtain ⟨j, hj⟩ : ∃ j : Nat, to % sn = j := ⟨_, rfl⟩
 have hjn : j < sn := by rw [← hj]; exact Nat.mod_lt _ (by omega)
 have ex : (to : Int) % (sn : Int) = (j : Int) := by rw [← hj]; simp
 have ex2 : (to : Int).tmod (sn : Int) = (j : Int) := by rw [Int.tmod_eq_emod_of_nonneg (by omega)]; exact ex
 have hn00 : ((sn : Int) == 0) = false := by simp; omega
 have hw1 : IntKind.i64.wrap ((sn : Int) - 1) = (sn : Int) - 1 := IntWalk.i64_in _ (by omega)
 have hto : IntKind.i64.wrap (to : Int) = (to : Int) := IntWalk.i64_in _ (by omega)
 clear hj
 go_wp2_with fail
 go_loopw [16, 17] (fun hv iv wr => ∃ (a : Nat) (E : List El), a ≤ sn ∧ iv = .int .i64 ((a : Int) - 1) ∧ Hid (MS S w5 A5 l5 wd j a hv wr E)) (fun _ iv _ => (intOf iv + 1).toNat)
 case atStart => exact ⟨sn, [], Nat.le_refl _, rfl, Lib.hid ⟨OwnK.nil _ _ _ _, LB.nil _ _, by rw [← HSn.out]; exact HBs.start _ (by rw [HSn.out]; exact hjn), Below.refl _ _⟩⟩
 case round =>
  obtain ⟨a, E, ha, hiv, HM⟩ := hrel
  obtain ⟨w6, hw6⟩ : ∃ w6, wr = w6 := ⟨_, rfl⟩
  rw [hw6] at HM ⊢
  clear hw6
  rcases a with _ | b
  rotate_left
  ·obtain rfl : u17 = .int .i64 (b : Int) := by rw [hiv, show (((b + 1 : Nat) : Int) - 1) = (b : Int) by omega]
   clear hiv
   have hb0 : (b : Int) ≥ 0 := by omega
   have hw2 : IntKind.i64.wrap ((b : Int) - 1) = (b : Int) - 1 := IntWalk.i64_in _ (by omega)
   by_cases hbj : b = j
   ·have hE : ((b : Int) == (j : Int)) = true := by simp [hbj]
    have HM2 : Hid (MS S w5 A5 l5 wd j b u16 w6 E) := Lib.hid ⟨HM.out.own, HM.out.lb, by have h := HM.out.hb; rw [hbj] at h ⊢; exact h.skip, HM.out.bel⟩
    clear HM hbj
    go_wp2
    go_roundw
    case rel => exact ⟨b, E, by omega, rfl, HM2⟩
    case measure => first | (simp [intOf]; done) | (simp [intOf]; omega)
   ·have hE : ((b : Int) == (j : Int)) = false := by simp; omega
    have hSn := HSn.out
    have hsw := HM.out.bel
    obtain ⟨b1, o1, B1, d1, hA5, q1, hB1⟩ := share_in (HS5.out.below hsw) HLs.out (i := b) (by omega)
    obtain ⟨b2, o2, B2, d2, hA5', q2, hB2⟩ := share_in (HS5.out.below hsw) HLs.out (i := j) (by omega)
    subst hA5
    cases hA5'
    have hL6 := HL5.out.below hsw
    have hH1 := help_good hL6.ok b j (by omega) (by omega) (fun e => hbj e.symm) B1 _ (sn - 1) d1 (by rw [shr_length wd (by omega), hSn]) (by rw [hSn]) hB1.by_
    have hH2 := help_good hL6.ok j b (by omega) (by omega) hbj B2 _ (sn - 1) d2 (by rw [shr_length wd (by omega), hSn]) (by rw [hSn]) hB2.by_
    rw [shr_both wd (by omega) (by omega) (fun e => hbj e.symm)] at hH1
    obtain ⟨y, hy⟩ : ∃ y, coef (shr S.n wd j) (idx j b) = y := ⟨_, rfl⟩
    rw [hy] at hH1 hH2
    rw [hSn] at q1 q2
    have HH1 := Lib.hid hH1
    have HH2 := Lib.hid hH2
    have hyy : ((y.n : Int) != (y.n : Int)) = false := by simp
    have HY := Lib.hid hy
    have hEl : E.length ≤ 9 := by have := HM.out.hb.len; omega
    have hs6 := hsw.size
    obtain ⟨v6, hv6⟩ : ∃ v6, (w6.alloc (.cells #[.int .u8 (y.n : Nat)] 5)).alloc (.cells #[.int .i64 (b : Int), .slice (some ⟨w6.heap.size, 0, none⟩) 1 1] 52) = v6 := ⟨_, rfl⟩
    have hb6 : Below w6.heap.size w6 v6 := by rw [← hv6]; exact ((Below.refl _ _).alloc (Nat.le_refl _) _).alloc (by simp) _
    have hz6 : v6.heap.size = w6.heap.size + 1 + 1 := by rw [← hv6, World.size_alloc, World.size_alloc]
    have hrow : Row v6 (some ⟨w6.heap.size + 1, 0, none⟩) (cells2 [⟨(b : Int), some ⟨w6.heap.size, 0, none⟩, [y], 1⟩]) := by
     have h1 := Row.new (w6.alloc (.cells #[.int .u8 (y.n : Nat)] 5)) #[.int .i64 (b : Int), .slice (some ⟨w6.heap.size, 0, none⟩) 1 1] 52 (0, 0)
     rw [World.size_alloc] at h1
     rw [← hv6]
     exact h1
    have hlb : LB S.g v6 (E ++ [⟨(b : Int), some ⟨w6.heap.size, 0, none⟩, [y], 1⟩]) := (HM.out.lb.below hb6).append (fun e he => by
     obtain rfl := List.mem_singleton.1 he
     refine ⟨w6.heap.size, y, rfl, rfl, rfl, ?_, ?_⟩
     ·rw [← hv6]; exact (Block.new w6 5 #[.int .u8 (y.n : Nat)]).alloc _
     ·have := hL6.ok.fld.fld.lt; omega)
    have HRow := Lib.hid hrow
    have HLb := Lib.hid hlb
    have HOw := Lib.hid (HM.out.own.below hb6)
    have HHb : Hid (HBs S.n j b (shr S.n wd j) (E ++ [(⟨(b : Int), some ⟨w6.heap.size, 0, none⟩, [y], 1⟩ : El)])) := Lib.hid (HM.out.hb.snoc (by omega) hbj rfl (by rw [hy]))
    have HBv := Lib.hid (hsw.trans (hb6.mono hs6))
    obtain ⟨en, hen⟩ : ∃ en, E.length = en := ⟨_, rfl⟩
    rw [hen] at HOw hEl
    have HEn := Lib.hid hen
    have hz9 : w5.heap.size ≤ v6.heap.size := by omega
    clear hH1 hH2 hy hB1 hB2 hrow hlb hb6 hen HM hsw hSn hz6 hL6
    go_wp2_with (first
     | (go_at_call 17; (with_reducible refine HH1.out.mono ?_); rintro e w7 ⟨rfl, rfl⟩)
     | (go_at_call 17; (with_reducible refine HH2.out.mono ?_); rintro e w7 ⟨rfl, rfl⟩)
     | (at_builtin; refine wpList_appK _ rfl 2 _ _ _ rfl w5.heap.size 52 _ 32 Try.underlying45 info_sy rfl (by omega) (by omega) _ _ _ rfl HOw.out ⟨w6.heap.size + 1, 0, none⟩ 1 1 (cells2 [⟨(b : Int), some ⟨w6.heap.size, 0, none⟩, [y], 1⟩]) rfl rfl HRow.out (cells2_one _) (by omega) hz9 ?_; rintro v7 w7 hown hg7 -))
    rw [← cells2_append] at hown
    have HM7 : Hid (MS S w5 (some ⟨b1, o1, none⟩) l5 wd j b v7 w7 (E ++ [⟨(b : Int), some ⟨w6.heap.size, 0, none⟩, [y], 1⟩])) := Lib.hid ⟨by rw [List.length_append, HEn.out]; exact hown, HLb.out.grown HOw.out hg7, HHb.out, HBv.out.trans (HOw.out.grew hz9 hg7)⟩
    clear hown hg7
    go_wp2
    go_roundw
    case rel => exact ⟨b, _, by omega, rfl, HM7⟩
    case measure => first | (simp [intOf]; done) | (simp [intOf]; omega)
  ·obtain rfl : u17 = .int .i64 (-1) := hiv
   obtain ⟨en, hen⟩ : ∃ en, E.length = en := ⟨_, rfl⟩
   have hlen := HM.out.hb.len
   rw [if_neg (by omega), hen, HSn.out] at hlen
   have hen1 : en + 1 = sn := by omega
   have hown := HM.out.own
   rw [hen] at hown
   obtain ⟨A6, c6, rfl, hc6, hr6, -⟩ := hown.shape
   obtain ⟨b6, o6, hA6, -⟩ := hr6 0 (.int .i64 (E[0]'(by omega)).p) (cells2_get (List.getElem?_eq_getElem (by omega : 0 < E.length))).1
   subst hA6
   have hL6 := HL5.out.below HM.out.bel
   have hEls := hown.els (HM.out.lb.lst)
   have hvk := HM.out.hb.vok
   have HRe := Lib.hid (repair_good hL6.ok j (by have := HSn.out; omega) (some ⟨b6, o6, none⟩) E en c6 hen (by omega) hEls hvk (by have := HSn.out; omega))
   have hi0 : ¬ ((-1 : Int) ≥ 0) := by omega
   have HEn := Lib.hid hen
   have HOw := Lib.hid hown
   have hsb := HM.out.bel.size
   clear hlen hown hr6 hL6 hEls hvk
   go_wp2_with fail
   refine HRe.out.mono ?_
   rintro e w7 ⟨A7, c7, s7, rfl, hc7, hs7, hr7, hO7, hb7⟩
   have e7 : s7 = shr S.n wd j := HM.out.hb.rep (by have := HSn.out; omega) hs7 hr7
   rw [e7] at hO7
   have HL7 := Lib.hid ((HL5.out.below HM.out.bel).below hb7)
   have HS7 := Lib.hid ((HS5.out.below HM.out.bel).below hb7)
   have HO7 := Lib.hid (HOw.out.below hb7)
   have HLb7 := Lib.hid (HM.out.lb.below hb7)
   have HHb := Lib.hid HM.out.hb
   have HR7 := Lib.hid (BF.own HL7.out.ok.fld hO7)
   have hs67 := hb7.size
   have hSn1 : S.n - 1 = en := by have := HSn.out; omega
   rw [hSn1] at hc7 ⊢
   clear hs7 hr7 e7 hO7 hb7 HRe HM
   obtain ⟨x, hx⟩ : ∃ x : Nat, less % en = x := ⟨_, rfl⟩
   have hxn : x < en := by rw [← hx]; exact Nat.mod_lt _ (by omega)
   have ey : (less : Int) % (en : Int) = (x : Int) := by rw [← hx]; simp
   have ey2 : (less : Int).tmod (en : Int) = (x : Int) := by rw [Int.tmod_eq_emod_of_nonneg (by omega)]; exact ey
   have hen0 : ((en : Int) == 0) = false := by simp; omega
   have hless : IntKind.i64.wrap (less : Int) = (less : Int) := IntWalk.i64_in _ (by omega)
   have hx1 : IntKind.i64.wrap ((x : Int) + 1) = (x : Int) + 1 := IntWalk.i64_in _ (by omega)
   clear hx
   have HRt : Hid (Row w7 (some ⟨b6, o6, none⟩) (cells2 (E.take x))) := Lib.hid (by
    obtain ⟨A', c', e1, -, hr, -⟩ := HO7.out.shape
    cases e1
    have e2 : cells2 (E.take x) = (cells2 E).take (x * 2) := by
     have := cells2_append (E.take x) (E.drop x)
     rw [List.take_append_drop] at this
     rw [this, List.take_left' (by rw [cells2_length, List.length_take]; omega)]
    rw [e2]
    intro k u hu
    rw [List.getElem?_take] at hu
    split at hu
    ·exact hr k u hu
    ·cases hu)
   have HRd : Hid (∀ W, OwnK 2 W w5.heap.size 52 (.slice (some ⟨b6, o6, none⟩) en c6) en (cells2 E) → Row W (some ⟨b6, o6 + (x + 1) * 2, none⟩) (cells2 (E.drop (x + 1)))) := Lib.hid (fun W hW => by
    obtain ⟨A', c', e1, -, hr, -⟩ := hW.shape
    cases e1
    have e2 : cells2 (E.drop (x + 1)) = (cells2 E).drop ((x + 1) * 2) := by
     have := cells2_append (E.take (x + 1)) (E.drop (x + 1))
     rw [List.take_append_drop] at this
     rw [this, List.drop_left' (by rw [cells2_length, List.length_take]; have := HEn.out; omega)]
    rw [e2]
    intro k u hu
    rw [List.getElem?_drop] at hu
    obtain ⟨b', o', e3, hc⟩ := hr _ u hu
    cases e3
    exact ⟨b6, o6 + (x + 1) * 2, rfl, by rw [Nat.add_assoc]; exact hc⟩)
   have HNil : Hid (en ≤ x + 1 → ∀ W A, Row W A (cells2 (E.drop (x + 1)))) := Lib.hid (fun h W A => by
    rw [List.drop_of_length_le (by have := HEn.out; omega)]
    exact Row.nil _ _)
   have hc3 : (x + 1 < c6) ∨ (c6 = x + 1 ∧ en = x + 1) := by omega
   have HOk7 := Lib.hid (fun W (h : Below w7.heap.size w7 W) => HL7.out.below h)
   rcases hc3 with h3 | ⟨hcc, hc⟩
   ·have h2 : (x : Int) + 1 < (c6 : Int) := by omega
    have h4 : ((x : Int) + 1).toNat = x + 1 := by omega
    have h5 : (x : Int) + 1 ≤ (en : Int) := by omega
    have h6 : (0 : Int) ≤ (x : Int) + 1 := by omega
    have h7 : (x : Int) ≤ (c6 : Int) := by omega
    have h8 : (en : Int) ≤ (c6 : Int) := by omega
    have h9 : (x : Int) + 1 ≤ (c6 : Int) := by omega
    go_wp2_with (first
     | (at_builtin; refine wpList_appK _ rfl 2 _ _ _ rfl w7.heap.size 52 _ 32 Try.underlying45 info_sy rfl (by omega) (by omega) _ 0 [] rfl (OwnK.nil _ _ _ _) ⟨b6, o6, none⟩ x _ (cells2 (E.take x)) rfl (by rw [cells2_length, List.length_take]; have := HEn.out; omega) HRt.out (cells2_one _) (by omega) (Nat.le_refl _) ?_; rintro v8 w8 hown hg8 -; replace hg8 : w7.grownBy w8 none := hg8; have HO8 := Lib.hid hown; have HH8 := Lib.hid (HO7.out.grown hg8 (.inr (by simp [Value.ownBlock]))); have HB8 := Lib.hid ((Below.refl _ w7).grown hg8 (Nat.le_refl _) (fun k hk => by cases hk)); clear hown hg8)
     | (at_builtin; refine wpList_appK _ rfl 2 _ _ _ rfl w7.heap.size 52 _ 32 Try.underlying45 info_sy rfl (by omega) (by omega) v8 _ _ rfl HO8.out _ _ _ (cells2 (E.drop (x + 1))) rfl (by rw [cells2_length, List.length_drop]; have := HEn.out; omega) (HRd.out _ HH8.out) (cells2_one _) (by omega) HB8.out.size ?_; rintro v9 w9 hown9 hg9 -))
    have hLb9 := (HLb7.out.below HB8.out).grown HO8.out hg9
    have hB9 := HB8.out.trans (HO8.out.grew HB8.out.size hg9)
    rw [List.nil_append, ← cells2_append] at hown9
    have hO9 := hown9.num
    have hL9 : (E.take x ++ E.drop (x + 1)).length = en - 1 := by rw [List.length_append, List.length_take, List.length_drop]; have := HEn.out; omega
    have hsub : (E.take x ++ E.drop (x + 1)).Sublist E := by
     have e1 := List.take_append_drop x E
     conv => rhs; rw [← e1]
     refine (List.Sublist.refl _).append ?_
     rw [← List.drop_drop]
     exact List.drop_sublist 1 _
    obtain ⟨L9, hLL⟩ : ∃ L9, E.take x ++ E.drop (x + 1) = L9 := ⟨_, rfl⟩
    rw [hLL] at hO9 hL9 hsub
    rw [hL9] at hO9
    obtain ⟨A9, c9, rfl, hc9, -⟩ := hO9.shape
    have hLb9' : LB S.g w9 L9 := hLb9.sub (fun e he => hsub.subset he)
    have HL9 := Lib.hid (HL7.out.below hB9)
    have HS9 := Lib.hid (HS7.out.below hB9)
    have HR9 := Lib.hid (HR7.out.below hB9)
    have HRf := Lib.hid (repair_few HL9.out.ok j (by have := HSn.out; omega) A9 L9 (en - 1) c9 hL9 (by omega) (hO9.els hLb9'.lst) (HHb.out.vokS hsub) (by have := HSn.out; omega))
    clear hLb9 hB9 hown9 hg9 hO9 hL9 hsub hLL hLb9' hc9 HL7 HS7 HR7 HO7 HLb7 HHb HRd HNil HRt HO8 HH8 HB8 HOk7
    go_wp2_with fail
    refine HRf.out.mono ?_
    rintro e w10 ⟨rfl, hb10⟩
    have HL10 := Lib.hid (HL9.out.below hb10)
    have HS10 := Lib.hid (HS9.out.below hb10)
    have HR10 := Lib.hid (HR9.out.below hb10)
    obtain ⟨bj, oj, Bj, dj, hAj, qj, hBj⟩ := share_in HS10.out HLs.out (i := j) (by have := HSn.out; omega)
    subst hAj
    rw [hSn1] at qj
    have hln : (shr S.n wd j).length = en := by rw [shr_length wd (by have := HSn.out; omega), hSn1]
    have hSa := same_calls A7 Bj _ _ en en c7 dj w10 hln hln HR10.out.by_ hBj.by_
    rw [decide_eq_true rfl] at hSa
    have HSa := Lib.hid hSa
    clear hSa hBj hln hb10 HRf HL9 HS9 HR9
    go_wp2_with (first
     | (go_at_call 20; (with_reducible refine HSa.out.mono ?_); rintro e wq ⟨rfl, rfl⟩)
     | (go_at_call 10; (with_reducible refine (works_calls PS _).mono ?_); rintro e wz ⟨rfl, HZ⟩))
    go_ret
    exact ⟨rfl, HL10.out.bel.trans (HZ.mono HL10.out.bel.size)⟩
   ·have hnl : en ≤ x + 1 := by omega
    have h2 : ¬ ((x : Int) + 1 < (c6 : Int)) := by omega
    have h3 : ¬ (x + 1 < c6) := by omega
    have h4 : ((x : Int) + 1).toNat = x + 1 := by omega
    have h5 : (x : Int) + 1 ≤ (en : Int) := by omega
    have h6 : (0 : Int) ≤ (x : Int) + 1 := by omega
    have h7 : (x : Int) ≤ (c6 : Int) := by omega
    have h8 : (en : Int) ≤ (c6 : Int) := by omega
    have h9 : (x : Int) + 1 ≤ (c6 : Int) := by omega
    clear hcc hc
    go_wp2_with (first
     | (at_builtin; refine wpList_appK _ rfl 2 _ _ _ rfl w7.heap.size 52 _ 32 Try.underlying45 info_sy rfl (by omega) (by omega) _ 0 [] rfl (OwnK.nil _ _ _ _) ⟨b6, o6, none⟩ x _ (cells2 (E.take x)) rfl (by rw [cells2_length, List.length_take]; have := HEn.out; omega) HRt.out (cells2_one _) (by omega) (Nat.le_refl _) ?_; rintro v8 w8 hown hg8 -; replace hg8 : w7.grownBy w8 none := hg8; have HO8 := Lib.hid hown; have HH8 := Lib.hid (HO7.out.grown hg8 (.inr (by simp [Value.ownBlock]))); have HB8 := Lib.hid ((Below.refl _ w7).grown hg8 (Nat.le_refl _) (fun k hk => by cases hk)); clear hown hg8)
     | (at_builtin; refine wpList_appK _ rfl 2 _ _ _ rfl w7.heap.size 52 _ 32 Try.underlying45 info_sy rfl (by omega) (by omega) v8 _ _ rfl HO8.out _ _ _ (cells2 (E.drop (x + 1))) rfl (by rw [cells2_length, List.length_drop]; have := HEn.out; omega) (HNil.out hnl _ _) (cells2_one _) (by omega) HB8.out.size ?_; rintro v9 w9 hown9 hg9 -))
    have hLb9 := (HLb7.out.below HB8.out).grown HO8.out hg9
    have hB9 := HB8.out.trans (HO8.out.grew HB8.out.size hg9)
    rw [List.nil_append, ← cells2_append] at hown9
    have hO9 := hown9.num
    have hL9 : (E.take x ++ E.drop (x + 1)).length = en - 1 := by rw [List.length_append, List.length_take, List.length_drop]; have := HEn.out; omega
    have hsub : (E.take x ++ E.drop (x + 1)).Sublist E := by
     have e1 := List.take_append_drop x E
     conv => rhs; rw [← e1]
     refine (List.Sublist.refl _).append ?_
     rw [← List.drop_drop]
     exact List.drop_sublist 1 _
    obtain ⟨L9, hLL⟩ : ∃ L9, E.take x ++ E.drop (x + 1) = L9 := ⟨_, rfl⟩
    rw [hLL] at hO9 hL9 hsub
    rw [hL9] at hO9
    obtain ⟨A9, c9, rfl, hc9, -⟩ := hO9.shape
    have hLb9' : LB S.g w9 L9 := hLb9.sub (fun e he => hsub.subset he)
    have HL9 := Lib.hid (HL7.out.below hB9)
    have HS9 := Lib.hid (HS7.out.below hB9)
    have HR9 := Lib.hid (HR7.out.below hB9)
    have HRf := Lib.hid (repair_few HL9.out.ok j (by have := HSn.out; omega) A9 L9 (en - 1) c9 hL9 (by omega) (hO9.els hLb9'.lst) (HHb.out.vokS hsub) (by have := HSn.out; omega))
    clear hLb9 hB9 hown9 hg9 hO9 hL9 hsub hLL hLb9' hc9 HL7 HS7 HR7 HO7 HLb7 HHb HRd HNil HRt HO8 HH8 HB8 HOk7
    go_wp2_with fail
    refine HRf.out.mono ?_
    rintro e w10 ⟨rfl, hb10⟩
    have HL10 := Lib.hid (HL9.out.below hb10)
    have HS10 := Lib.hid (HS9.out.below hb10)
    have HR10 := Lib.hid (HR9.out.below hb10)
    obtain ⟨bj, oj, Bj, dj, hAj, qj, hBj⟩ := share_in HS10.out HLs.out (i := j) (by have := HSn.out; omega)
    subst hAj
    rw [hSn1] at qj
    have hln : (shr S.n wd j).length = en := by rw [shr_length wd (by have := HSn.out; omega), hSn1]
    have hSa := same_calls A7 Bj _ _ en en c7 dj w10 hln hln HR10.out.by_ hBj.by_
    rw [decide_eq_true rfl] at hSa
    have HSa := Lib.hid hSa
    clear hSa hBj hln hb10 HRf HL9 HS9 HR9
    go_wp2_with (first
     | (go_at_call 20; (with_reducible refine HSa.out.mono ?_); rintro e wq ⟨rfl, rfl⟩)
     | (go_at_call 10; (with_reducible refine (works_calls PS _).mono ?_); rintro e wz ⟨rfl, HZ⟩))
    go_ret
    exact ⟨rfl, HL10.out.bel.trans (HZ.mono HL10.out.bel.size)⟩
theorem walk (PS : Poly.Spec) (w : World) (n0 : Int) (hl0 : -9223372036854775808 ≤ n0) (hn0 : n0 < 9223372036854775808) (n1 : Int) (hl1 : -9223372036854775808 ≤ n1) (hn1 : n1 < 9223372036854775808) (A2 : Option Addr) (l2 : List Nat) (c2 : Nat) (hb2 : Bytes w A2 l2) (_hc2 : l2.length ≤ c2) (_hm2 : c2 ≤ 9223372036854775807) (n3 : Nat) (hn3 : n3 < 256) (n4 : Nat) (hn4 : n4 < 256) :
  Calls Try.prog 6 #[.int .i64 n0, .int .i64 n1, .slice A2 l2.length c2, .int .u8 (n3 : Nat), .int .u8 (n4 : Nat)] w fun e w' => e = .returned (.bool true) ∧ Below w.heap.size w w' := by
 obtain ⟨q, rfl⟩ := F8.of_bytes l2 hb2.lt
 exact core PS w n0 n1 hl0 hn0 hl1 hn1 A2 q _ c2 (bs_length q).symm hb2 n3 n4 hn3 hn4
end Go.Proofs.Ytimcmdnlhallmab.transferMends

namespace Go.Proofs.Ytimcmdnlhallmab.transferMends
open Go.ChangeShapes Go.WideShapes Go.ChangeAt Go.RowKit
open Go.ChangeMaps (open_string shut_string)
set_option linter.unusedVariables false
theorem own : ownKnob Try.prog.godebug = none := by kernel_rfl
theorem laidOut : laidOutB Try.prog = true := by kernel_rfl
set_option maxRecDepth 100000 in
theorem contract (H : Type) (enc : TypeId × Value → H) (W : World) (base : Nat) (args : Array Value) (ds gs : List (DataW H)) (before : List MemPlace)
  (hval : ∀ (j : Nat) t v, Try.f6.params[j]? = some t → args[j]? = some v → Value.okWide Try.prog W .any base t v)
  (hW : DataW.Whole enc Try.prog Try.f6.params.toList Rows.transferMendsSpec.vars false W args.toList ds gs before)
  (hsz : (DataW.weightsEach Try.prog (Try.f6.params.toList ++ Rows.transferMendsSpec.plain.varTypes Try.prog) (ds ++ gs)).all (· ≤ reachBytes) = true) :
  Calls Try.prog 6 args W fun e W' => ∃ v, e = .returned v ∧ Rows.transferMendsSpec.post enc Try.prog Try.f6 false true false false W args v W' := by
 have hW' := hW
 obtain ⟨p, q, hA0, hV, rfl, hfz, hnd⟩ := hW
 have hA : DataW.TrodAll enc Try.prog W 0 (fun _ => true) true Try.f6.params.toList args.toList ds p := hA0
 rw [Try.params6] at hA hval hsz
 obtain ⟨v0, vs0, d0, ds0, p0, q0, hargs, rfl, rfl, h0, r0⟩ := trodAll_cons hA
 obtain ⟨v1, vs1, d1, ds1, p1, q1, rfl, rfl, rfl, h1, r1⟩ := trodAll_cons r0
 obtain ⟨v2, vs2, d2, ds2, p2, q2, rfl, rfl, rfl, h2, r2⟩ := trodAll_cons r1
 obtain ⟨v3, vs3, d3, ds3, p3, q3, rfl, rfl, rfl, h3, r3⟩ := trodAll_cons r2
 obtain ⟨v4, vs4, d4, ds4, p4, q4, rfl, rfl, rfl, h4, r4⟩ := trodAll_cons r3
 obtain ⟨rfl, rfl, rfl⟩ := trodAll_nil r4
 obtain rfl : args = #[v0, v1, v2, v3, v4] := by cases args; simp_all
 obtain ⟨rfl, rfl⟩ := trodVars_none hV
 obtain ⟨n0, rfl, rfl, rfl, w0⟩ := open_int Try.underlying3 (hval 0 3 v0 rfl rfl) h0
 have b0 := wf_bounds_i64 w0
 obtain ⟨n1, rfl, rfl, rfl, w1⟩ := open_int Try.underlying3 (hval 1 3 v1 rfl rfl) h1
 have b1 := wf_bounds_i64 w1
 obtain ⟨A2, len2, c2, rfl⟩ := okWide_slice Try.underlying34 (hval 2 34 v2 rfl rfl)
 have k2 := h2
 have lt2 : ∀ x ∈ p2, x.block < W.heap.size := by obtain ⟨m, hm⟩ := k2; exact DataW.trod_lt m _ _ _ hm
 obtain ⟨l2, rfl, hb2, hc2, hm2⟩ : ∃ l : List Nat, len2 = l.length ∧ Bytes W A2 l ∧ l.length ≤ c2 ∧ c2 ≤ 9223372036854775807 := by
  obtain ⟨fuel, hf⟩ := h2
  rcases open_ints Try.underlying34 Try.underlying5 (by kernel_rfl) hf with ⟨hcs, _⟩ | ⟨x, l, c, zs, hcs, _, hl, hm, hz, _, hcell, hwz⟩
  ·simp [Value.cells] at hcs
   obtain ⟨rfl, rfl, rfl⟩ := hcs
   exact ⟨[], rfl, Bytes.nil _ _, by simp, by simp⟩
  ·simp [Value.cells] at hcs
   obtain ⟨rfl, rfl, rfl⟩ := hcs
   obtain ⟨h1, h2⟩ := bytes_of hl (by simpa using hz) hcell hwz
   exact ⟨_, h2.symm, h1, by rw [h2]; exact hl, by have h := hm; simp only [maxLen] at h; omega⟩
 obtain ⟨a3, rfl, rfl, rfl, w3⟩ := open_int Try.underlying5 (hval 3 5 v3 rfl rfl) h3
 have b3 := wf_bounds_u8 w3
 obtain ⟨n3, rfl⟩ := Int.eq_ofNat_of_zero_le b3.1
 have hn3 : n3 < 256 := by omega
 obtain ⟨a4, rfl, rfl, rfl, w4⟩ := open_int Try.underlying5 (hval 4 5 v4 rfl rfl) h4
 have b4 := wf_bounds_u8 w4
 obtain ⟨n4, rfl⟩ := Int.eq_ofNat_of_zero_le b4.1
 have hn4 : n4 < 256 := by omega
 clear hA0
 refine (walk Poly.spec W n0 b0.1 b0.2 n1 b1.1 b1.2 A2 l2 c2 hb2 hc2 hm2 n3 hn3 n4 hn4 ).mono fun e W' ⟨he, bel⟩ => ?_
 subst he
 exact ⟨_, rfl, _, _, _, [], _, [], hW', trodAll_mk1 (shut_bool Try.underlying4 _), (trodAll_cons_mk (shut_int Try.underlying3 w0) (trodAll_cons_mk (shut_int Try.underlying3 w1) (trodAll_cons_mk (Below.trod laidOut (by kernel_rfl) (of_decide_eq_true (by kernel_rfl)) k2 bel lt2) (trodAll_cons_mk (shut_int Try.underlying5 w3) (trodAll_cons_mk (shut_int Try.underlying5 w4) trodAll_mk0))))), rfl, bel.frame _, fun h => by cases h⟩
set_option maxRecDepth 100000 in
theorem lifted (os : Os) (started : os.Started) (H : Type) (enc : TypeId × Value → H) :
  ReturnsInHanded {} Try.checked os 6 .any (Rows.transferMendsSpec.pre6 enc Try.prog Try.f6 Rows.transferMendsRow.domain false) (Rows.transferMendsSpec.post enc Try.prog Try.f6 false true false false) := by
 refine returnsInHanded_of_change_sized (C := Try.checked) own started (by kernel_rfl) Try.func6
  (ChangeSpec.witness6 (enc := enc) (C := Try.checked) false ⟨#[], #[.int .i64 0, .int .i64 0, .slice none 0 0, .int .u8 0, .int .u8 0], []⟩ 8 (by kernel_rfl) (by kernel_rfl) (by kernel_rfl) (by kernel_rfl)) ?_
 intro W base args ds gs before hval hW _ hsz _
 exact contract H enc W base args ds gs before hval hW hsz
theorem proved : Rows.TransferMendsSaid :=
 OpenClaim.holds_of_wide 6 Try.f6 rfl rfl rfl rfl rfl rfl rfl ⟨rfl, rfl, rfl, rfl, rfl⟩ rfl rfl rfl rfl rfl (by kernel_rfl) Try.func6 (by kernel_rfl)
  (of_decide_eq_true (by kernel_rfl)) (by unfold Func.isWrapper; first | (rw [if_pos (by decide +kernel)]; kernel_rfl) | (rw [if_neg (by decide +kernel)]; exact ⟨rfl, rfl⟩))
  (fun os started H enc _ => lifted os started H enc)
end Go.Proofs.Ytimcmdnlhallmab.transferMends
