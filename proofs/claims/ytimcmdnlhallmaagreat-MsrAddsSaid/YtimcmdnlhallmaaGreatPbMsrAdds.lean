/- MsrAdds, for every input: the frame round the walk; the argument lists are opened, the walk's contract is met, what was read reads as it did. -/
import Derived.Test.YtimcmdnlhallmaaGreatPb25
import Derived.Test.YtimcmdnlhallmaaGreatRows
import Derived.Test.YtimcmdnlhallmaaGreatPb32
import Derived.Test.YtimcmdnlhallmaaGreatPb31
import Derived.WalkKit
import Derived.ProofKit
import Derived.OpenShut
import Derived.ShutString
import Derived.ChangeOld
import Derived.Below
import Derived.Deep.DeepHandedRow
import Derived.SizedLaws
namespace Go.Proofs.YtimcmdnlhallmaaGreat.Ms
open F8 Poly Rd Mat Wl
section
variable {xs : List F8} {n k d a v : Nat} {M N M' N' K L : Nat → List F8}
def plus (M M' : Nat → List F8) : Nat → List F8 := fun c => padd (M c) (M' c)
theorem padd_len : ∀ {p q : List F8} {m : Nat}, p.length = m → q.length = m → (padd p q).length = m
 | [], [], _, h, _ => h
 | [], _ :: _, _, h, h' => by simp at h; subst h; simp at h'
 | _ :: _, [], _, h, h' => by simp at h'; subst h'; simp at h
 | x :: p, y :: q, m, h, h' => by
  show (padd p q).length + 1 = m
  rw [List.length_cons] at h h'
  have := padd_len (p := p) (q := q) (m := p.length) rfl (by omega)
  omega
theorem four (a b c d : F8) : a + b + (c + d) = a + c + (b + d) := by rw [F8.add_assoc, F8.add_assoc, ← F8.add_assoc b, F8.add_comm b c, F8.add_assoc c]
theorem Sym.plus (h : Sym a M) (h' : Sym a M') : Sym a (plus M M') :=
 ⟨fun c hc => padd_len (h.len c hc) (h'.len c hc), fun c d hc hd => by unfold Ms.plus; rw [coef_padd, coef_padd, h.sym c d hc hd, h'.sym c d hc hd]⟩
theorem shr_plus (x : F8) : shr a (plus M M') (plus N N') x = padd (shr a M N x) (shr a M' N' x) :=
 list_ext (by rw [shr_length, padd_len (shr_length _ _ _ _) (shr_length _ _ _ _)]) fun c hc => by
  rw [shr_length] at hc
  rw [coef_shr hc, coef_padd, coef_shr hc, coef_shr hc]
  unfold plus
  rw [eval_padd, eval_padd, mul_add]
  exact four _ _ _ _
theorem Cw.plus (h : Cw xs a v M N) (h' : Cw xs a v M' N') : Cw xs a v (plus M M') (plus N N') :=
 ⟨h.sm.plus h'.sm, h.sn.plus h'.sn, fun p hp => by
  rw [shr_plus, h.z p hp, h'.z p hp]
  exact list_ext (padd_len (m := a) (by simp) (by simp) |>.trans (by simp)) fun c _ => by
   have e : coef (List.replicate a (0 : F8)) c = 0 := by simp [coef, List.getD_eq_getElem?_getD, List.getElem?_replicate]; split <;> rfl
   rw [coef_padd, e, F8.add_zero]⟩
theorem node_plus (j : Nat) : node xs v a (plus M M') (plus N N') j = padd (node xs v a M N j) (node xs v a M' N' j) := shr_plus _
theorem cw_alike (hP : Par xs n k d a v) (h : Cw xs a v M N) (h' : Cw xs a v M' N') (J : List Nat) (hn : J.Nodup) (hlt : ∀ j ∈ J, j < n) (hk : k ≤ J.length) (he : ∀ j ∈ J, node xs v a M N j = node xs v a M' N' j) : node xs v a M N = node xs v a M' N' := by
 have hA : ArgOk n a (J.map fun j : Nat => ((j : Int), node xs v a M N j)) 0 := by
  refine ⟨?_, fun o ho => ?_, by omega⟩
  ·rw [List.map_map]
   unfold List.Nodup at *
   rw [List.pairwise_map]
   exact hn.imp fun hne e => hne (by simp only [Function.comp] at e; omega)
  ·obtain ⟨j, hj, rfl⟩ := List.mem_map.1 ho
   have := hlt j hj
   exact ⟨by simp only; omega, by simp only; omega, shr_length _ _ _ _⟩
 refine node_congr (cw_only hP hA (t := 0) (by rw [List.length_map]; omega) h h' ?_ ?_)
 ·rw [wrongs_nil]; exact Int.le_refl _
  intro o ho
  obtain ⟨j, hj, rfl⟩ := List.mem_map.1 ho
  exact ⟨by simp only; omega, by simp⟩
 ·rw [wrongs_nil]; exact Int.le_refl _
  intro o ho
  obtain ⟨j, hj, rfl⟩ := List.mem_map.1 ho
  exact ⟨by simp only; omega, by simp [he j hj]⟩
theorem sum_node (hP : Par xs n k d a v) (h : Cw xs a v M N) (h' : Cw xs a v M' N') (hs : Cw xs a v K L) (hf : ∀ j, j < k → node xs v a K L j = padd (node xs v a M N j) (node xs v a M' N' j)) (j : Nat) : node xs v a K L j = padd (node xs v a M N j) (node xs v a M' N' j) := by
 rw [← node_plus]
 have hkn : k ≤ n := by have := hP.dn; have := hP.ak; have := hP.vk; omega
 exact congrFun (cw_alike hP hs (h.plus h') (List.range k) List.nodup_range (fun j hj => by have := List.mem_range.1 hj; omega) (by simp) fun j hj => by rw [node_plus]; exact hf j (List.mem_range.1 hj)) j
theorem chunk_padd {p q : List F8} (hl : p.length = q.length) (j : Nat) : chunkM a (padd p q) j = padd (chunkM a p j) (chunkM a q j) := by
 have hlen : (chunkM a p j).length = (chunkM a q j).length := by unfold chunkM; rw [List.length_take, List.length_take, List.length_drop, List.length_drop, hl]
 have e1 : (chunkM a (padd p q) j).length = (chunkM a p j).length := by unfold chunkM; rw [List.length_take, List.length_take, List.length_drop, List.length_drop, padd_len hl rfl, hl]
 refine list_ext (by rw [e1, padd_len hlen rfl, hlen]) fun c hc => ?_
 rw [e1] at hc
 have hca : c < a := by unfold chunkM at hc; rw [List.length_take] at hc; omega
 have key : ∀ r : List F8, coef (chunkM a r j) c = coef r (j * a + c) := fun r => by
  unfold chunkM
  simp [coef, List.getD_eq_getElem?_getD, hca]
 rw [key, coef_padd, coef_padd, key, key]
theorem msg_alike {p q : List F8} (hp : p.length = k * a) (hq : q.length = k * a) (h1 : ∀ j, j < k → node xs v a M N j = chunkM a p j) (h2 : ∀ j, j < k → node xs v a M' N' j = chunkM a q j) (he : node xs v a M N = node xs v a M' N') : p = q := by
 rw [← chunks k hp, ← chunks k hq, List.flatMap_def, List.flatMap_def]
 congr 1
 exact List.map_congr_left fun j hj => by rw [← h1 j (List.mem_range.1 hj), ← h2 j (List.mem_range.1 hj), he]
def alike (F G : Nat → List F8) (j : Nat) : Nat := ((List.range j).filter fun i => decide (F i = G i)).length
theorem alike_succ (F G : Nat → List F8) (j : Nat) : alike F G (j + 1) = alike F G j + if F j = G j then 1 else 0 := by
 unfold alike
 rw [List.range_succ, List.filter_append, List.length_append]
 by_cases h : F j = G j <;> simp [h]
theorem alike_le (F G : Nat → List F8) (j : Nat) : alike F G j ≤ j := by
 unfold alike
 have := List.length_filter_le (fun i => decide (F i = G i)) (List.range j)
 rw [List.length_range] at this
 exact this
theorem alike_msg {p q : List F8} (hP : Par xs n k d a v) (h : Cw xs a v M N) (h' : Cw xs a v M' N') (hp : p.length = k * a) (hq : q.length = k * a) (h1 : ∀ j, j < k → node xs v a M N j = chunkM a p j) (h2 : ∀ j, j < k → node xs v a M' N' j = chunkM a q j) (hk : k ≤ alike (node xs v a M N) (node xs v a M' N') n) : p = q :=
 msg_alike hp hq h1 h2 (cw_alike hP h h' ((List.range n).filter fun i => decide (node xs v a M N i = node xs v a M' N' i)) (List.nodup_range.sublist List.filter_sublist) (fun _ hj => List.mem_range.1 (List.mem_filter.1 hj).1) hk fun _ hj => of_decide_eq_true (List.mem_filter.1 hj).2)
end
theorem share_of {g n a : Nat} {V : World} {A : Option Addr} {l : List El} {F : Nat → List F8} (h : Shs g V A l) (hl : l.map El.s = (List.range n).map F) (hF : ∀ j, (F j).length = a) {i : Nat} (hi : i < n) : ∃ b o B c, A = some ⟨b, o, none⟩ ∧ V.cell? ⟨b, o + i, none⟩ = some (.slice B a c) ∧ BF g V B (F i) := by
 have hlen : l.length = n := by have := congrArg List.length hl; simpa using this
 have hil : i < l.length := by omega
 obtain ⟨b, o, e, hc⟩ := cells1_at h.row hil
 have e1 : (l[i]).s = F i := by
  have := congrArg (fun L => L[i]?) hl
  simpa [hil, hi] using this
 have hb := (h.lst _ (List.getElem_mem hil)).1
 rw [e1] at hc hb
 rw [hF] at hc
 exact ⟨b, o, _, _, e, hc, hb⟩
end Go.Proofs.YtimcmdnlhallmaaGreat.Ms

namespace Go.Proofs.YtimcmdnlhallmaaGreat.msrAdds
open Go.RowKit Go.Shelf F8 GF Poly Rd Ms
attribute [local go_sem] Oper.semAt_some
attribute [-go_sem] Builtin.append_
set_option maxRecDepth 100000 in
set_option maxHeartbeats 8000000 in
theorem core (PS : Poly.Spec) (Z : Wl.Spec) (w : World) (n k d : Int) (hl0 : -9223372036854775808 ≤ n) (hn0 : n < 9223372036854775808) (hl1 : -9223372036854775808 ≤ k) (hn1 : k < 9223372036854775808) (hl2 : -9223372036854775808 ≤ d) (hn2 : d < 9223372036854775808) (B : Option Addr) (q : List F8) (o c : Nat) (ho : q.length = o) (hbq : Bytes w B (bs q)) (D : Option Addr) (r : List F8) (p f : Nat) (hp : r.length = p) (hbr : Bytes w D (bs r)) :
  Calls Tryz.prog 10 #[.int .i64 n, .int .i64 k, .int .i64 d, .slice B o c, .slice D p f] w fun e w' => e = .returned (.bool true) ∧ Below w.heap.size w w' := by
 have HB := Lib.hid hbq
 have HO := Lib.hid ho
 have HD := Lib.hid hbr
 have HP := Lib.hid hp
 have hfew := few_calls n k d w
 by_cases hf : Few n k d
 rotate_left
 ·rw [decide_eq_false hf] at hfew
  have HFew := Lib.hid hfew
  clear hbq ho hfew hf HB hbr hp HD
  go_enter Tryz.func10, Tryz.ntmps10
  go_wp2_with (first
   | (go_at_call 12; refine HFew.out.mono ?_; rintro e w0 ⟨rfl, rfl⟩)
   | (go_at_call 13; (with_reducible refine (works_calls PS Z _).mono ?_); rintro e wz ⟨rfl, HZ⟩))
  go_ret
  exact ⟨rfl, HZ⟩
 rw [decide_eq_true hf] at hfew
 have HFew := Lib.hid hfew
 have HF := Lib.hid hf
 clear hbq ho hfew hf hbr hp
 go_enter Tryz.func10, Tryz.ntmps10
 go_wp2_with (go_at_call 12; refine HFew.out.mono ?_; rintro e w0 ⟨rfl, rfl⟩)
 refine (GF.new_calls w).mono ?_
 rintro e w1 ⟨rfl, hw1⟩
 have HMd := Lib.hid (made PS n k d w w1 hw1 hl0 hn0 hl1 hn1 hl2 hn2)
 clear hw1
 go_wp2_with fail
 refine HMd.out.mono ?_
 clear HMd
 rintro e w2 (⟨hgood, S, hL, rfl⟩ | ⟨-, rfl, HBz⟩)
 rotate_left
 ·go_wp2_with (go_at_call 13; (with_reducible refine (works_calls PS Z _).mono ?_); rintro e wz ⟨rfl, HZ⟩)
  go_ret
  exact ⟨rfl, HBz.trans (HZ.mono HBz.size)⟩
 have HL := Lib.hid hL.lw
 have hn := hL.lw.ok.nums
 have hek := hL.ek
 have hk9 : S.k ≤ 9 := by have := HF.out.2.1; omega
 obtain ⟨kn, hkn⟩ : ∃ kn, S.k = kn := ⟨_, rfl⟩
 obtain ⟨sn, hsn⟩ : ∃ sn, S.n = sn := ⟨_, rfl⟩
 obtain rfl : n = (sn : Int) := by rw [← hsn]; exact hL.en.symm
 obtain rfl : k = (kn : Int) := by rw [← hkn]; exact hL.ek.symm
 obtain ⟨mb, hmb⟩ : ∃ mb, S.k * S.a = mb := ⟨_, rfl⟩
 have hmb2 : mb ≤ 9 * 16 := by rw [← hmb]; exact Nat.mul_le_mul hk9 hn.2.1
 have HBc : Hid (∀ V, Lw S w V → Calls Tryz.prog 19 #[.pointer (some ⟨S.b, 0, none⟩)] V fun e w' => e = .returned (.int .i64 (mb : Nat)) ∧ Below V.heap.size V w') := Lib.hid fun V hV => by
  have h := b_calls hV.ok
  rw [hmb] at h
  exact h
 have HMb := Lib.hid hmb
 have HKn := Lib.hid hkn
 have HSn := Lib.hid hsn
 have hks : kn ≤ sn := by omega
 have hkn9 : kn ≤ 9 := by omega
 have hs9 : sn ≤ 9 := by have := HF.out.1; omega
 clear hL hn hek hmb hkn hsn hgood hk9 HF HFew hl0 hn0 hl1 hn1 hl2 hn2
 go_wp2_with fail
 refine (HBc.out _ HL.out).mono ?_
 rintro e w3 ⟨rfl, hb3⟩
 have HL3 := Lib.hid (HL.out.below hb3)
 clear hb3 HL
 have HFu := Lib.hid (kfull_calls B q o c mb w3 HO.out (HB.out.below HL3.out.bel) (by omega))
 go_wp2_with fail
 refine HFu.out.mono ?_
 rintro e w4 ⟨A4, c4, rfl, hc4, hO4, hb4⟩
 obtain ⟨mx, hm⟩ : ∃ m, full q mb = m := ⟨_, rfl⟩
 have hml : mx.length = mb := by rw [← hm, full_length]
 rw [hm] at hO4
 have HL4 := Lib.hid (HL3.out.below hb4)
 have HM4 := Lib.hid (BF.own HL4.out.ok.fld hO4)
 have HMl := Lib.hid hml
 clear hO4 hb4 hm hml HFu HL3
 go_wp2_with fail
 refine (HBc.out _ HL4.out).mono ?_
 rintro e w5 ⟨rfl, hb5⟩
 have HL5 := Lib.hid (HL4.out.below hb5)
 have HM5 := Lib.hid (HM4.out.below hb5)
 clear hb5 HL4 HM4 HBc
 have HFu := Lib.hid (kfull_calls D r p f mb w5 HP.out (HD.out.below HL5.out.bel) (by omega))
 go_wp2_with fail
 refine HFu.out.mono ?_
 rintro e w6 ⟨A6, c6, rfl, hc6, hO6, hb6⟩
 obtain ⟨my, hm⟩ : ∃ m, full r mb = m := ⟨_, rfl⟩
 have hml : my.length = mb := by rw [← hm, full_length]
 rw [hm] at hO6
 have HL6 := Lib.hid (HL5.out.below hb6)
 have HX6 := Lib.hid (HM5.out.below hb6)
 have HY6 := Lib.hid (BF.own HL6.out.ok.fld hO6)
 have HYl := Lib.hid hml
 obtain ⟨ms, hms⟩ : ∃ ms, padd mx my = ms := ⟨_, rfl⟩
 have hsl : ms.length = mb := by rw [← hms]; exact padd_len HMl.out HYl.out
 have HMs := Lib.hid hms
 have HSl := Lib.hid hsl
 clear hO6 hb6 hm hml HFu HL5 HM5 hms hsl
 go_wp2_with fail
 go_loopw [15, 16] (fun ov iv wr => ∃ i : Nat, i ≤ mb ∧ iv = .int .i64 i ∧ Hid (Own wr w6.heap.size 5 ov (bv (bs (ms.take i)))) ∧ Hid (Below w6.heap.size w6 wr)) (fun _ iv _ => mb - (intOf iv).toNat)
 case atStart => exact ⟨0, by omega, rfl, Lib.hid (by simpa [bs, bv] using Own.nil _ _ _), Lib.hid (Below.refl _ _)⟩
 case round =>
  obtain ⟨i, hi, rfl, HO2, HW⟩ := hrel
  by_cases him : i < mb
  ·have hix : i < mx.length := by rw [HMl.out]; exact him
   have hiy : i < my.length := by rw [HYl.out]; exact him
   have his : i < ms.length := by rw [HSl.out]; exact him
   obtain ⟨bx, ox, rfl, hcx⟩ := cellF (HX6.out.below HW.out).by_ i hix
   obtain ⟨by_, oy, rfl, hcy⟩ := cellF (HY6.out.below HW.out).by_ i hiy
   obtain ⟨x, hx⟩ : ∃ x, coef mx i = x := ⟨_, rfl⟩
   obtain ⟨y, hy⟩ : ∃ y, coef my i = y := ⟨_, rfl⟩
   obtain ⟨z, hz⟩ : ∃ z, x + y = z := ⟨_, rfl⟩
   rw [hx] at hcx
   rw [hy] at hcy
   have HAd : Hid (∀ V, Calls Tryz.prog 36 #[.int .u8 (x.n : Nat), .int .u8 (y.n : Nat)] V fun e w' => e = .returned (.int .u8 (z.n : Nat)) ∧ V = w') := Lib.hid fun V => by
    have h := GF.add_calls x.n y.n x.h y.h V
    rw [show x.n ^^^ y.n = z.n by rw [← hz]; rfl] at h
    exact h
   have HTk : Hid (ms.take (i + 1) = ms.take i ++ [z]) := Lib.hid (by
    rw [take_succ' ms his, ← coef_of_lt his, ← HMs.out, coef_padd, hx, hy, hz])
   obtain ⟨T, hT⟩ : ∃ T, ms.take i = T := ⟨_, rfl⟩
   have hTl : T.length = i := by rw [← hT, List.length_take, HSl.out]; omega
   rw [hT] at HO2 HTk
   obtain ⟨Ao, co, rfl, hco⟩ := Own.shape HO2.out
   rw [hTl] at HO2 hco ⊢
   have hz6 := HW.out.size
   have HOa := Lib.hid ((HO2.out.below ((Below.refl wr.heap.size wr).alloc (Nat.le_refl _) (.cells #[.int .u8 (z.n : Nat)] 5))).drew)
   have HBa := Lib.hid ((HW.out.trans (((Below.refl wr.heap.size wr).alloc (Nat.le_refl _) (.cells #[.int .u8 (z.n : Nat)] 5)).mono hz6)).drew)
   have hK : OwnK 1 (wr.alloc (.cells #[.int .u8 (z.n : Nat)] 5)).drew w6.heap.size 5 (.slice Ao i co) i (bv (bs T)) := by
    have h := HOa.out
    unfold Own at h
    rw [bvs_length, hTl] at h
    exact h
   obtain ⟨v2, w7, hrun, hown, hg7, -⟩ := run_appK (P := Tryz.prog) (wr.alloc (.cells #[.int .u8 (z.n : Nat)] 5)).drew 1 w6.heap.size 34 34 5 _ 1 Tryz.underlying34 info_u8 rfl (by omega) _ i _ hK ⟨wr.heap.size, 0, none⟩ 1 1 (bv [z.n]) rfl (Row.new _ _ _ _) (bv_one _) (by omega) (by omega) (Nat.le_trans hz6 (by rw [World.size_drew, World.size_alloc]; omega))
   have hB7 := HBa.out.trans (hK.grew (Nat.le_trans hz6 (by rw [World.size_drew, World.size_alloc]; omega)) hg7)
   have hown := (own1_of hown).1
   rw [← bvs_snoc, ← HTk.out] at hown
   obtain ⟨A7, c7, rfl, -⟩ := Own.shape hown
   have HO7 := Lib.hid hown
   have HW7 := Lib.hid hB7
   obtain ⟨tn, htn⟩ : ∃ tn, (ms.take (i + 1)).length = tn := ⟨_, rfl⟩
   rw [htn] at hrun HO7
   clear hown hB7 hg7 hK HOa HBa hx hy hz hix hiy his hT hTl htn hco HO2 HTk hz6 HW
   go_wp2_with fail
   go_region_with (go_at_call 36; (with_reducible refine (HAd.out _).mono ?_); rintro e w9 ⟨rfl, rfl⟩)
   all_goals
    clear hrun hcx hcy HAd
    go_wp2
    go_roundw
    case rel => exact ⟨i + 1, by omega, by go_num, HO7, HW7⟩
    case measure => simp [intOf]; omega
  ·obtain rfl : mb = i := by omega
   have hO := HO2.out
   rw [List.take_of_length_le (Nat.le_of_eq HSl.out)] at hO
   obtain ⟨A7, c7, rfl, hc7⟩ := Own.shape hO
   rw [HSl.out] at hO hc7 ⊢
   have HL7 := Lib.hid (HL6.out.below HW.out)
   have HX7 := Lib.hid (HX6.out.below HW.out)
   have HY7 := Lib.hid (HY6.out.below HW.out)
   have HZ7 := Lib.hid (BF.own HL7.out.ok.fld hO)
   have hlt : ¬ ((mb : Int) < (mb : Int)) := by omega
   obtain ⟨w7, hw7⟩ : ∃ w7, wr = w7 := ⟨_, rfl⟩
   rw [hw7] at HL7 HX7 HY7 HZ7 ⊢
   clear hO HO2 HW HL6 HX6 HY6 him hi hw7
   have hEn := encode_calls PS Z HL7.out.ok A4 mx mb c4 HMl.out HMb.out.symm HX7.out hc4
   rw [HSn.out, HKn.out] at hEn
   have HEn := Lib.hid hEn
   clear hEn
   go_wp2_with fail
   refine HEn.out.mono ?_
   clear HEn
   rintro e w8 ⟨Ax, cx, lx, Mx, Nx, rfl, hcx, hO8, hL8, hCx, hchx, hlx, hf8, hp8⟩
   have HL8 := Lib.hid (HL7.out.go hf8 hp8)
   have HX8 := Lib.hid (HX7.out.past hp8)
   have HY8 := Lib.hid (HY7.out.past hp8)
   have HZ8 := Lib.hid (HZ7.out.past hp8)
   have HSx : Hid (Shs S.g w8 Ax lx) := Lib.hid ⟨own_row (own1_of hO8).1, hL8.lst hf8⟩
   have HCx := Lib.hid hCx
   have HHx := Lib.hid hchx
   have HLx := Lib.hid hlx
   clear hO8 hL8 hCx hchx hlx hf8 hp8 HL7 HX7 HY7 HZ7
   have hEn := encode_calls PS Z HL8.out.ok A6 my mb c6 HYl.out HMb.out.symm HY8.out hc6
   rw [HSn.out, HKn.out] at hEn
   have HEn := Lib.hid hEn
   clear hEn
   go_wp2_with fail
   refine HEn.out.mono ?_
   clear HEn
   rintro e w9 ⟨Ay, cy, ly, My, Ny, rfl, hcy, hO9, hL9, hCy, hchy, hly, hf9, hp9⟩
   have HL9 := Lib.hid (HL8.out.go hf9 hp9)
   have HX9 := Lib.hid (HX8.out.past hp9)
   have HY9 := Lib.hid (HY8.out.past hp9)
   have HZ9 := Lib.hid (HZ8.out.past hp9)
   have HSx9 := Lib.hid (HSx.out.past HL8.out.ok.fld.fld hp9)
   have HSy : Hid (Shs S.g w9 Ay ly) := Lib.hid ⟨own_row (own1_of hO9).1, hL9.lst hf9⟩
   have HCy := Lib.hid hCy
   have HHy := Lib.hid hchy
   have HLy := Lib.hid hly
   clear hO9 hL9 hCy hchy hly hf9 hp9 HL8 HX8 HY8 HZ8 HSx
   have hEn := encode_calls PS Z HL9.out.ok A7 ms mb c7 HSl.out HMb.out.symm HZ9.out hc7
   rw [HSn.out, HKn.out] at hEn
   have HEn := Lib.hid hEn
   clear hEn
   go_wp2_with fail
   refine HEn.out.mono ?_
   clear HEn
   rintro e w10 ⟨Az, cz, lz, Mz, Nz, rfl, hcz, hO10, hL10, hCz, hchz, hlz, hf10, hp10⟩
   have HL10 := Lib.hid (HL9.out.go hf10 hp10)
   have HX10 := Lib.hid (HX9.out.past hp10)
   have HY10 := Lib.hid (HY9.out.past hp10)
   have HSx10 := Lib.hid (HSx9.out.past HL9.out.ok.fld.fld hp10)
   have HSy10 := Lib.hid (HSy.out.past HL9.out.ok.fld.fld hp10)
   have HSz10 : Hid (Shs S.g w10 Az lz) := Lib.hid ⟨own_row (own1_of hO10).1, hL10.lst hf10⟩
   have hpar := HL10.out.ok.par
   have hkl := HKn.out
   have hnl := HSn.out
   have hal := HL10.out.ok.a16
   obtain ⟨an, han⟩ : ∃ an, S.a = an := ⟨_, rfl⟩
   have HAn := Lib.hid han
   have HSum : Hid (∀ j, node S.xs S.v S.a Mz Nz j = padd (node S.xs S.v S.a Mx Nx j) (node S.xs S.v S.a My Ny j)) := Lib.hid fun j =>
    sum_node hpar HCx.out HCy.out hCz (fun j hj => by rw [hkl] at hj; rw [hchz j hj, HHx.out j hj, HHy.out j hj, ← HMs.out, chunk_padd (HMl.out.trans HYl.out.symm)]) j
   have HAk : Hid (kn ≤ alike (node S.xs S.v S.a Mx Nx) (node S.xs S.v S.a My Ny) sn → mx = my) := Lib.hid fun h =>
    alike_msg hpar HCx.out HCy.out (by rw [HMl.out, HMb.out]) (by rw [HYl.out, HMb.out]) (fun j hj => HHx.out j (by rw [← hkl]; exact hj)) (fun j hj => HHy.out j (by rw [← hkl]; exact hj)) (by rw [hkl, hnl]; exact h)
   have hFx : ∀ j, (node S.xs S.v S.a Mx Nx j).length = an := fun j => by rw [← han]; exact shr_length _ _ _ _
   have hFy : ∀ j, (node S.xs S.v S.a My Ny j).length = an := fun j => by rw [← han]; exact shr_length _ _ _ _
   have hFz : ∀ j, (node S.xs S.v S.a Mz Nz j).length = an := fun j => by rw [← han]; exact shr_length _ _ _ _
   have HLz := Lib.hid hlz
   obtain ⟨Fx, hx⟩ : ∃ F, node S.xs S.v S.a Mx Nx = F := ⟨_, rfl⟩
   obtain ⟨Fy, hy⟩ : ∃ F, node S.xs S.v S.a My Ny = F := ⟨_, rfl⟩
   obtain ⟨Fz, hz⟩ : ∃ F, node S.xs S.v S.a Mz Nz = F := ⟨_, rfl⟩
   rw [hx] at HSum HAk hFx HLx
   rw [hy] at HSum HAk hFy HLy
   rw [hz] at HSum hFz HLz
   have HFx := Lib.hid hFx
   have HFy := Lib.hid hFy
   have HFz := Lib.hid hFz
   have HAl : Hid (∀ V, Lw S w V → Calls Tryz.prog 17 #[.pointer (some ⟨S.b, 0, none⟩)] V fun e w' => e = .returned (.int .i64 (an : Nat)) ∧ V = w') := Lib.hid fun V hV => by
    have h := alpha_calls hV.ok
    rw [HAn.out] at h
    exact h
   have ha16 : an ≤ 16 := by omega
   have hnn : ((sn : Int) != (sn : Int)) = false := by simp
   clear hO10 hL10 hCz hchz hlz hf10 hp10 HL9 HX9 HY9 HZ9 HSx9 HSy hpar hkl hnl hal han hx hy hz hFx hFy hFz HHx HHy HCx HCy
   go_wp2_with fail
   go_loopw [23, 24] (fun av jv wr => ∃ j : Nat, j ≤ sn ∧ jv = .int .i64 j ∧ av = .int .i64 (alike Fx Fy j : Nat) ∧ Hid (Below w10.heap.size w10 wr)) (fun _ jv _ => sn - (intOf jv).toNat)
   case atStart => exact ⟨0, by omega, rfl, rfl, Lib.hid (Below.refl _ _)⟩
   case round =>
    obtain ⟨j, hj, rfl, rfl, HW⟩ := hrel
    by_cases hjn : j < sn
    ·have hji : (j : Int) < (sn : Int) := by omega
     obtain ⟨b1, o1, B1, d1, rfl, q1, hB1⟩ := share_of (HSx10.out.below HW.out) HLx.out HFx.out hjn
     obtain ⟨b2, o2, B2, d2, rfl, q2, hB2⟩ := share_of (HSy10.out.below HW.out) HLy.out HFy.out hjn
     obtain ⟨b3, o3, B3, d3, rfl, q3, hB3⟩ := share_of (HSz10.out.below HW.out) HLz.out HFz.out hjn
     have HLw := Lib.hid (HL10.out.below HW.out)
     have HV : Hid (wr.drew.cell? ⟨b1, o1 + j, none⟩ = some (.slice B1 an d1) ∧ wr.drew.cell? ⟨b2, o2 + j, none⟩ = some (.slice B2 an d2) ∧ wr.drew.cell? ⟨b3, o3 + j, none⟩ = some (.slice B3 an d3)) := Lib.hid ⟨q1, q2, q3⟩
     have HLd := Lib.hid (HLw.out.below (Below.refl _ _).drew)
     have HW1 := Lib.hid HW.out.drew
     have HP1 := Lib.hid (hB1.below (Below.refl _ _).drew)
     have HP2 := Lib.hid (hB2.below (Below.refl _ _).drew)
     have HP3 := Lib.hid (hB3.below (Below.refl _ _).drew)
     have hne : ((an : Int) != (an : Int)) = false := by simp
     obtain ⟨al, hal⟩ : ∃ al, alike Fx Fy j = al := ⟨_, rfl⟩
     have hal9 : al ≤ 9 := by rw [← hal]; have := alike_le Fx Fy j; omega
     have HAlk := Lib.hid hal
     rw [hal]
     clear q1 q2 q3 hB1 hB2 hB3 hal HLw HW
     go_wp2_with fail
     go_region_held (fun V => V.cell? ⟨b1, o1 + j, none⟩ = some (.slice B1 an d1) ∧ V.cell? ⟨b2, o2 + j, none⟩ = some (.slice B2 an d2) ∧ V.cell? ⟨b3, o3 + j, none⟩ = some (.slice B3 an d3)) (with_reducible exact HV.out)
      ((go_at_call 17; (with_reducible refine (HAl.out _ HLd.out).mono ?_); rintro e9 w9 ⟨rfl, rfl⟩))
     obtain ⟨w11, hw11⟩ : ∃ w11, wr.drew = w11 := ⟨_, rfl⟩
     rw [hw11] at HV HLd HW1 HP1 HP2 HP3 ⊢
     clear hw11
     have HV2 : Hid (w11.drew.cell? ⟨b1, o1 + j, none⟩ = some (.slice B1 an d1) ∧ w11.drew.cell? ⟨b2, o2 + j, none⟩ = some (.slice B2 an d2)) := Lib.hid ⟨HV.out.1, HV.out.2.1⟩
     have HV3 : Hid (w11.drew.cell? ⟨b1, o1 + j, none⟩ = some (.slice B1 an d1) ∧ w11.drew.cell? ⟨b2, o2 + j, none⟩ = some (.slice B2 an d2) ∧ w11.drew.cell? ⟨b3, o3 + j, none⟩ = some (.slice B3 an d3)) := Lib.hid HV.out
     have hSm := same_calls B1 B2 (Fx j) (Fy j) an an d1 d2 w11.drew (HFx.out j) (HFy.out j) HP1.out.by_.drew HP2.out.by_.drew
     have HLd2 := Lib.hid (HLd.out.below (Below.refl _ _).drew)
     have HW2 := Lib.hid HW1.out.drew
     have HR1 := Lib.hid (HP1.out.below (Below.refl _ _).drew)
     have HR2 := Lib.hid (HP2.out.below (Below.refl _ _).drew)
     have HR3 := Lib.hid (HP3.out.below (Below.refl _ _).drew)
     clear HV HLd HW1 HP1 HP2 HP3
     have has := alike_succ Fx Fy j
     rw [HAlk.out] at has
     by_cases hsm : Fx j = Fy j
     ·rw [decide_eq_true hsm] at hSm
      rw [if_pos hsm] at has
      have HSm := Lib.hid hSm
      have HA2 := Lib.hid has
      have hwr : IntKind.i64.wrap ((al : Int) + 1) = (al : Int) + 1 := IntWalk.i64_in _ (by omega)
      clear hSm has hsm
      go_wp2_with fail
      go_region_held (fun V => V.cell? ⟨b1, o1 + j, none⟩ = some (.slice B1 an d1) ∧ V.cell? ⟨b2, o2 + j, none⟩ = some (.slice B2 an d2)) (with_reducible exact HV2.out)
       ((go_at_call 25; (with_reducible refine HSm.out.mono ?_); rintro e9 w9 ⟨rfl, rfl⟩))
      obtain ⟨w12, hw12⟩ : ∃ w12, w11.drew = w12 := ⟨_, rfl⟩
      rw [hw12] at HLd2 HW2 HR1 HR2 HR3 HV3 ⊢
      clear hw12 HV2 HSm
      go_wp2_with fail
      go_loopw [25] (fun lv wr => ∃ l : Nat, l ≤ an ∧ lv = .int .i64 l ∧ Hid (Below w12.heap.size w12 wr)) (fun lv _ => an - (intOf lv).toNat)
      case atStart => exact ⟨0, by omega, rfl, Lib.hid (Below.refl _ _)⟩
      case round =>
       obtain ⟨l, hl, rfl, HW3⟩ := hrel
       have q1 := (HW3.out.cell (cell_lt HV3.out.1)).trans HV3.out.1
       have q2 := (HW3.out.cell (cell_lt HV3.out.2.1)).trans HV3.out.2.1
       have q3 := (HW3.out.cell (cell_lt HV3.out.2.2)).trans HV3.out.2.2
       by_cases hla : l < an
       ·have hli : (l : Int) < (an : Int) := by omega
        obtain ⟨x1, y1, rfl, r1⟩ := cellF (HR1.out.below HW3.out).by_ l (by rw [HFx.out]; exact hla)
        obtain ⟨x2, y2, rfl, r2⟩ := cellF (HR2.out.below HW3.out).by_ l (by rw [HFy.out]; exact hla)
        obtain ⟨x3, y3, rfl, r3⟩ := cellF (HR3.out.below HW3.out).by_ l (by rw [HFz.out]; exact hla)
        obtain ⟨x, hx⟩ : ∃ x, coef (Fx j) l = x := ⟨_, rfl⟩
        obtain ⟨y, hy⟩ : ∃ y, coef (Fy j) l = y := ⟨_, rfl⟩
        obtain ⟨z, hz⟩ : ∃ z, coef (Fz j) l = z := ⟨_, rfl⟩
        have hxyz : x + y = z := by rw [← hx, ← hy, ← hz, HSum.out j, coef_padd]
        rw [hx] at r1
        rw [hy] at r2
        rw [hz] at r3
        have HAd : Hid (∀ V, Calls Tryz.prog 36 #[.int .u8 (x.n : Nat), .int .u8 (y.n : Nat)] V fun e w' => e = .returned (.int .u8 (z.n : Nat)) ∧ V = w') := Lib.hid fun V => by
         have h := GF.add_calls x.n y.n x.h y.h V
         rw [show x.n ^^^ y.n = z.n by rw [← hxyz]; rfl] at h
         exact h
        have HV6 : Hid (wr.drew.cell? ⟨b1, o1 + j, none⟩ = some (.slice (some ⟨x1, y1, none⟩) an d1) ∧ wr.drew.cell? ⟨b2, o2 + j, none⟩ = some (.slice (some ⟨x2, y2, none⟩) an d2) ∧ wr.drew.cell? ⟨b3, o3 + j, none⟩ = some (.slice (some ⟨x3, y3, none⟩) an d3) ∧ wr.drew.cell? ⟨x1, y1 + l, none⟩ = some (.int .u8 (x.n : Int)) ∧ wr.drew.cell? ⟨x2, y2 + l, none⟩ = some (.int .u8 (y.n : Int)) ∧ wr.drew.cell? ⟨x3, y3 + l, none⟩ = some (.int .u8 (z.n : Int))) := Lib.hid ⟨q1, q2, q3, r1, r2, r3⟩
        have HW4 := Lib.hid HW3.out.drew
        have hzz : ((z.n : Int) != (z.n : Int)) = false := by simp
        clear q2 q3 r1 r2 r3 hx hy hz hxyz HW3
        go_wp2_with fail
        go_region_held (fun V => V.cell? ⟨b1, o1 + j, none⟩ = some (.slice (some ⟨x1, y1, none⟩) an d1) ∧ V.cell? ⟨b2, o2 + j, none⟩ = some (.slice (some ⟨x2, y2, none⟩) an d2) ∧ V.cell? ⟨b3, o3 + j, none⟩ = some (.slice (some ⟨x3, y3, none⟩) an d3) ∧ V.cell? ⟨x1, y1 + l, none⟩ = some (.int .u8 (x.n : Int)) ∧ V.cell? ⟨x2, y2 + l, none⟩ = some (.int .u8 (y.n : Int)) ∧ V.cell? ⟨x3, y3 + l, none⟩ = some (.int .u8 (z.n : Int))) (with_reducible exact HV6.out)
         ((go_at_call 36; (with_reducible refine (HAd.out _).mono ?_); rintro e9 w9 ⟨rfl, rfl⟩))
        all_goals
         clear q1
         go_wp2
         go_roundw
         case rel => exact ⟨l + 1, by omega, by go_num, HW4⟩
         case measure => simp [intOf]; omega
       ·have hla2 : l = an := by omega
        have hli : ¬ ((l : Int) < (an : Int)) := by omega
        have HW5 := Lib.hid (HW2.out.trans (HW3.out.mono HW2.out.size))
        clear q2 q3 hla2 HW3
        go_wp2_with fail
        go_roundw
        case rel => exact ⟨j + 1, by omega, by go_num, by rw [HA2.out]; rfl, HW5⟩
        case measure => simp [intOf]; omega
     ·rw [decide_eq_false hsm] at hSm
      rw [if_neg hsm] at has
      replace has := has.trans (Nat.add_zero al)
      have HSm := Lib.hid hSm
      have HA2 := Lib.hid has
      clear hSm has hsm
      go_wp2_with fail
      go_region_held (fun V => V.cell? ⟨b1, o1 + j, none⟩ = some (.slice B1 an d1) ∧ V.cell? ⟨b2, o2 + j, none⟩ = some (.slice B2 an d2)) (with_reducible exact HV2.out)
       ((go_at_call 25; (with_reducible refine HSm.out.mono ?_); rintro e9 w9 ⟨rfl, rfl⟩))
      obtain ⟨w12, hw12⟩ : ∃ w12, w11.drew = w12 := ⟨_, rfl⟩
      rw [hw12] at HLd2 HW2 HR1 HR2 HR3 HV3 ⊢
      clear hw12 HV2 HSm
      go_wp2_with fail
      go_loopw [25] (fun lv wr => ∃ l : Nat, l ≤ an ∧ lv = .int .i64 l ∧ Hid (Below w12.heap.size w12 wr)) (fun lv _ => an - (intOf lv).toNat)
      case atStart => exact ⟨0, by omega, rfl, Lib.hid (Below.refl _ _)⟩
      case round =>
       obtain ⟨l, hl, rfl, HW3⟩ := hrel
       have q1 := (HW3.out.cell (cell_lt HV3.out.1)).trans HV3.out.1
       have q2 := (HW3.out.cell (cell_lt HV3.out.2.1)).trans HV3.out.2.1
       have q3 := (HW3.out.cell (cell_lt HV3.out.2.2)).trans HV3.out.2.2
       by_cases hla : l < an
       ·have hli : (l : Int) < (an : Int) := by omega
        obtain ⟨x1, y1, rfl, r1⟩ := cellF (HR1.out.below HW3.out).by_ l (by rw [HFx.out]; exact hla)
        obtain ⟨x2, y2, rfl, r2⟩ := cellF (HR2.out.below HW3.out).by_ l (by rw [HFy.out]; exact hla)
        obtain ⟨x3, y3, rfl, r3⟩ := cellF (HR3.out.below HW3.out).by_ l (by rw [HFz.out]; exact hla)
        obtain ⟨x, hx⟩ : ∃ x, coef (Fx j) l = x := ⟨_, rfl⟩
        obtain ⟨y, hy⟩ : ∃ y, coef (Fy j) l = y := ⟨_, rfl⟩
        obtain ⟨z, hz⟩ : ∃ z, coef (Fz j) l = z := ⟨_, rfl⟩
        have hxyz : x + y = z := by rw [← hx, ← hy, ← hz, HSum.out j, coef_padd]
        rw [hx] at r1
        rw [hy] at r2
        rw [hz] at r3
        have HAd : Hid (∀ V, Calls Tryz.prog 36 #[.int .u8 (x.n : Nat), .int .u8 (y.n : Nat)] V fun e w' => e = .returned (.int .u8 (z.n : Nat)) ∧ V = w') := Lib.hid fun V => by
         have h := GF.add_calls x.n y.n x.h y.h V
         rw [show x.n ^^^ y.n = z.n by rw [← hxyz]; rfl] at h
         exact h
        have HV6 : Hid (wr.drew.cell? ⟨b1, o1 + j, none⟩ = some (.slice (some ⟨x1, y1, none⟩) an d1) ∧ wr.drew.cell? ⟨b2, o2 + j, none⟩ = some (.slice (some ⟨x2, y2, none⟩) an d2) ∧ wr.drew.cell? ⟨b3, o3 + j, none⟩ = some (.slice (some ⟨x3, y3, none⟩) an d3) ∧ wr.drew.cell? ⟨x1, y1 + l, none⟩ = some (.int .u8 (x.n : Int)) ∧ wr.drew.cell? ⟨x2, y2 + l, none⟩ = some (.int .u8 (y.n : Int)) ∧ wr.drew.cell? ⟨x3, y3 + l, none⟩ = some (.int .u8 (z.n : Int))) := Lib.hid ⟨q1, q2, q3, r1, r2, r3⟩
        have HW4 := Lib.hid HW3.out.drew
        have hzz : ((z.n : Int) != (z.n : Int)) = false := by simp
        clear q2 q3 r1 r2 r3 hx hy hz hxyz HW3
        go_wp2_with fail
        go_region_held (fun V => V.cell? ⟨b1, o1 + j, none⟩ = some (.slice (some ⟨x1, y1, none⟩) an d1) ∧ V.cell? ⟨b2, o2 + j, none⟩ = some (.slice (some ⟨x2, y2, none⟩) an d2) ∧ V.cell? ⟨b3, o3 + j, none⟩ = some (.slice (some ⟨x3, y3, none⟩) an d3) ∧ V.cell? ⟨x1, y1 + l, none⟩ = some (.int .u8 (x.n : Int)) ∧ V.cell? ⟨x2, y2 + l, none⟩ = some (.int .u8 (y.n : Int)) ∧ V.cell? ⟨x3, y3 + l, none⟩ = some (.int .u8 (z.n : Int))) (with_reducible exact HV6.out)
         ((go_at_call 36; (with_reducible refine (HAd.out _).mono ?_); rintro e9 w9 ⟨rfl, rfl⟩))
        all_goals
         clear q1
         go_wp2
         go_roundw
         case rel => exact ⟨l + 1, by omega, by go_num, HW4⟩
         case measure => simp [intOf]; omega
       ·have hla2 : l = an := by omega
        have hli : ¬ ((l : Int) < (an : Int)) := by omega
        have HW5 := Lib.hid (HW2.out.trans (HW3.out.mono HW2.out.size))
        clear q2 q3 hla2 HW3
        go_wp2_with fail
        go_roundw
        case rel => exact ⟨j + 1, by omega, by go_num, by rw [HA2.out], HW5⟩
        case measure => simp [intOf]; omega
    ·have hje : j = sn := by omega
     have hji : ¬ ((j : Int) < (sn : Int)) := by omega
     have hSm := same_calls A4 A6 mx my mb mb c4 c6 wr HMl.out HYl.out (HX10.out.below HW.out).by_ (HY10.out.below HW.out).by_
     have HBl := Lib.hid (HL10.out.bel.trans (HW.out.mono HL10.out.bel.size))
     obtain ⟨al, hal⟩ : ∃ al, alike Fx Fy j = al := ⟨_, rfl⟩
     have HAq := Lib.hid HAk.out
     rw [← hje, hal] at HAq
     rw [hal]
     by_cases hsm : mx = my
     ·rw [decide_eq_true hsm] at hSm
      have HSm := Lib.hid hSm
      clear hSm hsm hje hal
      go_wp2_with (first
       | (go_at_call 25; (with_reducible refine HSm.out.mono ?_); rintro e9 w9 ⟨rfl, rfl⟩)
       | (go_at_call 13; (with_reducible refine (works_calls PS Z _).mono ?_); rintro e wz ⟨rfl, HZ⟩))
      go_ret
      exact ⟨rfl, HBl.out.trans (HZ.mono HBl.out.size)⟩
     ·rw [decide_eq_false hsm] at hSm
      have HSm := Lib.hid hSm
      have hak : (al : Int) < (kn : Int) := by
       have : ¬ kn ≤ al := fun h => hsm (HAq.out h)
       omega
      clear hSm hsm hje hal
      go_wp2_with (first
       | (go_at_call 25; (with_reducible refine HSm.out.mono ?_); rintro e9 w9 ⟨rfl, rfl⟩)
       | (go_at_call 13; (with_reducible refine (works_calls PS Z _).mono ?_); rintro e wz ⟨rfl, HZ⟩))
      go_ret
      exact ⟨rfl, HBl.out.trans (HZ.mono HBl.out.size)⟩
theorem walk (PS : Poly.Spec) (Z : Wl.Spec) (w : World) (n0 : Int) (hl0 : -9223372036854775808 ≤ n0) (hn0 : n0 < 9223372036854775808) (n1 : Int) (hl1 : -9223372036854775808 ≤ n1) (hn1 : n1 < 9223372036854775808) (n2 : Int) (hl2 : -9223372036854775808 ≤ n2) (hn2 : n2 < 9223372036854775808) (A3 : Option Addr) (l3 : List Nat) (c3 : Nat) (hb3 : Bytes w A3 l3) (_ : l3.length ≤ c3) (_ : c3 ≤ 9223372036854775807) (A4 : Option Addr) (l4 : List Nat) (c4 : Nat) (hb4 : Bytes w A4 l4) (_ : l4.length ≤ c4) (_ : c4 ≤ 9223372036854775807) :
  Calls Tryz.prog 10 #[.int .i64 n0, .int .i64 n1, .int .i64 n2, .slice A3 l3.length c3, .slice A4 l4.length c4] w fun e w' => e = .returned (.bool true) ∧ Below w.heap.size w w' := by
 obtain ⟨q, rfl⟩ := F8.of_bytes l3 hb3.lt
 obtain ⟨r, rfl⟩ := F8.of_bytes l4 hb4.lt
 exact core PS Z w n0 n1 n2 hl0 hn0 hl1 hn1 hl2 hn2 A3 q _ c3 (bs_length q).symm hb3 A4 r _ c4 (bs_length r).symm hb4
end Go.Proofs.YtimcmdnlhallmaaGreat.msrAdds

namespace Go.Proofs.YtimcmdnlhallmaaGreat.msrAdds
open Go.ChangeShapes Go.WideShapes Go.ChangeAt Go.RowKit
open Go.ChangeMaps (open_string shut_string)
set_option linter.unusedVariables false
theorem own : ownKnob Tryz.prog.godebug = none := by kernel_rfl
theorem laidOut : laidOutB Tryz.prog = true := by kernel_rfl
set_option maxRecDepth 100000 in
theorem contract (H : Type) (enc : TypeId × Value → H) (W : World) (base : Nat) (args : Array Value) (ds gs : List (DataW H)) (before : List MemPlace)
  (hval : ∀ (j : Nat) t v, Tryz.f10.params[j]? = some t → args[j]? = some v → Value.okWide Tryz.prog W .any base t v)
  (hW : DataW.Whole enc Tryz.prog Tryz.f10.params.toList Rows.msrAddsSpec.vars false W args.toList ds gs before)
  (hsz : (DataW.weightsEach Tryz.prog (Tryz.f10.params.toList ++ Rows.msrAddsSpec.plain.varTypes Tryz.prog) (ds ++ gs)).all (· ≤ reachBytes) = true) :
  Calls Tryz.prog 10 args W fun e W' => ∃ v, e = .returned v ∧ Rows.msrAddsSpec.post enc Tryz.prog Tryz.f10 false true false false W args v W' := by
 have hW' := hW
 obtain ⟨p, q, hA0, hV, rfl, hfz, hnd⟩ := hW
 have hA : DataW.TrodAll enc Tryz.prog W 0 (fun _ => true) true Tryz.f10.params.toList args.toList ds p := hA0
 rw [Tryz.params10] at hA hval hsz
 obtain ⟨v0, vs0, d0, ds0, p0, q0, hargs, rfl, rfl, h0, r0⟩ := trodAll_cons hA
 obtain ⟨v1, vs1, d1, ds1, p1, q1, rfl, rfl, rfl, h1, r1⟩ := trodAll_cons r0
 obtain ⟨v2, vs2, d2, ds2, p2, q2, rfl, rfl, rfl, h2, r2⟩ := trodAll_cons r1
 obtain ⟨v3, vs3, d3, ds3, p3, q3, rfl, rfl, rfl, h3, r3⟩ := trodAll_cons r2
 obtain ⟨v4, vs4, d4, ds4, p4, q4, rfl, rfl, rfl, h4, r4⟩ := trodAll_cons r3
 obtain ⟨rfl, rfl, rfl⟩ := trodAll_nil r4
 obtain rfl : args = #[v0, v1, v2, v3, v4] := by cases args; simp_all
 obtain ⟨rfl, rfl⟩ := trodVars_none hV
 obtain ⟨n0, rfl, rfl, rfl, w0⟩ := open_int Tryz.underlying3 (hval 0 3 v0 rfl rfl) h0
 have b0 := wf_bounds_i64 w0
 obtain ⟨n1, rfl, rfl, rfl, w1⟩ := open_int Tryz.underlying3 (hval 1 3 v1 rfl rfl) h1
 have b1 := wf_bounds_i64 w1
 obtain ⟨n2, rfl, rfl, rfl, w2⟩ := open_int Tryz.underlying3 (hval 2 3 v2 rfl rfl) h2
 have b2 := wf_bounds_i64 w2
 obtain ⟨A3, len3, c3, rfl⟩ := okWide_slice Tryz.underlying34 (hval 3 34 v3 rfl rfl)
 have k3 := h3
 have lt3 : ∀ x ∈ p3, x.block < W.heap.size := by obtain ⟨m, hm⟩ := k3; exact DataW.trod_lt m _ _ _ hm
 obtain ⟨l3, rfl, hb3, hc3, hm3⟩ : ∃ l : List Nat, len3 = l.length ∧ Bytes W A3 l ∧ l.length ≤ c3 ∧ c3 ≤ 9223372036854775807 := by
  obtain ⟨fuel, hf⟩ := h3
  rcases open_ints Tryz.underlying34 Tryz.underlying5 (by kernel_rfl) hf with ⟨hcs, _⟩ | ⟨x, l, c, zs, hcs, _, hl, hm, hz, _, hcell, hwz⟩
  ·simp [Value.cells] at hcs
   obtain ⟨rfl, rfl, rfl⟩ := hcs
   exact ⟨[], rfl, Bytes.nil _ _, by simp, by simp⟩
  ·simp [Value.cells] at hcs
   obtain ⟨rfl, rfl, rfl⟩ := hcs
   obtain ⟨h1, h2⟩ := bytes_of hl (by simpa using hz) hcell hwz
   exact ⟨_, h2.symm, h1, by rw [h2]; exact hl, by have h := hm; simp only [maxLen] at h; omega⟩
 obtain ⟨A4, len4, c4, rfl⟩ := okWide_slice Tryz.underlying34 (hval 4 34 v4 rfl rfl)
 have k4 := h4
 have lt4 : ∀ x ∈ p4, x.block < W.heap.size := by obtain ⟨m, hm⟩ := k4; exact DataW.trod_lt m _ _ _ hm
 obtain ⟨l4, rfl, hb4, hc4, hm4⟩ : ∃ l : List Nat, len4 = l.length ∧ Bytes W A4 l ∧ l.length ≤ c4 ∧ c4 ≤ 9223372036854775807 := by
  obtain ⟨fuel, hf⟩ := h4
  rcases open_ints Tryz.underlying34 Tryz.underlying5 (by kernel_rfl) hf with ⟨hcs, _⟩ | ⟨x, l, c, zs, hcs, _, hl, hm, hz, _, hcell, hwz⟩
  ·simp [Value.cells] at hcs
   obtain ⟨rfl, rfl, rfl⟩ := hcs
   exact ⟨[], rfl, Bytes.nil _ _, by simp, by simp⟩
  ·simp [Value.cells] at hcs
   obtain ⟨rfl, rfl, rfl⟩ := hcs
   obtain ⟨h1, h2⟩ := bytes_of hl (by simpa using hz) hcell hwz
   exact ⟨_, h2.symm, h1, by rw [h2]; exact hl, by have h := hm; simp only [maxLen] at h; omega⟩
 clear hA0
 refine (walk Poly.spec (Wl.spec Poly.spec) W n0 b0.1 b0.2 n1 b1.1 b1.2 n2 b2.1 b2.2 A3 l3 c3 hb3 hc3 hm3 A4 l4 c4 hb4 hc4 hm4 ).mono fun e W' ⟨he, bel⟩ => ?_
 subst he
 exact ⟨_, rfl, _, _, _, [], _, [], hW', trodAll_mk1 (shut_bool Tryz.underlying4 _), (trodAll_cons_mk (shut_int Tryz.underlying3 w0) (trodAll_cons_mk (shut_int Tryz.underlying3 w1) (trodAll_cons_mk (shut_int Tryz.underlying3 w2) (trodAll_cons_mk (Below.trod laidOut (by kernel_rfl) (of_decide_eq_true (by kernel_rfl)) k3 bel lt3) (trodAll_cons_mk (Below.trod laidOut (by kernel_rfl) (of_decide_eq_true (by kernel_rfl)) k4 bel lt4) trodAll_mk0))))), rfl, bel.frame _, fun h => by cases h⟩
set_option maxRecDepth 100000 in
theorem lifted (os : Os) (started : os.Started) (H : Type) (enc : TypeId × Value → H) :
  ReturnsInHanded {} Tryz.checked os 10 .any (Rows.msrAddsSpec.pre6 enc Tryz.prog Tryz.f10 Rows.msrAddsRow.domain false) (Rows.msrAddsSpec.post enc Tryz.prog Tryz.f10 false true false false) := by
 refine returnsInHanded_of_change_sized (C := Tryz.checked) own started (by kernel_rfl) Tryz.func10
  (ChangeSpec.witness6 (enc := enc) (C := Tryz.checked) false ⟨#[], #[.int .i64 0, .int .i64 0, .int .i64 0, .slice none 0 0, .slice none 0 0], []⟩ 8 (by kernel_rfl) (by kernel_rfl) (by kernel_rfl) (by kernel_rfl)) ?_
 intro W base args ds gs before hval hW _ hsz _
 exact contract H enc W base args ds gs before hval hW hsz
theorem proved : Rows.MsrAddsSaid :=
 OpenClaim.holds_of_wide 10 Tryz.f10 rfl rfl rfl rfl rfl rfl rfl ⟨rfl, rfl, rfl, rfl, rfl⟩ rfl rfl rfl rfl rfl (by kernel_rfl) Tryz.func10 (by kernel_rfl)
  (of_decide_eq_true (by kernel_rfl)) (by unfold Func.isWrapper; first | (rw [if_pos (by decide +kernel)]; kernel_rfl) | (rw [if_neg (by decide +kernel)]; exact ⟨rfl, rfl⟩))
  (fun os started H enc _ => lifted os started H enc)
end Go.Proofs.YtimcmdnlhallmaaGreat.msrAdds
