/- Of the program, joined: MsCodeF, MsCodeG. -/
import Derived.Test.YtjoghbmedfmioaaGreatPb20
import Derived.WalkMore
import Derived.Deep.RegionHeld
namespace Go.Proofs.YtjoghbmedfmioaaGreat.Ms
open Go.RowKit Go.Shelf F8 Poly GF Rd
attribute [local go_sem] Oper.semAt_some
def accA (acc : Nat → Nat) : Array Value := (accV acc).toArray
theorem accA_get {acc : Nat → Nat} {p : Nat} (hp : p < 255) : (accA acc)[p]? = some (.int .i64 (acc p : Int)) := by simp [accA, accV, hp]
theorem zero_acc (w : World) : (zeroValue 171).run Tryz.prog w = .ok (.agg (accA fun _ => 0)) w := by kernel_rfl
theorem accA_set {acc : Nat → Nat} (p x : Nat) : (accA acc).setIfInBounds p (.int .i64 (x : Int)) = accA (setAcc acc p x) := by
 apply Array.ext
 ·simp [accA, accV]
 ·intro i h1 h2
  rw [Array.getElem_setIfInBounds]
  ·simp only [accA, accV, List.getElem_toArray, List.getElem_map, List.getElem_range, setAcc]
   by_cases e : p = i
   ·subst e; simp
   ·rw [if_neg e, if_neg (fun h => e h.symm)]
  ·simpa [accA, accV] using h1
structure Sr (S : Co) (w : World) (acc : Nat → Nat) (V : World) : Prop where
 kp : Kp S w V
 bk : Block V w.heap.size 171 (accA acc)
section
variable {S : Co} {w V V' : World} {acc : Nat → Nat}
theorem Sr.bel (h : Sr S w acc V) (hb : Below V.heap.size V V') : Sr S w acc V' := ⟨h.kp.below hb, h.bk.below hb h.bk.lt⟩
theorem Sr.past (H : S.Ok w) (h : Sr S w acc V) (hf : FldP V' (some ⟨S.g, 0, none⟩)) (hp : Past V.heap.size S.g V V') : Sr S w acc V' := ⟨h.kp.go hf hp, h.bk.past hp h.bk.lt (by have := H.fld.fld.lt; omega)⟩
theorem Sr.grown (H : S.Ok w) (h : Sr S w acc V) {B n : Nat} {t : TypeId} {v : Value} {xs : List Value} (ho : OwnK 1 V B t v n xs) (hB : w.heap.size < B) (hV : B ≤ V.heap.size) (hg : V.grownBy V' v.ownBlock) : Sr S w acc V' := by
 have hb := ho.grew hV hg
 exact ⟨Kp.later H h.kp (hb.mono (by omega)), h.bk.below hb hB⟩
theorem Sr.put (H : S.Ok w) (h : Sr S w acc V) (p x : Nat) : Sr S w (setAcc acc p x) (V.setCell ⟨w.heap.size, p, none⟩ (.int .i64 (x : Int))) := by
 refine ⟨Kp.later H h.kp ((Below.refl _ V).setCell (p := ⟨w.heap.size, p, none⟩) (Nat.le_refl _) _), ?_⟩
 have := h.bk.set_ p (.int .i64 (x : Int))
 rw [accA_set] at this
 exact this
theorem Sr.row (h : Sr S w acc V) : Row V (some ⟨w.heap.size, 0, none⟩) (accV acc) := by
 have := Row.all h.bk
 exact this
end
theorem ownK1 {w : World} {B n : Nat} {e : TypeId} {v : Value} {xs : List Value} (h : Own w B e v xs) (hn : xs.length = n) : OwnK 1 w B e v n xs := by subst hn; exact h
theorem own_keepK {w w' : World} {g B n : Nat} {e : TypeId} {v : Value} {xs : List Value} (h : OwnK 1 w B e v n xs) (hne : e ≠ 81) (hf : Fld w g) (hp : Past w.heap.size g w w') : OwnK 1 w' B e v n xs := by
 obtain ⟨h1, h2⟩ := own1_of h
 exact ownK1 (Mat.own_keep h1 hne hf hp) h2
def SPost (S : Co) (w : World) (sh : List (Int × List F8)) (T : Nat) (e : Ending) (w' : World) : Prop := ∃ ms wl z, DIs S.xs S.n S.k S.a S.v sh T ms wl z ∧ Wl.WRes S.g w ms wl z e w'
theorem okl_len {xs : List F8} {a : Nat} {L : List (Nat × List F8)} (h : OkL xs a L) : L.length ≤ xs.length := by
 have := Wl.sub_le h.nd (r := List.range xs.length) fun x hx => by
  obtain ⟨o, ho, rfl⟩ := List.mem_map.1 hx
  exact List.mem_range.2 (h.lt o ho)
 rwa [List.length_map, List.length_range] at this
def Inv (S : Co) (sh : List (Int × List F8)) (T i : Nat) (acc : Nat → Nat) : Prop :=
 (∀ p, acc p ≤ T + 1 + i) ∧ ∀ M N, Cw S.xs S.a S.v M N → (((vir S.v S.a ++ told S.v sh).filter fun u => !rt S.xs S.a M N u).length) ≤ T → SInv S.xs S.a M N (vir S.v S.a ++ told S.v sh) T i acc
section
variable {S : Co} {w : World} {sh : List (Int × List F8)} {T i p : Nat} {acc : Nat → Nat} {L : List (Nat × List F8)} {os msg : List F8} {wl : List Int} {z : Int}
theorem wis_zero {xs : List F8} {k : Nat} {pl : List Int} {ys m : List F8} {t : Int} (hok : OkP xs.length pl) (h : Wl.WIs xs k pl ys t m wl 0) : wl.Nodup := by
 rcases h with ⟨_, _, _, h⟩ | ⟨_, _, _, _, h⟩ | ⟨_, _, _, _, _, rfl⟩ | ⟨_, _, h, _⟩
 ·cases h
 ·cases h
 ·exact sorted_nodup (Wl.wrong_sorted hok)
 ·cases h
theorem inv_lost (H : S.Ok w) (hL : vir S.v S.a ++ told S.v sh = L) (hok : OkL S.xs S.a L) (hm : S.a + 1 + 2 * T ≤ L.length) (hone : L[i]? = some (p, os)) (hV : Inv S sh T i acc)
  (hW : Wl.WIs S.xs S.a (plI (wo L (sureL acc T ++ [(p : Int)]))) (vals S.a S.xs (p, os) (wo L (sureL acc T ++ [(p : Int)]))) ((T : Int) - ((sureL acc T).length : Nat)) msg wl z) (hz : z ≠ 0) : Inv S sh T (i + 1) (setAcc acc p (T + 1)) := by
 obtain ⟨hi, he⟩ := List.getElem?_eq_some_iff.1 hone
 refine ⟨fun q => ?_, fun M N hc hw => ?_⟩
 ·have := hV.1 q
  unfold setAcc; split <;> omega
 ·have h := hV.2 M N hc hw
  rw [hL] at h hw ⊢
  have h2 := h.next_lost hok hi (by
   cases hb : rt S.xs S.a M N L[i] with
   | false => rfl
   | true =>
    rw [he] at hb
    exact absurd (h.row H.par.P hok hc.sm hc.sn hw hm (he ▸ List.getElem_mem hi) hb hW).1 hz)
  rw [he] at h2
  exact h2
theorem inv_next (H : S.Ok w) (hA : ArgOk S.n S.a sh T) (hk : S.k + 2 * (T : Int) ≤ (sh.length : Int)) (hL : vir S.v S.a ++ told S.v sh = L) (hok : OkL S.xs S.a L) (hm : S.a + 1 + 2 * T ≤ L.length) (hone : L[i]? = some (p, os)) (hV : Inv S sh T i acc)
  (hW : Wl.WIs S.xs S.a (plI (wo L (sureL acc T ++ [(p : Int)]))) (vals S.a S.xs (p, os) (wo L (sureL acc T ++ [(p : Int)]))) ((T : Int) - ((sureL acc T).length : Nat)) msg wl 0) {ms : List F8} {wl2 : List Int} (hM : MsgIs S.xs S.k S.a S.v L (sureL acc T ++ wl) T ms wl2 false) : Inv S sh T (i + 1) (addAcc acc wl) := by
 obtain ⟨hi, he⟩ := List.getElem?_eq_some_iff.1 hone
 have hn := H.nums
 have hok2 := (others_ok hok (p, os) (sureL acc T)).1
 have hnd := wis_zero hok2.okP hW
 refine ⟨fun q => ?_, fun M N hc hw => ?_⟩
 ·have := hV.1 q
  have := addAcc_le acc wl q
  omega
 ·have h := hV.2 M N hc hw
  rw [hL] at h hw ⊢
  cases hb : rt S.xs S.a M N L[i] with
  | true =>
   have hb' := hb
   rw [he] at hb'
   obtain ⟨-, hwl⟩ := h.row H.par.P hok hc.sm hc.sn hw hm (he ▸ List.getElem_mem hi) hb' hW
   refine h.next_right hok hi hb ?_ (by rw [he]; exact hwl)
   rcases Nat.lt_or_ge ((L.take i).filter (rt S.xs S.a M N)).length (S.a + T) with hlt | hge
   ·exact hlt
   ·exfalso
    subst hL
    have h1 : ∀ q ∈ sureL acc T ++ wl, ∃ o ∈ vir S.v S.a ++ told S.v sh, (o.1 : Int) = q ∧ rt S.xs S.a M N o = false := fun q hq => by
     rcases List.mem_append.1 hq with hq | hq
     ·exact h.sure hw hq
     ·obtain ⟨o, ho, e, _, her⟩ := (hwl q).1 hq
      exact ⟨o, ho, e, er_rt her⟩
    have hndA : (sureL acc T ++ wl).Nodup := List.nodup_append.2 ⟨sure_nodup _ _, hnd, fun a ha b hb e => by
     obtain ⟨o, ho, e2, hns, _⟩ := (hwl b).1 hb
     exact hns (e ▸ ha)⟩
    have hlen := wrong_places hndA h1
    have := MsgIs.good H.par hA hk hM hc (by omega) h1 (fun o ho hf => List.mem_append_left _ (h.all_sure H.par.P hok (by rw [H.len]; omega) hn.1 hge ho hf)) hw
    cases this
  | false =>
   refine h.next_wrong hi hb fun q hq => ?_
   have h1 := wis_wl hok2.okP hW q hq
   obtain ⟨o, ho, e⟩ := List.mem_map.1 h1
   exact ⟨o, (mem_wo.1 ho).1, e⟩
theorem addAcc_step (hn : wl.Nodup) {j q : Nat} (hj : j < wl.length) (hq : wl[j] = (q : Int)) : setAcc (addAcc acc (wl.take j)) q (addAcc acc (wl.take j) q + 1) = addAcc acc (wl.take (j + 1)) := by
 funext r
 have hnot : (q : Int) ∉ wl.take j := fun hm => by
  obtain ⟨k, hk, e⟩ := List.mem_take_iff_getElem.1 hm
  have := (List.getElem_inj hn).1 (e.trans hq.symm)
  omega
 unfold setAcc addAcc
 rw [take_succ' wl hj, hq]
 by_cases e : r = q
 ·subst e
  rw [if_pos rfl, if_neg hnot, if_pos (by simp)]
 ·rw [if_neg e]
  have : ((r : Int) ∈ wl.take j ++ [(q : Int)]) ↔ (r : Int) ∈ wl.take j := by
   simp only [List.mem_append, List.mem_singleton]
   constructor
   ·rintro (h | h)
    ·exact h
    ·omega
   ·exact .inl
  by_cases h : (r : Int) ∈ wl.take j
  ·rw [if_pos h, if_pos (this.2 h)]
  ·rw [if_neg h, if_neg (fun x => h (this.1 x))]
end
attribute [-go_sem] Builtin.append_
set_option maxRecDepth 100000 in
set_option maxHeartbeats 16000000 in
theorem search_calls (PS : Poly.Spec) (Z : Wl.Spec) {S : Co} {w : World} (h : S.Ok w) (sh : List (Int × List F8)) (T : Nat) (hA : ArgOk S.n S.a sh T) (hk : S.k + 2 * (T : Int) ≤ (sh.length : Int)) (A : Option Addr) (l : List El) (m c : Nat) (hl : l.length = m) (hc : m ≤ c) (hE : Els S.g w A l) (hI : Is l (vir S.v S.a ++ told S.v sh)) :
  Calls Tryz.prog 64 #[.pointer (some ⟨S.b, 0, none⟩), .slice A m c, .int .i64 (T : Nat)] w (SPost S w sh T) := by
 have hmx : Tryz.prog.follows .mixedOrders = true := by kernel_rfl
 have hn := h.nums
 obtain ⟨L, hLL⟩ : ∃ L, vir S.v S.a ++ told S.v sh = L := ⟨_, rfl⟩
 have hok := okl_all h.par hA
 rw [hLL] at hok hI
 have hLm : L.length = m := by rw [← hI.length, hl]
 have hLs : L.length = S.v + sh.length := by rw [← hLL, List.length_append, vir_length, told_length]
 have hm255 : m ≤ 255 := by have := okl_len hok; rw [h.len] at this; omega
 have hT : T ≤ 127 := by omega
 have hmT : S.a + 1 + 2 * T ≤ m := by omega
 have HZ := Lib.hid zero_acc
 have H := Lib.hid h
 have HE := Lib.hid hE
 have HI := Lib.hid hI
 have HL := Lib.hid hok
 have HM := Lib.hid hl
 have HLm := Lib.hid hLm
 have HN := Lib.hid hn
 have HLL := Lib.hid hLL
 have HA := Lib.hid hA
 have HK := Lib.hid hk
 have hz := zero_acc
 have HS0 : Hid (Sr S w (fun _ => 0) (w.alloc (.cells (accA fun _ => 0) 171))) := Lib.hid ⟨(Kp.start h).alloc _, Block.new w _ _⟩
 have HV0 : Hid (Inv S sh T 0 fun _ => 0) := Lib.hid ⟨fun _ => Nat.zero_le _, fun M N _ _ => SInv.start _ _ _ _ _ _⟩
 clear h hE hI hok hl hLm hn hLL hA hk hLs
 go_enter Tryz.func64, Tryz.ntmps64
 go_wp2_with fail
 go_step3
 go_wp2_with fail
 go_step3
 go_wp2_with fail
 go_loopw [23] (fun iv wr => ∃ (i : Nat) (acc : Nat → Nat), i ≤ m ∧ iv = .int .i64 i ∧ Hid (Sr S w acc wr) ∧ Hid (Inv S sh T i acc)) (fun iv _ => m - (intOf iv).toNat)
 case atStart => exact ⟨0, fun _ => 0, by omega, rfl, HS0, HV0⟩
 case round =>
  clear HS0 HV0
  obtain ⟨i, acc, hi, rfl, HSr, HV⟩ := hrel
  by_cases him : i < m
  ·have hti : i < l.length := by rw [HM.out]; exact him
   have htL : i < L.length := by rw [HLm.out]; exact him
   obtain ⟨b, off, rfl, hc0, hc1⟩ := row2_at (HE.out.past H.out.fld.fld HSr.out.kp.past).row hti
   obtain ⟨hup, hus⟩ := HI.out.get hti htL
   have hmem := List.getElem_mem htL
   have hplt := HL.out.lt _ hmem
   have hpln := HL.out.len _ hmem
   rw [H.out.len] at hplt
   have hnum := HN.out
   have hbl := HE.out.lst _ (List.getElem_mem hti)
   obtain ⟨one, hone⟩ : ∃ o, L[i] = o := ⟨_, rfl⟩
   have HOne : Hid (L[i]? = some one) := Lib.hid (by rw [List.getElem?_eq_getElem htL, hone])
   rw [hone] at hup hus hmem hplt hpln
   obtain ⟨p, os⟩ := one
   rw [hus] at hc1 hbl
   rw [hup] at hc0
   obtain ⟨uA, h1⟩ : ∃ x, (l[i]).A = x := ⟨_, rfl⟩
   obtain ⟨uc, h3⟩ : ∃ x, (l[i]).c = x := ⟨_, rfl⟩
   rw [h1, h3] at hc1 hbl
   simp only at hplt hpln hc0 hc1 hbl
   obtain ⟨un, h4⟩ : ∃ x, os.length = x := ⟨_, rfl⟩
   rw [h4] at hc1 hbl hpln
   have HOs := Lib.hid h4
   have HBl := Lib.hid hbl
   have hp255 : p < 255 := by omega
   have HPx := Lib.hid hplt
   have HUn := Lib.hid hpln
   have hsz := HSr.out.kp.size
   have HS1 := Lib.hid (HSr.out.bel ((Below.refl _ wr).alloc (Nat.le_refl _) (.cells #[.int .i64 (p : Int), .slice uA un uc] 115)))
   have hv0 := (Block.new wr 115 #[.int .i64 (p : Int), .slice uA un uc]).cell 0
   have hv1 := (Block.new wr 115 #[.int .i64 (p : Int), .slice uA un uc]).cell 1
   have HBk := Lib.hid (Block.new wr 115 #[.int .i64 (p : Int), .slice uA un uc])
   have HAb := Lib.hid (above_calls (some ⟨w.heap.size, 0, none⟩) acc 255 T (wr.alloc (.cells #[.int .i64 (p : Int), .slice uA un uc] 115)) HS1.out.row (fun p => by have := HV.out.1 p; omega))
   obtain ⟨SL, hSL⟩ : ∃ SL, sureL acc T = SL := ⟨_, rfl⟩
   obtain ⟨sn, hsn⟩ : ∃ sn, SL.length = sn := ⟨_, rfl⟩
   have hsn255 : sn ≤ 255 := by
    rw [← hsn, ← hSL]; exact sureTo_length acc T 255
   rw [hSL, hsn] at HAb
   have HSL := Lib.hid hSL
   have HSn := Lib.hid hsn
   clear hti htL hup hus hmem hplt hpln hnum hbl hone h1 h3 h4 hSL hsn HSr
   go_wp2_with fail
   refine HAb.out.mono ?_
   rintro e w2 ⟨Bs, ds, rfl, hds, hO2, hb2⟩
   have HS2 := Lib.hid (HS1.out.bel hb2)
   have HB2 := Lib.hid (HBk.out.below hb2 (by simp))
   rw [World.size_alloc] at hO2
   have HO2 := Lib.hid hO2
   have HMb := Lib.hid (mayBeWrong_calls HS2.out.kp.ok Bs SL sn ds T HSn.out (by omega) (Mat.Own.row' hO2))
   have hz2 := hb2.size
   rw [World.size_alloc] at hz2
   clear hO2 hb2 hv0 hv1 hds HAb HS1 HBk
   go_wp2_with fail
   refine HMb.out.mono ?_
   rintro e w3 ⟨rfl, hb3⟩
   by_cases hmay : May S.v SL T
   ·rw [decide_eq_true hmay]
    have HMay := Lib.hid hmay
    have HS3 := Lib.hid (HS2.out.bel hb3)
    have HB3 := Lib.hid (HB2.out.below hb3 (by omega))
    have HO3 := Lib.hid (HO2.out.below hb3)
    have hz3 := hb3.size
    clear hmay hb3 HS2 HB2 HO2 HMb
    obtain ⟨v5, w5, hrun, hO5, hO5s, hg5⟩ := run_app_keep (w3.alloc (.cells #[.int .i64 (p : Int)] 3)).drew (wr.heap.size + 1) (by show wr.heap.size + 1 ≤ (w3.alloc (.cells #[.int .i64 (p : Int)] 3)).heap.size; rw [World.size_alloc]; omega) (.slice Bs sn ds) sn (zs SL) (ownK1 (HO3.out.alloc (.cells #[.int .i64 (p : Int)] 3)).drew (by rw [zs_length, HSn.out])) (by omega) ⟨w3.heap.size, 0, none⟩ 1 (.int .i64 (p : Int)) rfl ((Block.new w3 3 #[.int .i64 (p : Int)]).cell 0)
    have hb5 : Below (wr.heap.size + 1) (w3.alloc (.cells #[.int .i64 (p : Int)] 3)).drew w5 := OwnK.grew (ownK1 (HO3.out.alloc (.cells #[.int .i64 (p : Int)] 3)).drew (by rw [zs_length, HSn.out])) (by show wr.heap.size + 1 ≤ (w3.alloc (.cells #[.int .i64 (p : Int)] 3)).heap.size; rw [World.size_alloc]; omega) hg5
    have hs4 := HS3.out.bel ((Below.refl _ _).alloc (Nat.le_refl _) (.cells #[.int .i64 (p : Int)] 3))
    have hs4d := hs4.bel (Below.refl _ _).drew
    have HS5 := Lib.hid (hs4d.grown H.out (ownK1 (HO3.out.alloc (.cells #[.int .i64 (p : Int)] 3)).drew (by rw [zs_length, HSn.out])) (by omega : w.heap.size < wr.heap.size + 1) (by show wr.heap.size + 1 ≤ (w3.alloc (.cells #[.int .i64 (p : Int)] 3)).heap.size; rw [World.size_alloc]; omega) hg5)
    have HB4 := Lib.hid (HB3.out.alloc (.cells #[.int .i64 (p : Int)] 3))
    have HB5 := Lib.hid (HB4.out.drew.below hb5 (by omega))
    have hz5 := hb5.size
    have hz5' : w3.heap.size + 1 ≤ w5.heap.size := by
     have : (w3.alloc (.cells #[.int .i64 (p : Int)] 3)).drew.heap.size = w3.heap.size + 1 := World.size_alloc _ _
     omega
    obtain ⟨P5, d5, rfl, hd5, hr5, -⟩ := hO5.shape
    have hps : zs SL ++ [.int .i64 (p : Int)] = zs (SL ++ [(p : Int)]) := by rw [zs_append]; rfl
    rw [hps] at hr5
    have HPn : Hid ((SL ++ [(p : Int)]).length = sn + 1) := Lib.hid (by rw [List.length_append, HSn.out]; rfl)
    have HWo := Lib.hid (without_calls (some ⟨b, off, none⟩) l m c P5 (SL ++ [(p : Int)]) (sn + 1) d5 w5 HM.out (by omega) (HE.out.past H.out.fld.fld HS5.out.kp.past).row HPn.out (by omega) hr5)
    obtain ⟨L2, hL2⟩ : ∃ L2, wo L (SL ++ [(p : Int)]) = L2 := ⟨_, rfl⟩
    have hmemL : (p, os) ∈ L := List.mem_of_getElem? HOne.out
    obtain ⟨hok2, hne2, hln2⟩ := others_ok HL.out (p, os) SL
    simp only at hok2 hne2 hln2
    rw [hL2] at hok2 hne2 hln2
    have HRowC : Hid (∀ V A6 c6, Sr S w acc V → Row V A6 (cells2 (kept l (SL ++ [(p : Int)]))) → Calls Tryz.prog 92 #[.pointer (some ⟨S.b, 0, none⟩), .agg #[.int .i64 (p : Nat), .slice uA un uc], .slice A6 (kept l (SL ++ [(p : Int)])).length c6, .int .i64 ((T : Int) - (sn : Int))] V fun e w' => ∃ msg wl z, Wl.WIs S.xs S.a (plI L2) (vals S.a S.xs (p, os) L2) ((T : Int) - (sn : Int)) msg wl z ∧ Wl.WRes S.g V msg wl z e w') := Lib.hid fun V A6 c6 hV hr6 => by
     have hIk : Is (kept l (SL ++ [(p : Int)])) L2 := hL2 ▸ kept_wo HI.out (SL ++ [(p : Int)])
     have hkl := kept_length l (SL ++ [(p : Int)])
     rw [HM.out] at hkl
     exact row_calls PS Z hV.kp.ok p uA os un uc HOs.out HUn.out HBl.out.2 (HBl.out.1.past hV.kp.past) HPx.out A6 _ _ c6 _ (by omega) (by omega) rfl (by omega) ⟨hr6, (HE.out.past H.out.fld.fld hV.kp.past).lst.sub fun e he => (List.mem_filter.1 he).1⟩ L2 hIk hok2 hne2
    have HL2 := Lib.hid hL2
    have HOk2 := Lib.hid hok2
    have HLn2 := Lib.hid hln2
    have HMem := Lib.hid hmemL
    have HO5s := Lib.hid hO5s
    have hws : IntKind.i64.wrap ((T : Int) - (sn : Int)) = (T : Int) - (sn : Int) := IntWalk.i64_in _ (by omega)
    have HX0 : Hid (w3.drew.cell? ⟨wr.heap.size, 0, none⟩ = some (.int .i64 (p : Int)) ∧ w3.drew.cell? ⟨wr.heap.size, 1, none⟩ = some (.slice uA un uc)) := Lib.hid ⟨HB3.out.drew.cell 0, HB3.out.drew.cell 1⟩
    have HX4 : Hid ((w3.alloc (.cells #[.int .i64 (p : Int)] 3)).drew.cell? ⟨wr.heap.size, 0, none⟩ = some (.int .i64 (p : Int)) ∧ (w3.alloc (.cells #[.int .i64 (p : Int)] 3)).drew.cell? ⟨wr.heap.size, 1, none⟩ = some (.slice uA un uc)) := Lib.hid ⟨HB4.out.drew.cell 0, HB4.out.drew.cell 1⟩
    have HX5 : Hid (w5.cell? ⟨wr.heap.size, 0, none⟩ = some (.int .i64 (p : Int)) ∧ w5.cell? ⟨wr.heap.size, 1, none⟩ = some (.slice uA un uc)) := Lib.hid ⟨HB5.out.cell 0, HB5.out.cell 1⟩
    clear hO5 hO5s hg5 hb5 hs4 hs4d hd5 hr5 hps hL2 hmemL hok2 hne2 hln2 HS3 HB3 HB4 HO3 hz2 hz3
    go_wp2_with fail
    go_region_held (fun V => V.cell? ⟨wr.heap.size, 0, none⟩ = some (.int .i64 (p : Int)) ∧ V.cell? ⟨wr.heap.size, 1, none⟩ = some (.slice uA un uc)) (first | (with_reducible exact HX0.out) | (with_reducible exact HX4.out) | (with_reducible exact HX5.out) | (with_reducible exact HX6.out) | (with_reducible exact HX7.out))
     ((first
      | (go_at_call 93; (with_reducible refine HWo.out.mono ?_); rintro e6 w6 ⟨v6, rfl, hO6, hb6⟩; obtain ⟨A6, c6, rfl, hc6, hr6, -⟩ := hO6.shape; have HS6 := Lib.hid (HS5.out.bel hb6); have HO6s := Lib.hid (OwnK.below HO5s.out hb6); have hO6b : Hid (∀ g, (Value.slice Bs sn ds).ownBlock = some g → g < w6.heap.size) := Lib.hid (fun g hg => (HO6s.out.lt g hg).2); have hb6x := HB5.out.below hb6 HB5.out.lt; have HX6 : Hid (w6.cell? ⟨wr.heap.size, 0, none⟩ = some (.int .i64 (p : Int)) ∧ w6.cell? ⟨wr.heap.size, 1, none⟩ = some (.slice uA un uc)) := Lib.hid ⟨hb6x.cell 0, hb6x.cell 1⟩; have HB6 := Lib.hid hb6x; have hz6 := hb6.size; have HRw := Lib.hid (HRowC.out w6 A6 c6 HS6.out hr6); clear hO6 hb6 hc6 hr6 hb6x)
      | (go_at_call 92; (with_reducible refine HRw.out.mono ?_); rintro e7 w7 ⟨msg, wl, z, hW, A7, c7, B7, d7, rfl, hc7, hd7, hO7m, hO7, hf7, hp7⟩; have HW := Lib.hid hW; have HS7 := Lib.hid (HS6.out.past H.out hf7 hp7); have HO7 := Lib.hid hO7; have HD7 := Lib.hid hd7; have HO7s := Lib.hid (own_keepK HO6s.out (by decide) HS6.out.kp.fld hp7); have hb7x := HB6.out.past hp7 HB6.out.lt (by have := H.out.fld.fld.lt; omega); have HX7 : Hid (w7.cell? ⟨wr.heap.size, 0, none⟩ = some (.int .i64 (p : Int)) ∧ w7.cell? ⟨wr.heap.size, 1, none⟩ = some (.slice uA un uc)) := Lib.hid ⟨hb7x.cell 0, hb7x.cell 1⟩; have HB7 := Lib.hid hb7x; have hz7 := hp7.size; clear hW hc7 hd7 hO7m hO7 hf7 hp7 hb7x)))
    clear HX0 HX4 HX5 HX6 HX7 HWo HRowC HRw hrun HPn
    by_cases hz0 : z = 0
    ·subst hz0
     obtain ⟨wn, hwn⟩ : ∃ wn, wl.length = wn := ⟨_, rfl⟩
     have hw0 := HW.out
     rw [← HL2.out, ← HSn.out, ← HSL.out] at hw0
     have hokp := (others_ok HL.out (p, os) (sureL acc T)).1
     have hnd := wis_zero hokp.okP hw0
     have hwr : ∀ x ∈ wl, ∃ q : Nat, x = (q : Int) ∧ q < 255 := fun x hx => by
      have h1 := wis_wl hokp.okP hw0 x hx
      obtain ⟨o, ho, e⟩ := List.mem_map.1 h1
      have h2 := hokp.lt o ho
      rw [H.out.len] at h2
      have := HN.out
      exact ⟨o.1, e.symm, by omega⟩
     have hwn255 : wn ≤ 255 := by
      rw [← hwn]
      have := Wl.sub_le hnd (r := (List.range 255).map fun q : Nat => (q : Int)) fun x hx => by
       obtain ⟨q, rfl, hq⟩ := hwr x hx
       exact List.mem_map.2 ⟨q, List.mem_range.2 hq, rfl⟩
      rwa [List.length_map, List.length_range] at this
     rw [hwn] at HD7 HO7 ⊢
     have HWn := Lib.hid hwn
     have HNd := Lib.hid hnd
     have HWr := Lib.hid hwr
     have HW0 := Lib.hid hw0
     obtain ⟨ho7, ho7n⟩ := own1_of HO7s.out
     have HO7p := Lib.hid ho7
     have hz6' := HB6.out.lt
     have HNl : Hid ((zs SL).length = sn) := Lib.hid (by rw [zs_length, HSn.out])
     have HZl : Hid ((zs wl).length = wn) := Lib.hid (by rw [zs_length, HWn.out])
     have HAp : Hid (Own w7 w6.heap.size 3 (.slice B7 wn d7) (zs wl)) := HO7
     have hvd : ∀ o ∈ L.drop S.v, S.v ≤ o.1 := fun o ho => by
      rw [← HLL.out, drop_vir] at ho
      obtain ⟨u, hu, rfl⟩ := List.mem_map.1 ho
      show S.v ≤ S.v + u.1.toNat
      omega
     have HVd := Lib.hid hvd
     clear hwn hw0 hokp hnd hwr ho7 ho7n hvd HW HO7
     go_wp2_with (at_builtin; refine wpList_app _ rfl _ _ _ rfl (wr.heap.size + 1) 3 _ 8 Tryz.underlying44 info_i rfl (by omega) _ _ rfl HO7p.out B7 wn d7 (zs wl) rfl HZl.out (Mat.Own.row' HAp.out) (zs_one _) (by rw [HNl.out]; omega) (by omega) ?_; rintro v8 w8 hown8 hg8 -)
     obtain ⟨P8, d8, rfl, hr8, -⟩ := hown8.form
     have HLen : Hid ((zs SL ++ zs wl).length = sn + wn) := Lib.hid (by rw [List.length_append, HNl.out, HZl.out])
     rw [HLen.out] at hown8 ⊢
     rw [← zs_append] at hr8
     have HS8 := Lib.hid (HS7.out.grown H.out (ownK1 HO7p.out HNl.out) (by omega : w.heap.size < wr.heap.size + 1) (by omega) hg8)
     have hap8 : Own w8 w6.heap.size 3 (.slice B7 wn d7) (zs wl) := HAp.out.grown hg8 (by
      cases hB7 : (Value.slice B7 wn d7).ownBlock with
      | none => exact .inl rfl
      | some g7 =>
       right
       intro e
       have h1 := (HAp.out.lt g7 hB7).1
       have h2 := (hO6b.out _ e.symm)
       omega)
     have HAp8 := Lib.hid hap8
     have HMsg := Lib.hid (message_calls PS Z HS8.out.kp.ok (some ⟨b, off, none⟩) l m c HM.out (by omega) hc (HE.out.past H.out.fld.fld HS8.out.kp.past) L HI.out HL.out HVd.out P8 (SL ++ wl) (sn + wn) d8 (by rw [List.length_append, HSn.out, HWn.out]) (by omega) hr8 T (by omega))
     clear hown8 hg8 hr8 hap8 HS7 HO7p HAp
     go_wp2_with fail
     refine HMsg.out.mono ?_
     rintro e w9 ⟨ms, wl2, ok, hMI, A9, c9, B9, d9, rfl, hc9, hd9, hO9m, hO9w, hf9, hp9⟩
     have hz8 := HS8.out.kp.size
     cases ok
     ·have HV3 : Hid (Inv S sh T (i + 1) (addAcc acc wl)) := Lib.hid (by
       rw [← HSL.out] at hMI
       exact inv_next H.out HA.out HK.out HLL.out HL.out (by rw [HLm.out]; omega) HOne.out HV.out HW0.out hMI)
      have HS9 := Lib.hid (HS8.out.past H.out hf9 hp9)
      have HAp9 := Lib.hid (Mat.own_keep HAp8.out (by decide) HS8.out.kp.fld hp9)
      have him2 : (i : Int) < (m : Int) := by omega
      have hd9i : decide ((i : Int) < (m : Int)) = true := by simp; omega
      clear hMI hc9 hd9 hO9m hO9w hf9 hp9 HMsg HS8 HAp8
      go_wp2_with fail
      obtain ⟨w6s, hw6⟩ : ∃ x, w6.heap.size = x := ⟨_, rfl⟩
      have hw6x : w.heap.size < w6s := by omega
      rw [hw6] at HAp9
      have HBd : Hid (∀ q, addAcc acc wl q ≤ 400) := Lib.hid fun q => by have := HV3.out.1 q; omega
      have HBa : Hid (∀ q, acc q ≤ 400) := Lib.hid fun q => by have := HV.out.1 q; omega
      clear hw6 hz6' hz5 hz5' hz6 hz7 hz8 hsz HB7 HB6 HB5 HS5 HS6 HV
      go_loopw [76] (fun iv wv => ∃ j : Nat, j ≤ wn ∧ iv = .int .i64 j ∧ Hid (Sr S w (addAcc acc (wl.take j)) wv) ∧ Hid (Own wv w6s 3 (.slice B7 wn d7) (zs wl))) (fun iv _ => wn - (intOf iv).toNat)
      case atStart => exact ⟨0, by omega, rfl, Lib.hid (by have e : addAcc acc (wl.take 0) = acc := by { funext q; simp [addAcc] }; rw [e]; exact HS9.out), HAp9⟩
      case round =>
       clear HS9 HAp9
       obtain ⟨j, hj, rfl, HSj, HAj⟩ := hrel
       by_cases hjn : j < wn
       ·have hjl : j < wl.length := by rw [HWn.out]; exact hjn
        obtain ⟨b7, o7, rfl, hcj⟩ := zs_at (Mat.Own.row' HAj.out) hjl
        obtain ⟨q, hq, hq255⟩ := HWr.out _ (List.getElem_mem hjl)
        rw [hq] at hcj
        have hst := addAcc_step (acc := acc) HNd.out hjl hq
        have hxb : addAcc acc (wl.take j) q ≤ 401 := by have := addAcc_le acc (wl.take j) q; have := HBa.out q; omega
        have hcq : _ = some (Value.int .i64 (addAcc acc (wl.take j) q : Int)) := (HSj.out.bk.cell q).trans (accA_get hq255)
        have hput := HSj.out.put H.out q (addAcc acc (wl.take j) q + 1)
        rw [hst] at hput
        obtain ⟨x, hx⟩ : ∃ x, addAcc acc (wl.take j) q = x := ⟨_, rfl⟩
        rw [hx] at hcq hput hxb
        rw [show ((x + 1 : Nat) : Int) = (x : Int) + 1 by simp] at hput
        have hfz := HSj.out.bk.frozen q
        have HP2 := Lib.hid hput
        have HA2 := Lib.hid (Own.far HAj.out (p := ⟨w.heap.size, q, none⟩) (fun e => by have := (HAj.out.lt _ e).1; simp at this; omega) (.int .i64 ((x : Int) + 1)))
        have hwx : IntKind.i64.wrap ((x : Int) + 1) = (x : Int) + 1 := IntWalk.i64_in _ (by omega)
        have hqi : (q : Int) < 255 := by omega
        have hq0 : (0 : Int) ≤ (q : Int) := by omega
        clear hst hput hx hq hjl HSj HAj
        go_wp2
        go_roundw
        case rel => exact ⟨j + 1, by omega, by go_num, HP2, HA2⟩
        case measure => simp [intOf]; omega
       ·obtain rfl : j = wn := by omega
        have hS9 := HSj.out
        rw [List.take_of_length_le (by rw [HWn.out]; exact Nat.le_refl _)] at hS9
        have HS9 := Lib.hid hS9
        clear hS9 HSj HAj
        go_wp2
        go_roundw
        case rel => exact ⟨i + 1, _, by omega, by go_num, HS9, HV3⟩
        case measure => simp [intOf]; omega
     ·have HDI : Hid (DIs S.xs S.n S.k S.a S.v sh T ms wl2 0) := Lib.hid (by
       rw [← HLL.out] at hMI
       exact MsgIs.found H.out.par HA.out HK.out hMI)
      have hk9 := HS8.out.kp.go hf9 hp9
      have HX : Hid (SPost S w sh T (.returned (.tuple #[.slice A9 ms.length c9, .slice B9 wl2.length d9, .int .i64 0])) w9) := Lib.hid ⟨ms, wl2, 0, HDI.out, A9, c9, B9, d9, rfl, hc9, hd9, hO9m.more hz8, hO9w.more hz8, hk9.fldp, hk9.past⟩
      clear hMI hc9 hd9 hO9m hO9w hf9 hp9 hk9 HMsg HDI
      go_wp2
      go_ret3
      exact HX.out
    ·have hzb : (z == (0 : Int)) = false := by simpa using hz0
     have hzn : (z != (0 : Int)) = true := by simpa using hz0
     have HV2 : Hid (Inv S sh T (i + 1) (setAcc acc p (T + 1))) := Lib.hid (by
      have hw := HW.out
      rw [← HL2.out, ← HSn.out, ← HSL.out] at hw
      exact inv_lost H.out HLL.out HL.out (by rw [HLm.out]; omega) HOne.out HV.out hw hz0)
     have hp2 := HS7.out.put H.out p (T + 1)
     rw [show ((T + 1 : Nat) : Int) = (T : Int) + 1 by simp] at hp2
     have HP2 := Lib.hid hp2
     have hcq : w7.cell? ⟨w.heap.size, p, none⟩ = some (.int .i64 (acc p : Int)) := by rw [HS7.out.bk.cell, accA_get hp255]
     have hfz := HS7.out.bk.frozen p
     have hv0 := HB7.out.cell 0
     have hpi : (p : Int) < 255 := by omega
     have hp0 : (0 : Int) ≤ (p : Int) := by omega
     have hwt : IntKind.i64.wrap ((T : Int) + 1) = (T : Int) + 1 := IntWalk.i64_in _ (by omega)
     clear HW HO7 HO7s HD7 HS7 hz0 hp2
     go_wp2_with fail
     go_roundw
     case rel => exact ⟨i + 1, _, by omega, by go_num, HP2, HV2⟩
     case measure => simp [intOf]; omega
   ·rw [decide_eq_false hmay]
    have HNo : Hid (DIs S.xs S.n S.k S.a S.v sh T [] [] 80) := Lib.hid (.inr (.inr (.inr ⟨HA.out, HK.out, rfl, rfl, rfl, fun M N hc => by
     by_cases hw : ((wrongs S.n (node S.xs S.v S.a M N) sh).length : Int) ≤ T
     ·exfalso
      rw [← wrongs_length H.out.par HA.out] at hw
      have hw2 : ((vir S.v S.a ++ told S.v sh).filter fun u => !rt S.xs S.a M N u).length ≤ T := by rw [all_wrong hc]; omega
      have hI := HV.out.2 M N hc hw2
      refine hmay ⟨?_, fun q hq => ?_⟩
      ·rw [← HSL.out]; exact hI.sure_length hw2
      ·rw [← HSL.out] at hq
       obtain ⟨o, ho, rfl, hf⟩ := hI.sure hw2 hq
       rcases List.mem_append.1 ho with ho | ho
       ·rw [vir_rt hc o ho] at hf; cases hf
       ·obtain ⟨u, hu, rfl⟩ := List.mem_map.1 ho; simp only; omega
     ·omega⟩)))
    have hk3 := (HS2.out.bel hb3).kp
    have HX : Hid (SPost S w sh T (.returned (.tuple #[.slice none 0 0, .slice none 0 0, .int .i64 80])) w3) := Lib.hid ⟨[], [], 80, HNo.out, none, 0, none, 0, rfl, Nat.le_refl _, Nat.le_refl _, Own.nil _ _ _, Own.nil _ _ _, hk3.fldp, hk3.past⟩
    clear hmay hb3 hk3 HMb HNo
    go_wp2
    go_ret3
    exact HX.out
  ·obtain rfl : i = m := by omega
   have HNo : Hid (DIs S.xs S.n S.k S.a S.v sh T [] [] 80) := Lib.hid (.inr (.inr (.inr ⟨HA.out, HK.out, rfl, rfl, rfl, fun M N hc => by
    by_cases hw : ((wrongs S.n (node S.xs S.v S.a M N) sh).length : Int) ≤ T
    ·exfalso
     rw [← wrongs_length H.out.par HA.out] at hw
     have hw2 : ((vir S.v S.a ++ told S.v sh).filter fun u => !rt S.xs S.a M N u).length ≤ T := by rw [all_wrong hc]; omega
     have hI := HV.out.2 M N hc hw2
     rw [← HLm.out, ← HLL.out] at hI
     exact hI.finish hw2 (by rw [HLL.out, HLm.out]; omega)
    ·omega⟩)))
   have hk3 := HSr.out.kp
   have HX : Hid (SPost S w sh T (.returned (.tuple #[.slice none 0 0, .slice none 0 0, .int .i64 80])) wr) := Lib.hid ⟨[], [], 80, HNo.out, none, 0, none, 0, rfl, Nat.le_refl _, Nat.le_refl _, Own.nil _ _ _, Own.nil _ _ _, hk3.fldp, hk3.past⟩
   clear hk3 HNo
   go_wp2
   go_ret3
   exact HX.out
end Go.Proofs.YtjoghbmedfmioaaGreat.Ms

namespace Go.Proofs.YtjoghbmedfmioaaGreat.Ms
open Go.RowKit Go.Shelf F8 Poly GF Rd
attribute [local go_sem] Oper.semAt_some
theorem argok_iff {n a : Nat} {l : List El} {t : Int} : ArgOk n a (shE l) t ↔ Sy.VOk n a [] (Sy.elsN l) ∧ 0 ≤ t := by
 have e1 : (shE l).map Prod.fst = (Sy.elsN l).map Prod.fst := by simp [shE, Sy.elsN]
 unfold ArgOk Sy.VOk
 rw [e1]
 constructor
 ·rintro ⟨h1, h2, h3⟩
  refine ⟨⟨h1, fun o ho => ?_⟩, h3⟩
  obtain ⟨e, he, rfl⟩ := List.mem_map.1 ho
  have := h2 (e.p, e.s) (List.mem_map.2 ⟨e, he, rfl⟩)
  exact ⟨⟨this.1, this.2.1⟩, by simp, this.2.2⟩
 ·rintro ⟨⟨h1, h2⟩, h3⟩
  refine ⟨h1, fun o ho => ?_, h3⟩
  obtain ⟨e, he, rfl⟩ := List.mem_map.1 ho
  have := h2 (e.p, e.s.length) (List.mem_map.2 ⟨e, he, rfl⟩)
  exact ⟨this.1.1, this.1.2, this.2.2⟩
def DPost (S : Co) (w : World) (sh : List (Int × List F8)) (t : Int) (e : Ending) (w' : World) : Prop := ∃ ms wl z, DIs S.xs S.n S.k S.a S.v sh t ms wl z ∧ Wl.WRes S.g w ms wl z e w'
theorem DPost.err {S : Co} {w w' : World} {sh : List (Int × List F8)} {t z : Int} (hk : Kp S w w') (h : DIs S.xs S.n S.k S.a S.v sh t [] [] z) : DPost S w sh t (.returned (.tuple #[.slice none 0 0, .slice none 0 0, .int .i64 z])) w' :=
 ⟨[], [], z, h, none, 0, none, 0, rfl, Nat.le_refl _, Nat.le_refl _, Own.nil _ _ _, Own.nil _ _ _, hk.fldp, hk.past⟩
attribute [-go_sem] Builtin.append_
set_option maxRecDepth 100000 in
set_option maxHeartbeats 16000000 in
theorem decode_calls (PS : Poly.Spec) (Z : Wl.Spec) {S : Co} {w : World} (h : S.Ok w) (A : Option Addr) (l : List El) (m c : Nat) (t : Int) (ht1 : -9223372036854775808 ≤ t) (ht2 : t < 9223372036854775808) (hl : l.length = m) (hm : m ≤ 1000) (hE : Els S.g w A l) :
  Calls Tryz.prog 34 #[.pointer (some ⟨S.b, 0, none⟩), .slice A m c, .int .i64 t] w (DPost S w (shE l) t) := by
 have hmx : Tryz.prog.follows .mixedOrders = true := by kernel_rfl
 have hn := h.nums
 have H := Lib.hid h
 have HE := Lib.hid hE
 have HM := Lib.hid hl
 have HN := Lib.hid hn
 have HNone := Lib.hid (isNone_calls h)
 by_cases ht : t < 0
 ·have HX := Lib.hid (DPost.err (t := t) (z := 2) (Kp.start h).drew (.inl ⟨fun hA => by have := (argok_iff.1 hA).2; omega, rfl, rfl, rfl⟩) : DPost S w (shE l) t _ w.drew)
  have hd : decide (t < 0) = true := decide_eq_true ht
  clear h hE hl hn
  go_enter Tryz.func34, Tryz.ntmps34
  go_wp2_with (go_at_call 56; refine HNone.out.mono ?_; rintro e w1 ⟨rfl, rfl⟩)
  go_region
  all_goals
   go_wp2
   go_ret3
   exact HX.out
 have hd : decide (t < 0) = false := decide_eq_false ht
 have HVal : Hid (∀ V, Kp S w V → Calls Tryz.prog 44 #[.slice A m c, .int .i64 (S.n : Nat), .int .i64 (S.a : Nat), .slice none 0 0] V fun e w' => e = .returned (.bool (decide (Sy.VOk S.n S.a [] (Sy.elsN l)))) ∧ Below V.heap.size V w') := Lib.hid fun V hV =>
  Sy.valid_calls A l m c S.n S.a none [] 0 0 V hl hm (hE.past h.fld.fld hV.past).row (by omega) rfl (by omega) (Row.nil _ _)
 have HC : Hid (∀ V, Kp S w V → V.cell? ⟨S.b, 1, none⟩ = some (.int .i64 S.n) ∧ V.cell? ⟨S.b, 4, none⟩ = some (.int .i64 S.a)) := Lib.hid fun V hV => by
  obtain ⟨-, x1, -, -, x4, -⟩ := hV.ok.cells
  exact ⟨x1, x4⟩
 have HK := Lib.hid (Kp.start h).drew
 have HS := Lib.hid (HC.out _ HK.out)
 obtain ⟨bb, hbb⟩ : ∃ bb, decide (Sy.VOk S.n S.a [] (Sy.elsN l)) = bb := ⟨_, rfl⟩
 rw [hbb] at HVal
 clear h hE hl hn
 go_enter Tryz.func34, Tryz.ntmps34
 go_wp2_with (go_at_call 56; refine HNone.out.mono ?_; rintro e w1 ⟨rfl, rfl⟩)
 go_region_held (fun V => V.cell? ⟨S.b, 1, none⟩ = some (.int .i64 S.n) ∧ V.cell? ⟨S.b, 4, none⟩ = some (.int .i64 S.a)) (exact HS.out)
  ((go_at_call 44; (with_reducible refine (HVal.out _ HK.out).mono ?_); rintro e1 w1 ⟨rfl, hb1⟩; replace HK := Lib.hid (HK.out.below hb1); replace HS := Lib.hid (HC.out _ HK.out); clear hb1))
 cases bb
 ·have hno : ¬ ArgOk S.n S.a (shE l) t := fun hA => of_decide_eq_false hbb (argok_iff.1 hA).1
  have HX := Lib.hid (DPost.err HK.out (.inl ⟨hno, rfl, rfl, rfl⟩) : DPost S w (shE l) t (.returned (.tuple #[.slice none 0 0, .slice none 0 0, .int .i64 2])) w1)
  clear hno hbb
  go_wp2
  go_ret3
  exact HX.out
 obtain ⟨T, rfl⟩ : ∃ T : Nat, t = (T : Int) := ⟨t.toNat, by omega⟩
 clear hd ht1 ht2
 have hA : ArgOk S.n S.a (shE l) T := argok_iff.2 ⟨of_decide_eq_true hbb, by omega⟩
 have hok := okl_all H.out.par hA
 have hvm : S.v + m ≤ S.nx := by
  have := okl_len hok
  rw [List.length_append, vir_length, told_length, shE_length, HM.out, H.out.len] at this
  exact this
 have hnum := HN.out
 have HA := Lib.hid hA
 obtain ⟨-, -, x2, -⟩ := HK.out.ok.cells
 by_cases hmk : m < S.k
 ·have HX := Lib.hid (DPost.err HK.out (.inr (.inl ⟨hA, by rw [shE_length, HM.out]; omega, rfl, rfl, rfl⟩)) : DPost S w (shE l) T (.returned (.tuple #[.slice none 0 0, .slice none 0 0, .int .i64 70])) w1)
  have hg2 : (m : Int) < (S.k : Int) := by omega
  clear hA hok hvm hnum hbb hmk
  go_wp2
  go_ret3
  exact HX.out
 have hg2 : ¬ ((m : Int) < (S.k : Int)) := by omega
 have hw1 : IntKind.i64.wrap ((m : Int) - (S.k : Int)) = (m : Int) - (S.k : Int) := IntWalk.i64_in _ (by omega)
 by_cases hq : ((m : Int) - (S.k : Int)) / 2 < (T : Int)
 ·have HX := Lib.hid (DPost.err HK.out (.inr (.inl ⟨hA, by rw [shE_length, HM.out]; omega, rfl, rfl, rfl⟩)) : DPost S w (shE l) T (.returned (.tuple #[.slice none 0 0, .slice none 0 0, .int .i64 70])) w1)
  clear hA hok hvm hnum hbb hmk
  go_wp2
  go_ret3
  exact HX.out
 have hkT : S.k + 2 * (T : Int) ≤ ((shE l).length : Int) := by rw [shE_length, HM.out]; omega
 have HKT := Lib.hid hkT
 have HVm := Lib.hid hvm
 have HOk := Lib.hid hok
 have HVir := Lib.hid (virtualOnes_calls HK.out.ok)
 have hm255 : m ≤ 255 := by omega
 have hv15 : S.v ≤ 15 := by omega
 clear hA hok hvm hnum hbb hmk hkT HVal
 go_wp2_with fail
 refine HVir.out.mono ?_
 rintro e w2 ⟨A2, c2, l2, rfl, hc2, hO2, hI2, hL2, hb2⟩
 rw [vir_length] at hc2 hO2 ⊢
 have hz1 := HK.out.size
 have HK2 := Lib.hid (HK.out.below hb2)
 have HO2 := Lib.hid (hO2.more hz1)
 have HI2 := Lib.hid hI2
 have HL2 := Lib.hid (hL2.more hz1)
 clear hc2 hO2 hI2 hL2 hb2 HS HC x2 hg2 hw1 hq HVir HK
 go_wp2_with fail
 go_loopw [9, 55] (fun o iv wr => ∃ (j : Nat) (lm : List El), j ≤ m ∧ iv = .int .i64 j ∧ Hid (OwnK 2 wr w.heap.size 115 o (S.v + j) (cells2 (l2 ++ lm))) ∧ Hid (Is (l2 ++ lm) (vir S.v S.a ++ told S.v ((shE l).take j))) ∧ Hid (LstO wr w.heap.size l2) ∧ Hid (Lst S.g w lm) ∧ Hid (Kp S w wr)) (fun _ iv _ => m - (intOf iv).toNat)
 case atStart => exact ⟨0, [], by omega, rfl, Lib.hid (by simpa using HO2.out), Lib.hid (by simpa [told] using HI2.out), HL2, Lib.hid (Lst.nil _ _), HK2⟩
 case round =>
  clear HO2 HI2 HL2 HK2
  obtain ⟨j, lm, hj, rfl, HO, HI, HL, HLm, HK⟩ := hrel
  by_cases hjm : j < m
  ·have hti : j < l.length := by rw [HM.out]; exact hjm
   obtain ⟨b, off, rfl, hc0, hc1⟩ := row2_at (HE.out.past H.out.fld.fld HK.out.past).row hti
   have hlst := HE.out.lst _ (List.getElem_mem hti)
   have hrng := (HA.out.2.1 ((l[j]).p, (l[j]).s) (List.mem_map.2 ⟨l[j], List.getElem_mem hti, rfl⟩))
   have hts : (shE l).take (j + 1) = (shE l).take j ++ [((l[j]).p, (l[j]).s)] := by
    unfold shE
    rw [← List.map_take, take_succ' l hti, List.map_append, List.map_take]; rfl
   obtain ⟨uA, h1⟩ : ∃ x, (l[j]).A = x := ⟨_, rfl⟩
   obtain ⟨us, h2⟩ : ∃ x, (l[j]).s = x := ⟨_, rfl⟩
   obtain ⟨uc, h3⟩ : ∃ x, (l[j]).c = x := ⟨_, rfl⟩
   obtain ⟨up, h5⟩ : ∃ x, (l[j]).p = x := ⟨_, rfl⟩
   rw [h1, h2, h3] at hlst
   rw [h1, h2, h3] at hc1
   rw [h5] at hc0
   rw [h2, h5] at hrng hts
   obtain ⟨q, rfl⟩ : ∃ q : Nat, up = (q : Int) := ⟨up.toNat, by have := hrng.1; simp only at this; omega⟩
   obtain ⟨un, h4⟩ : ∃ x, us.length = x := ⟨_, rfl⟩
   rw [h4] at hc1 hlst
   have hqn : q < S.n := by have := hrng.2.1; simp only at this; omega
   have hn255 : S.n ≤ 255 := by have := HN.out; omega
   have HTs := Lib.hid hts
   have HUn := Lib.hid h4
   obtain ⟨W1, hW1⟩ : ∃ W1, wr.alloc (.cells #[.int .i64 (q : Int), .slice uA un uc] 54) = W1 := ⟨_, rfl⟩
   have hk1 : Kp S w W1 := by rw [← hW1]; exact HK.out.alloc _
   have hb1 : Block W1 wr.heap.size 54 #[.int .i64 (q : Int), .slice uA un uc] := by rw [← hW1]; exact Block.new wr _ _
   have ho1 := HO.out.alloc (.cells #[.int .i64 (q : Int), .slice uA un uc] 54)
   rw [hW1] at ho1
   have hz9 := hk1.size
   obtain ⟨OB, hOB⟩ : ∃ OB, Obj.cells #[.int .i64 ((S.v : Int) + (q : Int)), .slice uA un uc] 115 = OB := ⟨_, rfl⟩
   have ho2 : OwnK 2 (W1.alloc OB).drew w.heap.size 115 _ (S.v + j) (cells2 (l2 ++ lm)) := (ho1.alloc OB).drew
   have hza : w.heap.size ≤ (W1.alloc OB).drew.heap.size := by show w.heap.size ≤ (W1.alloc OB).heap.size; rw [World.size_alloc]; omega
   obtain ⟨v2, w4, hrun, hown, hg, -⟩ := run_appK (P := Tryz.prog) (W1.alloc OB).drew 2 w.heap.size 112 112 115 _ 32 Tryz.underlying112 info_stored rfl (by omega) _ (S.v + j) (cells2 (l2 ++ lm)) ho2 ⟨W1.heap.size, 0, none⟩ 1 1 (cells2 [⟨(S.v : Int) + (q : Int), uA, us, uc⟩]) rfl (by
    have := Row.new W1 #[.int .i64 ((S.v : Int) + (q : Int)), .slice uA un uc] 115 (0, 0)
    simp only [cells2, El.cs, List.flatMap_cons, List.flatMap_nil, List.append_nil, HUn.out]
    rw [← hOB]
    exact this) (cells2_one _) (by omega) (by omega) hza
   obtain ⟨P2, d2, rfl, hd2, -, -⟩ := hown.shape
   have hb4 : Below w.heap.size (W1.alloc OB).drew w4 := OwnK.grew ho2 hza hg
   have hbA : Below w.heap.size W1 (W1.alloc OB).drew := ((Below.refl _ W1).alloc hz9 OB).drew
   have HK4 := Lib.hid (Kp.later H.out hk1 (hbA.trans hb4))
   have HI4 : Hid (Is (l2 ++ (lm ++ [⟨(S.v : Int) + (q : Int), uA, us, uc⟩])) (vir S.v S.a ++ told S.v ((shE l).take (j + 1)))) := Lib.hid (by
    rw [HTs.out, told_snoc, ← List.append_assoc, ← List.append_assoc]
    exact HI.out.append (Is.one (S.v + q) _ _ _))
   have hl1 : LstO W1 w.heap.size l2 := by rw [← hW1]; exact fun e he => (HL.out e he).alloc _
   have hl2 : LstO (W1.alloc OB).drew w.heap.size l2 := fun e he => ((hl1 e he).alloc OB).drew
   have HL4 : Hid (LstO w4 w.heap.size l2) := Lib.hid (hl2.grown ho2 (by decide) hg)
   have HLm4 : Hid (Lst S.g w (lm ++ [⟨(S.v : Int) + (q : Int), uA, us, uc⟩])) := Lib.hid (HLm.out.append (Lst.one hlst.1 (by show us.length ≤ uc; rw [HUn.out]; exact hlst.2)))
   rw [← cells2_append, Nat.add_assoc, List.append_assoc] at hown
   have HO4 := Lib.hid hown
   obtain ⟨-, -, -, -, -, s5, -⟩ := hk1.ok.cells
   have hv0 := hb1.cell 0
   have hv1 := hb1.cell 1
   have hw3 : IntKind.i64.wrap ((S.v : Int) + (q : Int)) = (S.v : Int) + (q : Int) := IntWalk.i64_in _ (by omega)
   have hj1 : IntKind.i64.wrap ((j : Int) + 1) = (j : Int) + 1 := IntWalk.i64_in _ (by omega)
   clear hown hg hb4 hbA hl1 hl2 hk1 hb1 ho1 ho2 hza hlst hrng hts h1 h2 h3 h5 h4 HO HI HL HLm
   go_wp2_with fail
   go_region
   go_wp2
   go_roundw
   case rel => exact ⟨j + 1, _, by omega, by go_num, HO4, HI4, HL4, HLm4, HK4⟩
   case measure => simp [intOf]; omega
  ·obtain rfl : j = m := by omega
   obtain ⟨A4, c4, rfl, hc4, hrow4, -⟩ := HO.out.shape
   have hI4 := HI.out
   rw [List.take_of_length_le (by rw [shE_length, HM.out]; exact Nat.le_refl _)] at hI4
   obtain ⟨L, hL⟩ : ∃ L, vir S.v S.a ++ told S.v (shE l) = L := ⟨_, rfl⟩
   have hLl : L.length = S.v + j := by rw [← hL, List.length_append, vir_length, told_length, shE_length, HM.out]
   have hok := HOk.out
   rw [hL] at hI4 hok
   have hll : (l2 ++ lm).length = S.v + j := by rw [hI4.length, hLl]
   have hels : Els S.g wr A4 (l2 ++ lm) := ⟨hrow4, (HL.out.lst HK.out.fldp).append (HLm.out.past HK.out.past)⟩
   have hvd : ∀ o ∈ L.drop S.v, S.v ≤ o.1 := fun o ho => by
    rw [← hL, drop_vir] at ho
    obtain ⟨u, hu, rfl⟩ := List.mem_map.1 ho
    show S.v ≤ S.v + u.1.toNat
    omega
   have hnum := HN.out
   have hkt := HKT.out
   rw [shE_length, HM.out] at hkt
   have hvm := HVm.out
   have HMsg := Lib.hid (message_calls PS Z HK.out.ok A4 (l2 ++ lm) (S.v + j) c4 hll (by omega) hc4 hels L hI4 hok hvd none [] 0 0 rfl (by omega) (Row.nil _ _) T (by omega))
   have HSe : Hid (∀ V, Kp S wr V → Calls Tryz.prog 64 #[.pointer (some ⟨S.b, 0, none⟩), .slice A4 (S.v + j) c4, .int .i64 (T : Nat)] V (SPost S V (shE l) T)) := Lib.hid fun V hV =>
    search_calls PS Z hV.ok (shE l) T HA.out HKT.out A4 (l2 ++ lm) (S.v + j) c4 hll hc4 (hels.past HK.out.fld hV.past) (by rw [hL]; exact hI4)
   have HLL := Lib.hid hL
   clear hc4 hrow4 hI4 hL hLl hok hll hels hvd hnum hkt hvm HO HI HL HLm
   go_wp2_with fail
   refine HMsg.out.mono ?_
   rintro e w9 ⟨ms, wl2, ok, hMI, A9, c9, B9, d9, rfl, hc9, hd9, hO9m, hO9w, hf9, hp9⟩
   have hz9 := HK.out.size
   have hkw : Kp S wr w9 := (Kp.start HK.out.ok).go hf9 hp9
   have hk9 := HK.out.go hf9 hp9
   cases ok
   ·have HKw := Lib.hid hkw
    have HK9 := Lib.hid hk9
    clear hMI hc9 hd9 hO9m hO9w hf9 hp9 hkw hk9 HMsg
    go_wp2_with fail
    refine (HSe.out _ HKw.out).mono ?_
    rintro e w10 ⟨ms3, wl3, z3, hD, A3, c3, B3, d3, rfl, hc3, hd3, hO3m, hO3w, hf3, hp3⟩
    have hk10 := HK9.out.go hf3 hp3
    have HX : Hid (DPost S w (shE l) T (.returned (.tuple #[.slice A3 ms3.length c3, .slice B3 wl3.length d3, .int .i64 z3])) w10) := Lib.hid ⟨ms3, wl3, z3, hD, A3, c3, B3, d3, rfl, hc3, hd3, hO3m.more HK9.out.size, hO3w.more HK9.out.size, hk10.fldp, hk10.past⟩
    clear hD hc3 hd3 hO3m hO3w hf3 hp3 hk10
    go_wp2
    go_ret3
    exact HX.out
   ·have HX : Hid (DPost S w (shE l) T (.returned (.tuple #[.slice A9 ms.length c9, .slice B9 wl2.length d9, .int .i64 0])) w9) := Lib.hid ⟨ms, wl2, 0, by
     rw [← HLL.out] at hMI
     exact MsgIs.found H.out.par HA.out HKT.out hMI, A9, c9, B9, d9, rfl, hc9, hd9, hO9m.more hz9, hO9w.more hz9, hk9.fldp, hk9.past⟩
    clear hMI hc9 hd9 hO9m hO9w hf9 hp9 hkw hk9 HMsg
    go_wp2
    go_ret3
    exact HX.out
end Go.Proofs.YtjoghbmedfmioaaGreat.Ms
