/- Of the program, joined: MsCodeD, MsConc, MatSame, MsCodeE, MsApp. -/
import Derived.Test.YtjoghbmedfmioaaGreatPb19
import Derived.Test.YtjoghbmedfmioaaGreatPb16
import Derived.Test.YtjoghbmedfmioaaGreatPb08
import Derived.Test.YtjoghbmedfmioaaGreatPb12
import Derived.Test.YtjoghbmedfmioaaGreatPb03
import Derived.Laws.Cover3
import Derived.Test.YtjoghbmedfmioaaGreatPb05
namespace Go.Proofs.YtjoghbmedfmioaaGreat.Ms
open Go.RowKit Go.Shelf F8 Poly GF Rd
attribute [local go_sem] Oper.semAt_some
set_option maxRecDepth 100000 in
set_option maxHeartbeats 2000000 in
theorem help_calls (PS : Poly.Spec) {S : Co} {w : World} (h : S.Ok w) (x y : Nat) (hx : x < S.n) (hy : y < S.n) (hxy : x ≠ y) (B : Option Addr) (os : List F8) (mn mc : Nat) (hl : os.length = mn) (hm : mn = S.a) (hB : BF S.g w B os) (hc : mn ≤ mc) :
  Calls Tryz.prog 32 #[.pointer (some ⟨S.b, 0, none⟩), .int .i64 (x : Nat), .int .i64 (y : Nat), .slice B mn mc] w fun e w' => e = .returned (.tuple #[.int .u8 (Poly.eval os (coef S.xs (S.v + y))).n, .int .i64 0]) ∧ FldP w' (some ⟨S.g, 0, none⟩) ∧ Past w.heap.size S.g w w' := by
 have hmx : Tryz.prog.follows .mixedOrders = true := by kernel_rfl
 have hn := h.nums
 have HNone := Lib.hid (isNone_calls h)
 have hX1 := Sy.isNode_calls (x : Int) S.n w
 have hY1 := Sy.isNode_calls (y : Int) S.n w
 rw [decide_eq_true (by omega : (0 : Int) ≤ (x : Int) ∧ (x : Int) < (S.n : Int))] at hX1
 rw [decide_eq_true (by omega : (0 : Int) ≤ (y : Int) ∧ (y : Int) < (S.n : Int))] at hY1
 have HX := Lib.hid hX1
 have HY := Lib.hid hY1
 have h5 : ((x : Int) == (y : Int)) = false := by simp; omega
 have h4 : ((mn : Int) != (S.a : Int)) = false := by simp; omega
 have hvy : S.v + y < S.nx := by omega
 obtain ⟨bx, ox, hXA⟩ := where_ h.bx.by_ (by rw [h.len]; omega)
 obtain ⟨c0, c1, c2, c3, c4, c5, -⟩ := h.cells
 obtain ⟨c6, cx⟩ := h.pt hXA hvy
 have hAt := PS.atP B os mn mc w.drew hl hB.by_.drew hc (by omega) (some ⟨S.g, 0, none⟩) h.fld hB.far (coef S.xs (S.v + y))
 obtain ⟨px, hpx⟩ : ∃ px, coef S.xs (S.v + y) = px := ⟨_, rfl⟩
 rw [hpx] at cx hAt ⊢
 have HAt := Lib.hid hAt
 have hw1 : IntKind.i64.wrap ((S.v : Int) + (y : Int)) = (S.v : Int) + (y : Int) := IntWalk.i64_in _ (by omega)
 have hi1 : (S.v : Int) + (y : Int) < (S.nx : Int) := by omega
 have hi0 : (0 : Int) ≤ (S.v : Int) + (y : Int) := by omega
 have hi2 : ((S.v : Int) + (y : Int)).toNat = S.v + y := by omega
 clear h hn hX1 hY1 hl hm hB hc hx hy hxy hvy hXA hAt hpx c2 c3
 go_enter Tryz.func32, Tryz.ntmps32
 go_wp2_with (first | (go_at_call 56; refine HNone.out.mono ?_; rintro e w1 ⟨rfl, rfl⟩) | (go_at_call 49; with_reducible refine HX.out.mono ?_; rintro e w1 ⟨rfl, rfl⟩) | (go_at_call 49; with_reducible refine HY.out.mono ?_; rintro e w1 ⟨rfl, rfl⟩))
 refine wp_region_still_tail 17 hmx (by kernel_rfl) ?_
 simp only [List.take_succ_cons, List.take_zero, List.drop_succ_cons, List.drop_zero]
 iterate 17 still_step
 refine wpStill_nil ?_
 go_wp2_with fail
 refine HAt.out.mono ?_
 rintro e w4 ⟨rfl, hf4, hp4⟩
 have hp4' : Past w.heap.size S.g w w4 := ⟨hp4.os, hp4.tape, hp4.output, hp4.size, hp4.block⟩
 go_wp2
 go_ret2
 exact ⟨rfl, hf4, hp4'⟩
end Go.Proofs.YtjoghbmedfmioaaGreat.Ms

namespace Go.Proofs.YtjoghbmedfmioaaGreat.Ms
open Go.RowKit Go.Shelf F8 Poly GF Rd
attribute [local go_sem] Oper.semAt_some
theorem own_cut0 {w : World} {B n c : Nat} {e : TypeId} {A : Option Addr} {xs : List Value} (h : Own w B e (.slice A n c) xs) : Own w B e (.slice A 0 c) [] ∧ n ≤ c := by
 unfold Own at *
 rcases h.2 with ⟨h1, h2⟩ | ⟨g, cap, cur, h1, h2, h3, h4, h5, h6, h7⟩
 ·injection h1 with e1 e2 e3
  subst e1; subst e2; subst e3
  exact ⟨⟨by simp, .inl ⟨rfl, rfl⟩⟩, Nat.le_refl _⟩
 ·injection h1 with e1 e2 e3
  subst e1; subst e2; subst e3
  exact ⟨⟨by simp, .inr ⟨g, c, cur, rfl, h2, h3, Nat.zero_le _, h5, h6, by simp⟩⟩, h4⟩
section
attribute [-go_sem] Builtin.append_
set_option maxRecDepth 100000 in
set_option maxHeartbeats 1000000 in
theorem grow_calls (k : Nat) (hk : k ≤ 1000000) (w : World) : Calls Tryz.prog 109 #[.slice none 0 0, .int .i64 (k : Nat)] w fun e w' => ∃ v, e = .returned v ∧ Own w' w.heap.size 5 v [] ∧ Below w.heap.size w w' := by
 by_cases h0 : k = 0
 ·subst h0
  rw [show ((0 : Nat) : Int) = 0 from rfl]
  go_enter Tryz.func109, Tryz.ntmps109
  go_wp2
  go_ret
  exact ⟨_, rfl, Own.nil _ _ _, Below.refl _ _⟩
 ·obtain ⟨v, w1, hr, hO, hg⟩ := run_app_zeros w 34 w.heap.size (.slice none 0 0) [] (Own.nil _ _ _) k (by omega) (by simp) (Nat.le_refl _)
  have hB : Below w.heap.size w w1 := (Own.nil w w.heap.size 5).grew (Nat.le_refl _) hg
  rw [List.nil_append] at hO
  obtain ⟨A, c, rfl, -, -⟩ := hO.form
  rw [bv_length, List.length_replicate] at hO hr
  obtain ⟨hO2, hkc⟩ := own_cut0 hO
  have HX : Hid (∃ v, (Ending.returned (.slice A 0 c) : Ending) = .returned v ∧ Own w1 w.heap.size 5 v [] ∧ Below w.heap.size w w1) := Lib.hid ⟨_, rfl, hO2, hB⟩
  have hkp : decide ((k : Int) > 0) = true := by simp; omega
  clear hO hg hB hO2
  go_enter Tryz.func109, Tryz.ntmps109
  go_wp2
  go_ret
  exact HX.out
end
def flatE (l : List El) : List F8 := l.flatMap El.s
theorem flatE_length {l : List El} {a : Nat} (h : ∀ e ∈ l, e.s.length ≤ a) : (flatE l).length ≤ l.length * a := by
 unfold flatE
 induction l with
 | nil => simp
 | cons e l ih =>
  rw [List.flatMap_cons, List.length_append, List.length_cons, Nat.succ_mul]
  have h1 := h e (List.mem_cons_self ..)
  have h2 := ih fun x hx => h x (List.mem_cons_of_mem _ hx)
  omega
set_option maxRecDepth 100000 in
set_option maxHeartbeats 2000000 in
theorem concat_calls (g : Nat) (A : Option Addr) (l : List El) (m c : Nat) (w : World) (hl : l.length = m) (hm : m ≤ 1000) (hr : Row w A (cells1 l)) (hL : Lst g w l) (hs : ∀ e ∈ l, e.s.length ≤ 1000) :
  Calls Tryz.prog 75 #[.slice A m c] w (ROwn w (flatE l) (flatE l).length) := by
 have HR := Lib.hid hr
 have HL := Lib.hid hL
 have HS := Lib.hid hs
 have HM := Lib.hid hl
 have HB : ∀ t, (flatE (l.take t)).length ≤ t * 1000 := fun t => Nat.le_trans (flatE_length fun e he => hs e (List.mem_of_mem_take he)) (Nat.mul_le_mul_right _ (by rw [List.length_take]; omega))
 have HBd := Lib.hid HB
 clear hr hL hs hl HB
 go_enter Tryz.func75, Tryz.ntmps75
 go_wp2
 go_loopw [3, 11] (fun o i wr => ∃ t q : Nat, t ≤ m ∧ o = .int .i64 q ∧ Hid (q = (flatE (l.take t)).length) ∧ i = .int .i64 t ∧ w = wr) (fun _ i _ => m - (intOf i).toNat)
 case atStart => exact ⟨0, 0, by omega, rfl, Lib.hid (by simp [flatE]), rfl, rfl⟩
 case round =>
  obtain ⟨t, q, ht, rfl, HQ, rfl, rfl⟩ := hrel
  by_cases htm : t < m
  ·have hti : t < l.length := by rw [HM.out]; exact htm
   obtain ⟨b, off, rfl, hcell⟩ := cells1_at HR.out hti
   obtain ⟨e, he⟩ : ∃ e, l[t] = e := ⟨_, rfl⟩
   rw [he] at hcell
   obtain ⟨en, hn⟩ : ∃ a, e.s.length = a := ⟨_, rfl⟩
   rw [hn] at hcell
   have hqn := HBd.out (t + 1)
   have HQ2 : Hid (q + en = (flatE (l.take (t + 1))).length) := Lib.hid (by rw [take_succ' l hti, flatE, List.flatMap_append, List.length_append, he, HQ.out]; simp [flatE, hn])
   rw [← HQ2.out] at hqn
   have hw1 : IntKind.i64.wrap ((q : Int) + (en : Int)) = (q : Int) + (en : Int) := IntWalk.i64_in _ (by omega)
   have hneg : decide ((q : Int) + (en : Int) < 0) = false := by simp; omega
   clear he hn
   go_wp2
   go_roundw
   case rel => exact ⟨t + 1, q + en, by omega, by go_num, HQ2, by go_num, by first | rfl | trivial⟩
   case measure => simp [intOf]; omega
  ·obtain rfl : t = m := by omega
   have hq := HQ.out
   have hb := HBd.out t
   rw [← hq] at hb
   rw [List.take_of_length_le (by rw [HM.out]; exact Nat.le_refl _)] at hq
   have HQm := Lib.hid hq
   have HG := Lib.hid (grow_calls q (by omega) w)
   clear hq HQ hb
   go_wp2_with fail
   refine HG.out.mono ?_
   rintro e w1 ⟨v, rfl, hO1, hB1⟩
   have HO1 := Lib.hid hO1
   have HB1 := Lib.hid hB1
   clear hO1 hB1 HG
   go_wp2
   go_loopw [6, 27] (fun o i wr => ∃ j : Nat, j ≤ t ∧ i = .int .i64 j ∧ Hid (Own wr w.heap.size 5 o (bv (bs (flatE (l.take j))))) ∧ Hid (Below w.heap.size w wr)) (fun _ i _ => t - (intOf i).toNat)
   case atStart => exact ⟨0, by omega, rfl, Lib.hid (by simpa [flatE, bs, bv] using HO1.out), HB1⟩
   case round =>
    clear HO1 HB1
    obtain ⟨j, hj, rfl, HO, HW⟩ := hrel
    by_cases hjm : j < t
    ·have hti : j < l.length := by rw [HM.out]; exact hjm
     obtain ⟨b, off, rfl, hcell⟩ := cells1_at (HR.out.below HW.out) hti
     have HE : Hid (bv (bs (flatE (l.take (j + 1)))) = bv (bs (flatE (l.take j))) ++ bv (bs (l[j]).s)) := Lib.hid (by rw [take_succ' l hti, flatE, List.flatMap_append, bs_append, bv_append]; simp [flatE])
     have HN : Hid ((bv (bs (flatE (l.take j)))).length ≤ j * 1000) := Lib.hid (by rw [bvs_length]; exact HBd.out j)
     obtain ⟨e, he⟩ : ∃ e, l[j] = e := ⟨_, rfl⟩
     have hem : e ∈ l := he ▸ List.getElem_mem hti
     rw [he] at hcell HE
     have hby := ((HL.out e hem).1.below HW.out).by_
     have hsl := HS.out e hem
     obtain ⟨eA, hA⟩ : ∃ a, e.A = a := ⟨_, rfl⟩
     obtain ⟨es, hes⟩ : ∃ a, e.s = a := ⟨_, rfl⟩
     obtain ⟨ec, hcc⟩ : ∃ a, e.c = a := ⟨_, rfl⟩
     obtain ⟨en, hn⟩ : ∃ a, es.length = a := ⟨_, rfl⟩
     rw [hA, hes] at hby
     rw [hA, hes, hcc, hn] at hcell
     rw [hes] at HE
     rw [hes, hn] at hsl
     have hsz := HW.out.size
     have HBy := Lib.hid hby
     have HLn : Hid ((bv (bs es)).length = en) := Lib.hid (by rw [bvs_length, hn])
     clear hn hby hem he hA hes hcc
     go_wp2_with (at_builtin; refine wpList_app _ rfl _ _ _ rfl w.heap.size 5 _ 1 Tryz.underlying34 info_u8 rfl (by omega) _ _ rfl HO.out eA en ec (bv (bs es)) rfl HLn.out HBy.out.row (bv_one _) (by have := HN.out; omega) hsz ?_; rintro v2 w3 hown hg3 -)
     have hB3 := HW.out.trans (HO.out.grew hsz hg3)
     rw [← HE.out] at hown
     have HO3 := Lib.hid hown
     have HW3 := Lib.hid hB3
     clear hown hg3 hB3
     go_roundw
     case rel => exact ⟨j + 1, by omega, by go_num, HO3, HW3⟩
     case measure => simp [intOf]; omega
    ·obtain rfl : j = t := by omega
     have hown := HO.out
     rw [List.take_of_length_le (by rw [HM.out]; exact Nat.le_refl _)] at hown
     obtain ⟨B, d, rfl, hd⟩ := Own.shape hown
     have hX : ROwn w (flatE l) (flatE l).length (.returned (.slice B (flatE l).length d)) wr := ⟨B, d, rfl, hd, hown, HW.out⟩
     clear hown hd HO
     go_wp2
     go_ret
     exact hX
end Go.Proofs.YtjoghbmedfmioaaGreat.Ms

namespace Go.Proofs.YtjoghbmedfmioaaGreat.Mat
open Go.RowKit Go.Shelf F8 Poly GF
set_option maxHeartbeats 1000000 in
theorem equal_calls (A B : Option Addr) (p q : List F8) (m n c d : Nat) (w : World) (hm : p.length = m) (hn : q.length = n) (hb : Bytes w A (bs p)) (hb2 : Bytes w B (bs q)) :
  Calls Tryz.prog 101 #[.slice A m c, .slice B n d] w fun e w' => e = .returned (.bool (decide (p = q))) ∧ w = w' := by
 have c1 := conv_f hb m c hm
 have c2 := conv_f hb2 n d hn
 have HE : Hid (((str (bs p)).toList == (str (bs q)).toList) = decide (p = q)) := Lib.hid (by
  rw [Bool.eq_iff_iff, beq_iff_eq, decide_eq_true_iff, ByteArray.toList_eq, ByteArray.toList_eq, str_data, str_data]
  constructor
  ·intro h
   refine bs_inj.1 (str_inj (bs_lt p) (bs_lt q) ?_)
   unfold str; rw [h]
  ·intro h; rw [h])
 clear hb hb2
 go_enter Tryz.func101, Tryz.ntmps101
 go_wp2
 go_ret
 exact ⟨GF.ret_bool HE.out, rfl⟩
theorem eql_nil (a : Option Addr) (l c : Nat) (w : World) : (binOp .eql 34 (.slice a l c) (.slice none 0 0)).run Tryz.prog w = .ok (.bool a.isNone) w := by
 simp only [binOp]
 simp [run_equal_slice_nil w 34 5 a l c Tryz.underlying34]
def RowRes (n : Nat) (s : List F8) (w : World) (e : Ending) (w' : World) : Prop :=
 ∃ A c, e = .returned (.slice A n c) ∧ n ≤ c ∧ Own w' w.heap.size 5 (.slice A n c) (bv (bs s)) ∧ Below w.heap.size w w'
set_option maxHeartbeats 1000000 in
theorem clone_calls (A : Option Addr) (s : List F8) (n c : Nat) (w : World) (hl : s.length = n) (hn : n ≤ 1000000000) (hb : Bytes w A (bs s)) :
  Calls Tryz.prog 42 #[.slice A n c] w (RowRes n s w) := by
 have hq := eql_nil A n c
 have HB := Lib.hid hb
 have HL := Lib.hid hl
 rcases A with _ | a
 ·have hs : s = [] := by
   rcases s with _ | ⟨x, s⟩
   ·rfl
   ·obtain ⟨b, off, h, _⟩ := hb.row 0 _ rfl; cases h
  subst hs
  obtain rfl : n = 0 := by simpa using hl.symm
  clear hb hl HB HL
  go_enter Tryz.func42, Tryz.ntmps42
  go_wp2
  go_ret
  exact ⟨none, 0, rfl, Nat.le_refl _, Own.nil _ _ _, Below.refl _ _⟩
 ·have hO := Own.lit w w.heap.size 5 #[] 0 (Nat.le_refl _) rfl (by decide)
  have HO := Lib.hid hO
  clear hb hl hO
  go_enter Tryz.func42, Tryz.ntmps42
  go_wp2_with (at_builtin; refine wpList_app _ rfl (.tmp 5) (.tmp 6) 34 rfl w.heap.size 5 (.int .u8 0) 1 Tryz.underlying34 info_u8 rfl (by decide) (.slice (some ⟨w.heap.size, 0, none⟩) 0 0) [] rfl HO.out (some a) n c (bv (bs s)) rfl (by rw [bvs_length, HL.out]) (HB.out.alloc _).row (bv_one _) (by simp; omega) (by simp) ?_; intro v' w1 hO1 hg _; (obtain ⟨A1, c1, rfl, hc1⟩ := Own.shape (p := s) (by rw [List.nil_append] at hO1; exact hO1)); have HO1 := Lib.hid hO1; clear hO1)
  have hB := ((Below.refl w.heap.size w).alloc (Nat.le_refl _) (.cells #[] 5)).grown hg (by simp) (fun k hk => by simp [Value.ownBlock] at hk; omega)
  go_ret
  have hO1 := HO1.out
  rw [List.nil_append, HL.out] at hO1
  rw [HL.out] at hc1
  exact ⟨A1, c1, by rw [HL.out]; rfl, hc1, hO1, hB⟩
end Go.Proofs.YtjoghbmedfmioaaGreat.Mat

namespace Go.Proofs.YtjoghbmedfmioaaGreat.Ms
open Go.RowKit Go.Shelf F8 Poly GF Rd
attribute [local go_sem] Oper.semAt_some
def MRes (g : Nat) (w : World) (m : List F8) (wl : List Int) (ok : Bool) (e : Ending) (w' : World) : Prop :=
 ∃ A c B d, e = .returned (.tuple #[.slice A m.length c, .slice B wl.length d, .bool ok]) ∧ m.length ≤ c ∧ wl.length ≤ d ∧ Own w' w.heap.size 5 (.slice A m.length c) (bv (bs m)) ∧ Own w' w.heap.size 3 (.slice B wl.length d) (zs wl) ∧ FldP w' (some ⟨g, 0, none⟩) ∧ Past w.heap.size g w w'
def MPost (S : Co) (w : World) (L : List (Nat × List F8)) (ps : List Int) (t : Nat) (e : Ending) (w' : World) : Prop := ∃ ms wl ok, MsgIs S.xs S.k S.a S.v L ps t ms wl ok ∧ MRes S.g w ms wl ok e w'
def wrgs (xs : List F8) (a v : Nat) (M N : Nat → List F8) (L : List (Nat × List F8)) (j : Nat) : List Int := (((L.drop v).take j).filter fun o => !rt xs a M N o).map fun o => (o.1 : Int) - v
section
variable {xs : List F8} {a v : Nat} {M N : Nat → List F8} {L : List (Nat × List F8)}
theorem wrgs_succ {j : Nat} (hj : v + j < L.length) : wrgs xs a v M N L (j + 1) = wrgs xs a v M N L j ++ if rt xs a M N L[v + j] then [] else [((L[v + j]).1 : Int) - v] := by
 have h1 : j < (L.drop v).length := by rw [List.length_drop]; omega
 unfold wrgs
 rw [List.take_succ_eq_append_getElem h1, List.filter_append, List.map_append, List.getElem_drop, List.filter_cons]
 by_cases h : rt xs a M N L[v + j] = true
 ·rw [h]; simp
 ·simp [h]
theorem wrgs_length (j : Nat) : (wrgs xs a v M N L j).length ≤ j := by
 unfold wrgs; rw [List.length_map]
 have := List.length_filter_le (fun o => !rt xs a M N o) ((L.drop v).take j)
 rw [List.length_take] at this; omega
theorem wrgs_all {j : Nat} (hj : L.length ≤ v + j) : wrgs xs a v M N L j = ((L.drop v).filter fun o => !rt xs a M N o).map fun o => (o.1 : Int) - v := by
 unfold wrgs; rw [List.take_of_length_le (by rw [List.length_drop]; omega)]
theorem wrgs_sorted (hL : OkL xs a L) : (Wl.srt (((L.drop v).filter fun o => !rt xs a M N o).map fun o => (o.1 : Int) - v)).Pairwise (· < ·) := by
 have h1 : (((L.drop v).filter fun o => !rt xs a M N o).map fun o => (o.1 : Int) - v).Nodup := by
  have := (hL.sub (List.filter_sublist.trans (List.drop_sublist v L) : ((L.drop v).filter fun o => !rt xs a M N o).Sublist L)).nd
  unfold List.Nodup at *
  rw [List.pairwise_map] at *
  exact this.imp fun hne e => hne (by omega)
 have h2 := (Wl.srt_perm (((L.drop v).filter fun o => !rt xs a M N o).map fun o => (o.1 : Int) - v)).nodup_iff.2 h1
 have h3 := Wl.srt_sorted (((L.drop v).filter fun o => !rt xs a M N o).map fun o => (o.1 : Int) - v)
 exact (h3.and h2).imp fun ⟨x, y⟩ => by omega
end
structure Msg (S : Co) (w : World) (A6 : Option Addr) (c6 : Nat) (l6 : List El) (V : World) : Prop where
 kp : Kp S w V
 sh : Own V w.heap.size 34 (.slice A6 S.n c6) (cells1 l6)
 ls : LstO V w.heap.size l6
section
variable {S : Co} {w V V' : World} {A6 : Option Addr} {c6 : Nat} {l6 : List El}
theorem Msg.below (h : Msg S w A6 c6 l6 V) (hb : Below V.heap.size V V') : Msg S w A6 c6 l6 V' := ⟨h.kp.below hb, h.sh.below hb, h.ls.below hb⟩
theorem Msg.grown (H : S.Ok w) (h : Msg S w A6 c6 l6 V) {v : Value} {ws : List Int} (ho : Own V w.heap.size 3 v (zs ws)) (hg : V.grownBy V' v.ownBlock) : Msg S w A6 c6 l6 V' := by
 have h1 : OwnK 1 V w.heap.size 3 v (zs ws).length (zs ws) := ho
 exact ⟨Kp.later H h.kp (ho.grew h.kp.size hg), h.sh.grown hg (own_apart h.sh h1 (by decide)), fun e he => (h.ls e he).grown hg (own_apart (h.ls e he) h1 (by decide))⟩
end
set_option maxRecDepth 100000 in
set_option maxHeartbeats 16000000 in
theorem message_calls (PS : Poly.Spec) (T : Wl.Spec) {S : Co} {w : World} (h : S.Ok w) (A : Option Addr) (l : List El) (m c : Nat) (hl : l.length = m) (hm : m ≤ 300) (hc : m ≤ c) (hE : Els S.g w A l) (L : List (Nat × List F8)) (hI : Is l L) (hL : OkL S.xs S.a L) (hv : ∀ o ∈ L.drop S.v, S.v ≤ o.1)
  (P : Option Addr) (ps : List Int) (k d : Nat) (hk : ps.length = k) (hk2 : k ≤ 1000) (hp : Row w P (zs ps)) (t : Nat) (ht : S.a + 1 + t ≤ m) :
  Calls Tryz.prog 63 #[.pointer (some ⟨S.b, 0, none⟩), .slice A m c, .slice P k d, .int .i64 (t : Nat)] w (MPost S w L ps t) := by
 have hmx : Tryz.prog.follows .mixedOrders = true := by kernel_rfl
 have hn := h.nums
 have HMay := Lib.hid (mayBeWrong_calls h P ps k d t hk (by omega) hp)
 by_cases hmay : May S.v ps t
 ·have hLm : L.length = m := by rw [← hI.length, hl]
  have hwl := wo_length hL ps
  have hwn : ((wo L ps).take (S.a + 1)).length = S.a + 1 := by have := hmay.1; rw [List.length_take]; omega
  obtain ⟨M, N, hM, hN, hR⟩ := mats_exist h.par.P ((hL.sub (wo_sub _ ps)).sub (List.take_sublist (S.a + 1) _)) hwn
  have HMay2 := HMay.out
  rw [decide_eq_true hmay] at HMay2
  have HMy := Lib.hid HMay2
  have HMay3 := Lib.hid hmay
  have H := Lib.hid h
  have HE := Lib.hid hE
  have HI := Lib.hid hI
  have HL := Lib.hid hL
  have HM := Lib.hid hl
  have HLm := Lib.hid hLm
  have HV := Lib.hid hv
  have HSM := Lib.hid hM
  have HSN := Lib.hid hN
  have HR := Lib.hid hR
  have HN := Lib.hid hn
  have hm0 : 0 < l.length := by omega
  obtain ⟨b, off, rfl, -, -⟩ := row2_at hE.row hm0
  have HWo : Hid (∀ V, Kp S w V → Calls Tryz.prog 93 #[.slice (some ⟨b, off, none⟩) m c, .slice P k d] V fun e w' => ∃ n1 d1 b1 o1, e = .returned (.slice (some ⟨b1, o1, none⟩) n1 d1) ∧ S.a + 1 ≤ d1 ∧ Els S.g w' (some ⟨b1, o1, none⟩) (kept l ps) ∧ Kp S w w') := Lib.hid fun V hV => by
   have hrow : Row V P (zs ps) := row_keep hp h.fld.fld (zs_kind ps) hV.past
   refine (without_calls (some ⟨b, off, none⟩) l m c P ps k d V hl (by omega) (hE.past h.fld.fld hV.past).row hk hk2 hrow).mono ?_
   rintro e w' ⟨v, rfl, hO, hB⟩
   obtain ⟨P1, d1, rfl, hd1, hr1, -⟩ := hO.shape
   have hkl : (kept l ps).length = (wo L ps).length := (kept_wo hI ps).length
   have hn1 : S.a + 1 ≤ (kept l ps).length := by rw [hkl]; rw [List.length_take] at hwn; omega
   obtain ⟨b1, o1, rfl, -, -⟩ := row2_at hr1 (by omega : 0 < (kept l ps).length)
   have hV' := hV.below hB
   exact ⟨_, d1, b1, o1, rfl, by omega, ⟨hr1, (hE.past h.fld.fld hV'.past).lst.sub fun e he => (List.mem_filter.1 he).1⟩, hV'⟩
  have HMat : Hid (∀ V b1 o1 d1, Kp S w V → Els S.g V (some ⟨b1, o1, none⟩) (kept l ps) → Calls Tryz.prog 59 #[.pointer (some ⟨S.b, 0, none⟩), .slice (some ⟨b1, o1, none⟩) (S.a + 1) d1] V fun e w' => ∃ D d nb, nb = S.aa * S.a ∧ e = .returned (.agg #[.int .i64 S.aa, .int .i64 S.a, .slice D nb d]) ∧ nb ≤ d ∧ BF S.g w' D (bothL S.a M N) ∧ Kp S w w') := Lib.hid fun V b1 o1 d1 hV hE1 => by
   have hkw := kept_wo hI ps
   have hIt : Is ((kept l ps).take (S.a + 1)) ((wo L ps).take (S.a + 1)) := by
    unfold Is at *
    rw [List.map_take, List.map_take, hkw]
   have hEt : Els S.g V (some ⟨b1, o1, none⟩) ((kept l ps).take (S.a + 1)) := ⟨by rw [cells2_take]; exact row_take hE1.row _, hE1.lst.sub fun e he => List.mem_of_mem_take he⟩
   refine (matrices_calls PS T hV.ok (some ⟨b1, o1, none⟩) ((kept l ps).take (S.a + 1)) (S.a + 1) d1 (hIt.length.trans hwn) rfl hEt _ hIt ((hL.sub (wo_sub _ ps)).sub (List.take_sublist (S.a + 1) _)) hM hN hR).mono ?_
   rintro e w' ⟨D, dd, nb, hnb, rfl, hdd, hO, hf, hp'⟩
   exact ⟨D, dd, nb, hnb, rfl, hdd, BF.own hf hO, hV.go hf hp'⟩
  have HSh : Hid (∀ V D nb d, Kp S w V → nb = S.aa * S.a → BF S.g V D (bothL S.a M N) → nb ≤ d → Calls Tryz.prog 58 #[.pointer (some ⟨S.b, 0, none⟩), .agg #[.int .i64 S.aa, .int .i64 S.a, .slice D nb d]] V fun e w' => ∃ A6 c6 l6, e = .returned (.slice A6 S.n c6) ∧ S.n ≤ c6 ∧ l6.map El.s = (List.range S.n).map (node S.xs S.v S.a M N) ∧ Msg S w A6 c6 l6 w') := Lib.hid fun V D nb d hV hnb hD hd => by
   refine (shares_calls hV.ok hM hN D nb d hnb hD hd).mono ?_
   rintro e w' ⟨A6, c6, l6, rfl, hc6, hO, hL6, hm6, hf, hp'⟩
   exact ⟨A6, c6, l6, rfl, hc6, hm6, hV.go hf hp', (own1_of hO).1.more hV.size, hL6.more hV.size⟩
  have HC : Hid (∀ V, Kp S w V → V.cell? ⟨S.b, 4, none⟩ = some (.int .i64 S.a)) := Lib.hid fun V hV => by
   obtain ⟨-, -, -, -, x4, -⟩ := hV.ok.cells
   exact x4
  have hw1 : IntKind.i64.wrap ((S.a : Int) + 1) = (S.a : Int) + 1 := IntWalk.i64_in _ (by omega)
  have hw2 : ((S.a : Int) + 1).toNat = S.a + 1 := by omega
  have hw3 : (0 : Int) ≤ (S.a : Int) + 1 := by omega
  clear h hE hI hL hl hLm hv hM hN hR hn hmay HMay HMay2 hwl hwn hp hk hm0
  go_enter Tryz.func63, Tryz.ntmps63
  go_wp2_with fail
  refine HMy.out.mono ?_
  rintro e w1 ⟨rfl, hb1⟩
  have HK := Lib.hid (Kp.start H.out |>.below hb1 |>.drew)
  have HS := Lib.hid (HC.out _ HK.out)
  clear hb1
  go_wp2_with fail
  go_region_held (fun V => V.cell? ⟨S.b, 4, none⟩ = some (.int .i64 S.a)) (exact HS.out)
   ((first
    | (go_at_call 93; (with_reducible refine (HWo.out _ HK.out).mono ?_); rintro e2 w2 ⟨n1, d1, b1, o1, rfl, hd1, hE1, hK1⟩; replace HK := Lib.hid hK1; replace HS := Lib.hid (HC.out _ hK1); have HE1 := Lib.hid hE1; have hs1 : (S.a : Int) + 1 ≤ (d1 : Int) := (by omega); clear hE1 hK1 hd1)
    | (go_at_call 59; (with_reducible refine (HMat.out _ b1 o1 d1 HK.out HE1.out).mono ?_); rintro e3 w3 ⟨D, dd, nb, hnb, rfl, hdd, hD, hK1⟩; replace HK := Lib.hid hK1; replace HS := Lib.hid (HC.out _ hK1); have HNb := Lib.hid hnb; have HDd := Lib.hid hdd; have HD := Lib.hid hD; clear hK1 hnb hdd hD)
    | (go_at_call 58; (with_reducible refine (HSh.out _ D nb dd HK.out HNb.out HD.out HDd.out).mono ?_); rintro e4 w4 ⟨A6, c6, l6, rfl, hc6, hm6, hMsg⟩; replace HS := Lib.hid (HC.out _ hMsg.kp); have HMsg := Lib.hid hMsg; have HC6 := Lib.hid hc6; have HM6 := Lib.hid hm6; clear hMsg hc6 hm6)))
  clear HWo HMat HSh hw1 hw2 hw3 hs1 HMy HE1 HNb HDd HD HK HS HC
  obtain ⟨mv, hmv⟩ : ∃ mv, m - S.v = mv := ⟨_, rfl⟩
  have hmvn : S.v + mv = m := by have := HN.out; omega
  have HMv := Lib.hid hmvn
  have hmv9 : mv ≤ 300 := by omega
  have hvc : S.v < c := by have := HN.out; omega
  have hvc' : (S.v : Int) < (c : Int) := by omega
  have hv0 : (0 : Int) ≤ (S.v : Int) := by omega
  have hvm : (S.v : Int) ≤ (m : Int) := by omega
  have hmc' : (m : Int) ≤ (c : Int) := by omega
  have hmv2 : (m : Int) - (S.v : Int) = (mv : Int) := by omega
  obtain ⟨-, -, -, -, -, x5, -⟩ := HMsg.out.kp.ok.cells
  clear hmvn
  go_wp2_with fail
  clear x5 hvc hvc' hv0 hvm hmc' hmv hmv2
  go_loopw [12, 41] (fun o i wr => ∃ j : Nat, j ≤ mv ∧ i = .int .i64 j ∧ Hid (Msg S w A6 c6 l6 wr) ∧ Hid (Own wr w.heap.size 3 o (zs (wrgs S.xs S.a S.v M N L j)))) (fun _ i _ => mv - (intOf i).toNat)
  case atStart => exact ⟨0, by omega, rfl, HMsg, Lib.hid (by simpa [wrgs, zs] using Own.nil _ _ _)⟩
  case round =>
   clear HMsg
   obtain ⟨j, hj, rfl, HMsg, HO⟩ := hrel
   by_cases hjm : j < mv
   ·have hm9 := HMv.out
    have hti : S.v + j < l.length := by rw [HM.out]; omega
    have htL : S.v + j < L.length := by rw [HLm.out]; omega
    obtain ⟨b', off', e0, hc0, hc1⟩ := row2_at (HE.out.past H.out.fld.fld HMsg.out.kp.past).row hti
    cases e0
    rw [show off + (S.v + j) * 2 = off + S.v * 2 + j * 2 by omega] at hc0 hc1
    obtain ⟨hup, hus⟩ := HI.out.get hti htL
    have hmem := List.getElem_mem htL
    have hdm : L[S.v + j] ∈ L.drop S.v := List.mem_iff_getElem.2 ⟨j, by rw [List.length_drop]; omega, by rw [List.getElem_drop]⟩
    have hge := HV.out _ hdm
    have hlt := HL.out.lt _ hmem
    rw [H.out.len] at hlt
    have hnum := HN.out
    obtain ⟨q, hq⟩ : ∃ q, (L[S.v + j]).1 = S.v + q := ⟨(L[S.v + j]).1 - S.v, by omega⟩
    have hqn : q < S.n := by omega
    have hl6 : l6.length = S.n := by have := congrArg List.length HM6.out; simpa using this
    have hq6 : q < l6.length := by rw [hl6]; exact hqn
    have hs6 : (l6[q]).s = node S.xs S.v S.a M N q := by
     have h1 : (l6.map El.s)[q]? = ((List.range S.n).map (node S.xs S.v S.a M N))[q]? := by rw [HM6.out]
     simpa [hq6, hqn] using h1
    have hrt : rt S.xs S.a M N L[S.v + j] = decide ((l[S.v + j]).s = (l6[q]).s) := by
     rw [hus, hs6]; unfold rt node; rw [hq]
    have hup2 : (l[S.v + j]).p = (S.v : Int) + (q : Int) := by rw [hup, hq]; simp
    have hW1 := wrgs_succ (xs := S.xs) (a := S.a) (M := M) (N := N) htL
    rw [hrt, hq, show (((S.v + q : Nat) : Int) - (S.v : Int)) = (q : Int) by omega] at hW1
    rw [hup2] at hc0
    have hbl := ((HE.out.past H.out.fld.fld HMsg.out.kp.past).lst _ (List.getElem_mem hti)).1.by_
    have hb6 := Own.bytes (HMsg.out.ls _ (List.getElem_mem hq6))
    obtain ⟨uA, h1⟩ : ∃ x, (l[S.v + j]).A = x := ⟨_, rfl⟩
    obtain ⟨us, h2⟩ : ∃ x, (l[S.v + j]).s = x := ⟨_, rfl⟩
    obtain ⟨uc, h3⟩ : ∃ x, (l[S.v + j]).c = x := ⟨_, rfl⟩
    obtain ⟨un, h4⟩ : ∃ x, us.length = x := ⟨_, rfl⟩
    rw [h1, h2, h3, h4] at hc1
    rw [h1, h2] at hbl
    rw [h2] at hW1
    obtain ⟨b6, o6, rfl, hc6⟩ := cells1_at (Mat.Own.row' (HMsg.out.below ((Below.refl _ _).alloc (Nat.le_refl _) (.cells #[.int .i64 ((S.v : Int) + (q : Int)), .slice uA un uc] 115))).sh) hq6
    obtain ⟨sA, g1⟩ : ∃ x, (l6[q]).A = x := ⟨_, rfl⟩
    obtain ⟨ss, g2⟩ : ∃ x, (l6[q]).s = x := ⟨_, rfl⟩
    obtain ⟨sc, g3⟩ : ∃ x, (l6[q]).c = x := ⟨_, rfl⟩
    obtain ⟨sn, g4⟩ : ∃ x, ss.length = x := ⟨_, rfl⟩
    rw [g1, g2, g3, g4] at hc6
    rw [g1, g2] at hb6
    rw [g2] at hW1
    have HMs1 := Lib.hid (HMsg.out.below ((Below.refl _ _).alloc (Nat.le_refl _) (.cells #[.int .i64 ((S.v : Int) + (q : Int)), .slice uA un uc] 115)))
    have HO1 := Lib.hid (HO.out.alloc (.cells #[.int .i64 ((S.v : Int) + (q : Int)), .slice uA un uc] 115))
    have HEq : Hid (∀ V : World, V.heap = (wr.alloc (.cells #[.int .i64 ((S.v : Int) + (q : Int)), .slice uA un uc] 115)).heap → Calls Tryz.prog 101 #[.slice uA un uc, .slice sA sn sc] V fun e w' => e = .returned (.bool (decide (us = ss))) ∧ w' = V) := Lib.hid fun V hV => by
     have k1 := hbl.alloc (.cells #[.int .i64 ((S.v : Int) + (q : Int)), .slice uA un uc] 115)
     have k2 := hb6.alloc (.cells #[.int .i64 ((S.v : Int) + (q : Int)), .slice uA un uc] 115)
     exact (Mat.equal_calls uA sA us ss un sn uc sc V h4 g4 ⟨k1.row.keep fun p _ => by simp only [World.cell?, hV], k1.lt⟩ ⟨k2.row.keep fun p _ => by simp only [World.cell?, hV], k2.lt⟩).mono fun e w' ⟨x1, x2⟩ => ⟨x1, x2.symm⟩
    have hv0 := (Block.new wr 115 #[.int .i64 ((S.v : Int) + (q : Int)), .slice uA un uc]).cell 0
    have hv1 := (Block.new wr 115 #[.int .i64 ((S.v : Int) + (q : Int)), .slice uA un uc]).cell 1
    obtain ⟨-, -, -, -, -, x5, -⟩ := HMs1.out.kp.ok.cells
    have hwq : IntKind.i64.wrap ((S.v : Int) + (q : Int) - (S.v : Int)) = (q : Int) := by rw [show (S.v : Int) + (q : Int) - (S.v : Int) = (q : Int) by omega]; exact IntWalk.i64_in _ (by omega)
    have hqi : (q : Int) < (S.n : Int) := by omega
    have hjm2 : (j : Int) < (mv : Int) := by omega
    obtain ⟨bb, hbb⟩ : ∃ bb, decide (us = ss) = bb := ⟨_, rfl⟩
    rw [hbb] at HEq hW1
    have HW := Lib.hid hW1
    have hsz := HMsg.out.kp.size
    have HN9 : Hid ((zs (wrgs S.xs S.a S.v M N L j)).length ≤ 300) := Lib.hid (by rw [zs_length]; have := wrgs_length (xs := S.xs) (a := S.a) (v := S.v) (M := M) (N := N) (L := L) j; omega)
    have HRw : Hid (∀ k, Row (((wr.alloc (.cells #[.int .i64 ((S.v : Int) + (q : Int)), .slice uA un uc] 115)).drewN k).alloc (.cells #[.int .i64 (q : Int)] 3)) (some ⟨wr.heap.size + 1, 0, none⟩) (zs [(q : Int)])) := Lib.hid fun k => by
     have h9 := Row.new ((wr.alloc (.cells #[.int .i64 ((S.v : Int) + (q : Int)), .slice uA un uc] 115)).drewN k) #[.int .i64 (q : Int)] 3 (0, 0)
     rw [show ((wr.alloc (.cells #[.int .i64 ((S.v : Int) + (q : Int)), .slice uA un uc] 115)).drewN k).heap.size = wr.heap.size + 1 from World.size_alloc _ _] at h9
     exact h9
    clear hm9 hti htL hup hus hmem hdm hge hlt hnum hq hqn hl6 hq6 hs6 hrt hup2 hW1 hbl hb6 h1 h2 h3 h4 g1 g2 g3 g4 hbb HMsg HO
    cases bb
    ·go_wp2_with fail
     go_quiet (fail)
     go_wp2_with fail
     go_quiet ((go_at_call 101; refine Calls.mono (HEq.out _ rfl) ?_; rintro e9 w9 ⟨rfl, rfl⟩; exact ⟨rfl, _, rfl⟩))
     go_wp2_with (at_builtin; refine wpList_app _ rfl _ _ _ rfl w.heap.size 3 _ 8 Tryz.underlying44 info_i rfl (by omega) _ _ rfl ((HO1.out.drewN _).alloc _) (some ⟨wr.heap.size + 1, 0, none⟩) 1 1 (zs [(q : Int)]) rfl rfl (HRw.out _) (zs_one _) (by have := HN9.out; omega) (by simp; omega) ?_; rintro v2 w3 hown hg3 -)
     have HMs3 := Lib.hid (((HMs1.out.below (Below.drewN' (Below.refl _ _) _)).below ((Below.refl _ _).alloc (Nat.le_refl _) (.cells #[.int .i64 (q : Int)] 3))).grown H.out ((HO1.out.drewN _).alloc _) hg3)
     rw [← zs_append, show wrgs S.xs S.a S.v M N L j ++ [(q : Int)] = wrgs S.xs S.a S.v M N L (j + 1) by rw [HW.out]; rfl] at hown
     have HO3 := Lib.hid hown
     clear hown hg3
     go_roundw
     case rel => exact ⟨j + 1, by omega, by go_num, HMs3, HO3⟩
     case measure => simp [intOf]; omega
    ·go_wp2_with fail
     go_quiet (fail)
     go_wp2_with fail
     go_quiet ((go_at_call 101; refine Calls.mono (HEq.out _ rfl) ?_; rintro e9 w9 ⟨rfl, rfl⟩; exact ⟨rfl, _, rfl⟩))
     have HW2 : Hid (wrgs S.xs S.a S.v M N L j = wrgs S.xs S.a S.v M N L (j + 1)) := Lib.hid (by rw [HW.out]; simp)
     rw [HW2.out] at HO1
     go_wp2
     go_roundw
     case rel => exact ⟨j + 1, by omega, by go_num, Lib.hid (HMs1.out.below (Below.drewN' (Below.refl _ _) _)), Lib.hid (HO1.out.drewN _)⟩
     case measure => simp [intOf]; omega
   ·obtain rfl : j = mv := by omega
    have hm9 := HMv.out
    have hno := HN.out
    have hwa := wrgs_all (xs := S.xs) (a := S.a) (v := S.v) (M := M) (N := N) (L := L) (j := j) (by rw [HLm.out]; omega)
    have hown := HO.out
    rw [hwa] at hown
    obtain ⟨W, hW⟩ : ∃ W, (((L.drop S.v).filter fun o => !rt S.xs S.a M N o).map fun o => (o.1 : Int) - S.v) = W := ⟨_, rfl⟩
    have hWl : W.length = ((L.drop S.v).filter fun o => !rt S.xs S.a M N o).length := by rw [← hW, List.length_map]
    have hst := wrgs_sorted (v := S.v) (M := M) (N := N) HL.out
    rw [hW] at hown hst
    have hWm : W.length ≤ 300 := by rw [← hW, ← hwa]; have := wrgs_length (xs := S.xs) (a := S.a) (v := S.v) (M := M) (N := N) (L := L) j; omega
    obtain ⟨Bw, dw, rfl, -, -⟩ := hown.form
    have hcap : W.length ≤ dw := own_cap2 (n := W.length) (by rw [zs_length] at hown; exact hown) (zs_length _)
    rw [zs_length] at hown ⊢
    have HO2 := Lib.hid hown
    obtain ⟨wn, hwn⟩ : ∃ wn, W.length = wn := ⟨_, rfl⟩
    rw [hwn] at HO2 hWl hcap hWm ⊢
    by_cases hgt : t < wn
    ·have hgt' : decide ((wn : Int) > (t : Int)) = true := by simp; omega
     have HX : Hid (MPost S w L ps t (.returned (.tuple #[.slice none 0 0, .slice none 0 0, .bool false])) wr) := Lib.hid ⟨[], [], false, .inr ⟨HMay3.out, M, N, HSM.out, HSN.out, HR.out, .inl ⟨by rw [← hWl]; exact hgt, rfl, rfl, rfl⟩⟩, none, 0, none, 0, rfl, Nat.le_refl _, Nat.le_refl _, Own.nil _ _ _, Own.nil _ _ _, HMsg.out.kp.fldp, HMsg.out.kp.past⟩
     have hg2 : (t : Int) < (wn : Int) := by omega
     clear hm9 hno hwa hown hW hWl hst hWm hcap hwn hgt hgt' hj hjm HO
     have hlt : ¬ ((j : Int) < (j : Int)) := by omega
     go_wp2
     go_ret3
     exact HX.out
    ·have hgt' : decide ((wn : Int) > (t : Int)) = false := by simp; omega
     have HSo := Lib.hid (Wl.sort_calls w.heap.size Bw W wn dw wr hwn (by omega) HO2.out)
     have hkk : S.k ≤ S.n := by omega
     have hkk' : (S.k : Int) ≤ (c6 : Int) := by have := HC6.out; omega
     have hk0 : (0 : Int) ≤ (S.k : Int) := by omega
     have hl6 : l6.length = S.n := by have := congrArg List.length HM6.out; simpa using this
     have HC9 : Hid (∀ V, Msg S w A6 c6 l6 V → Calls Tryz.prog 75 #[.slice A6 S.k c6] V (ROwn V (flatE (l6.take S.k)) (flatE (l6.take S.k)).length)) := Lib.hid fun V hV => by
      have hr6 : Row V A6 (cells1 (l6.take S.k)) := by rw [cells1_take]; exact row_take (Mat.Own.row' hV.sh) _
      refine concat_calls S.g A6 (l6.take S.k) S.k c6 V (by rw [List.length_take, hl6]; omega) (by omega) hr6 ((hV.ls.lst hV.kp.fldp).sub fun e he => List.mem_of_mem_take he) fun e he => ?_
      have h1 : e.s ∈ l6.map El.s := List.mem_map.2 ⟨e, List.mem_of_mem_take he, rfl⟩
      rw [HM6.out] at h1
      obtain ⟨j9, -, h2⟩ := List.mem_map.1 h1
      rw [← h2, node, shr_length]
      omega
     have HFl : Hid (flatE (l6.take S.k) = msgOf S.k (node S.xs S.v S.a M N)) := Lib.hid (by
      unfold flatE msgOf
      rw [List.flatMap_def, List.flatMap_def, List.map_take, HM6.out, ← List.map_take, List.take_range, Nat.min_eq_left hkk])
     have HMI : Hid (MsgIs S.xs S.k S.a S.v L ps t (msgOf S.k (node S.xs S.v S.a M N)) (Wl.srt W) true) := Lib.hid (.inr ⟨HMay3.out, M, N, HSM.out, HSN.out, HR.out, .inr ⟨by rw [← hWl]; omega, rfl, rfl, hst, fun z => by rw [(Wl.srt_perm W).mem_iff, ← hW]⟩⟩)
     have HSl : Hid ((Wl.srt W).length = wn) := Lib.hid (by rw [Wl.srt_length, hwn])
     have HCp := Lib.hid hcap
     have hg2 : ¬ ((t : Int) < (wn : Int)) := by omega
     clear hm9 hno hwa hown hW hWl hst hWm hcap hwn hgt hgt' hj hjm HO hl6
     have hlt : ¬ ((j : Int) < (j : Int)) := by omega
     go_wp2_with fail
     refine HSo.out.mono ?_
     rintro e w5 ⟨rfl, hO5, hg5⟩
     have HMs5 := Lib.hid (HMsg.out.grown H.out HO2.out hg5)
     obtain ⟨-, -, x2, -⟩ := HMs5.out.kp.ok.cells
     have HO5 := Lib.hid hO5
     clear hO5 hg5 HMsg HO2 HSo
     go_wp2_with (go_at_call 75; (with_reducible refine (HC9.out _ HMs5.out).mono ?_); rintro e w6 ⟨A9, c9, rfl, hc9, hO9, hb9⟩)
     have hk6 := HMs5.out.kp.below hb9
     have HX : Hid (MPost S w L ps t (.returned (.tuple #[.slice A9 (flatE (l6.take S.k)).length c9, .slice Bw wn dw, .bool true])) w6) := Lib.hid ⟨msgOf S.k (node S.xs S.v S.a M N), Wl.srt W, true, HMI.out, A9, c9, Bw, dw, by rw [HFl.out, HSl.out], by rw [← HFl.out]; exact hc9, by rw [HSl.out]; exact HCp.out, by rw [← HFl.out]; exact hO9.more HMs5.out.kp.size, by rw [HSl.out]; exact HO5.out.below hb9, hk6.fldp, hk6.past⟩
     clear hk6 hO9 hb9 hc9
     go_ret3
     exact HX.out
 ·have hMy := HMay.out
  rw [decide_eq_false hmay] at hMy
  have HMy := Lib.hid hMy
  have H := Lib.hid h
  have HMI : Hid (MsgIs S.xs S.k S.a S.v L ps t [] [] false) := Lib.hid (.inl ⟨hmay, rfl, rfl, rfl⟩)
  clear h hE hI hL hl hv hn hmay HMay hMy hp hk
  go_enter Tryz.func63, Tryz.ntmps63
  go_wp2_with fail
  refine HMy.out.mono ?_
  rintro e w1 ⟨rfl, hb1⟩
  have hk1 := (Kp.start H.out).below hb1
  have HX : Hid (MPost S w L ps t (.returned (.tuple #[.slice none 0 0, .slice none 0 0, .bool false])) w1) := Lib.hid ⟨[], [], false, HMI.out, none, 0, none, 0, rfl, Nat.le_refl _, Nat.le_refl _, Own.nil _ _ _, Own.nil _ _ _, hk1.fldp, hk1.past⟩
  clear hk1 hb1
  go_wp2
  go_ret3
  exact HX.out
end Go.Proofs.YtjoghbmedfmioaaGreat.Ms

namespace Go.Proofs.YtjoghbmedfmioaaGreat.Ms
open Go.RowKit Go.Shelf
theorem run_app_keep (w : World) (B : Nat) (hB : B ≤ w.heap.size) (v : Value) (n : Nat) (xs : List Value) (hown : OwnK 1 w B 3 v n xs) (hn : n ≤ 1000) (ad : Addr) (c : Nat) (x : Value) (h1 : x.oneCell' = true) (hx : w.cell? ad = some x) :
  ∃ v' w', (Builtin.append_ #[44, 44] 44 #[v, .slice (some ad) 1 c]).run Tryz.prog w = .ok v' w' ∧ OwnK 1 w' B 3 v' (n + 1) (xs ++ [x]) ∧ OwnK 1 w' B 3 v n xs ∧ w.grownBy w' v.ownBlock := by
 obtain ⟨i, hi, hi1, hi2, hi3⟩ := info_parts Rd.info_i
 have hnews : ∀ j u, [x][j]? = some u → w.cell? (ad.add j) = some u := fun j u hu => by
  cases j with
  | zero =>
   simp only [List.getElem?_cons_zero, Option.some.injEq] at hu
   subst hu
   rw [show ad.add 0 = ad by unfold Addr.add; split <;> simp_all]
   exact hx
  | succ j => simp at hu
 have ho : ∀ u ∈ [x], u.oneCell' = true := fun u hu => by
  rw [List.mem_singleton] at hu; rw [hu]; exact h1
 obtain ⟨v', w', hrun, h2, h3, -, -⟩ := run_append_own_at (P := Tryz.prog) w B 44 44 3 i _ 1 8 Tryz.underlying44 hi hi1 hi2 hi3 rfl (by omega) v n xs hown ad 1 c [x] rfl hnews ho (by simp only [maxLen]; omega) (by omega) hB
 refine ⟨v', w', hrun, h2, ?_, h3⟩
 rcases hown.2 with ⟨rfl, rfl⟩ | ⟨g, cap, cur, rfl, hbg, hg, hnc, hcm, hcs, htake⟩
 ·have hx : xs = [] := List.eq_nil_of_length_eq_zero (by simpa using hown.1)
  subst hx
  exact World.ownsRow_nil w' B _ 1
 ·by_cases hroom : n + 1 ≤ cap
  ·have hr := run_append_room (P := Tryz.prog) w 44 44 3 i Tryz.underlying44 hi g n cap cur hg ad 1 c [x] (by rw [hi2]; rfl) hnews ho hroom (by rw [hi2, hcs]; simp; omega)
   rw [hrun] at hr
   injection hr with e1 e2
   subst e2
   refine ⟨hown.1, .inr ⟨g, cap, _, rfl, hbg, setRow_heap w g cur _ _ _ hg, hnc, hcm, ?_, ?_⟩⟩
   ·rw [hi2]
    simp only [List.size_toArray, List.length_append, List.length_take, List.length_drop, Array.length_toList, List.length_singleton]
    omega
   ·rw [hi2, htake, List.append_assoc, ← hown.1]
    exact List.take_left
  ·have holds : ∀ j u, xs[j]? = some u → w.cell? ((⟨g, 0, none⟩ : Addr).add j) = some u := World.ownsRow.cells hown (g := g) rfl
   have hr := run_append_grow (P := Tryz.prog) w 44 44 3 i _ Tryz.underlying44 hi hi1 ⟨g, 0, none⟩ n cap xs (by rw [hi2]; exact hown.1) holds ad 1 c [x] (by rw [hi2]; rfl) hnews (by omega) (by omega) (growslice_fits (by omega) (by rw [hi3]; omega))
   rw [hrun] at hr
   injection hr with e1 e2
   subst e2
   exact ⟨hown.1, .inr ⟨g, cap, cur, rfl, hbg, (Below.heap_alloc w.drew _ g (hown.lt g rfl).2).trans hg, hnc, hcm, hcs, htake⟩⟩
end Go.Proofs.YtjoghbmedfmioaaGreat.Ms
