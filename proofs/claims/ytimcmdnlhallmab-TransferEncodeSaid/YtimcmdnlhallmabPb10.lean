/- Of the program, joined: TrKnown0, TrDecode, TrSt, TrWorks, TrRefNew. -/
import Derived.Test.YtimcmdnlhallmabPb09
import Derived.WalkMore
import Derived.Test.YtimcmdnlhallmabPb03
namespace Go.Proofs.Ytimcmdnlhallmab.Tr
open Go.RowKit Go.Shelf F8 Poly GF Rd Ms
attribute [local go_sem] Oper.semAt_some
def KnG (n : Nat) (l : List El) (w : World) (e : Ending) (w' : World) : Prop :=
 (Cons (items n (nat (shE l))) ∧ ∃ A c B d, e = .returned (.tuple #[.slice A (seen (items n (nat (shE l)))).length c, .slice B (seen (items n (nat (shE l)))).length d, .bool true]) ∧ (seen (items n (nat (shE l)))).length ≤ c ∧ (seen (items n (nat (shE l)))).length ≤ d ∧
  Own w' w.heap.size 3 (.slice A (seen (items n (nat (shE l)))).length c) (zs (plI (seen (items n (nat (shE l)))))) ∧ Own w' w.heap.size 5 (.slice B (seen (items n (nat (shE l)))).length d) (bv (bs (ysD (seen (items n (nat (shE l))))))) ∧ Below w.heap.size w w') ∨
 (¬ Cons (items n (nat (shE l))) ∧ e = .returned (.tuple #[.slice none 0 0, .slice none 0 0, .bool false]) ∧ Below w.heap.size w w')
theorem nat_snoc (l : List El) (e : El) : nat (shE (l ++ [e])) = nat (shE l) ++ [(e.p.toNat, e.s)] := by simp [nat, shE]
theorem seen_le {n : Nat} {sh : List (Nat × List F8)} (h : ∀ o ∈ sh, o.1 < n ∧ o.2.length = n - 1) {L : List (Nat × F8)} (hL : ∀ z ∈ L, z ∈ items n sh) : (seen L).length ≤ rs n n := by
 have h1 := nodup_le (rs n n) _ (seen_nodup L) fun p hp => by
  have h2 := (seen_places L p).1 hp
  obtain ⟨z, hz, rfl⟩ := List.mem_map.1 h2
  obtain ⟨o, ho, hpo⟩ := (mem_items h).1 (List.mem_map_of_mem (f := Prod.fst) (hL z hz))
  exact plcs_lt (h o ho).1 hpo
 rwa [List.length_map] at h1
attribute [-go_sem] Builtin.append_
set_option maxRecDepth 100000 in
set_option maxHeartbeats 16000000 in
theorem known_calls {S : Tc} {w : World} (h : S.Ok w) (A : Option Addr) (l : List El) (m c : Nat) (hl : l.length = m) (hm9 : m ≤ 1000) (hE : Els S.g w A l) (hok : ShOk S.n (S.n - 1) (shE l)) :
  Calls Try.prog 39 #[.pointer (some ⟨S.b, 0, none⟩), .slice A m c] w (KnG S.n l w) := by
 have H := Lib.hid h
 have HE := Lib.hid hE
 have HL := Lib.hid hl
 have hn := h.n24
 have HOk := Lib.hid (nat_ok hok).1
 have HE9 := Lib.hid h.e255
 have hmm := @run_makeMap Try.prog
 have HSh : Hid (∀ e ∈ l, ∃ i : Nat, e.p = (i : Int) ∧ i < S.n ∧ e.s.length = S.n - 1) := Lib.hid fun e he => by
  have := hok.1 (e.p, e.s) (List.mem_map.2 ⟨e, he, rfl⟩)
  exact ⟨e.p.toNat, by omega, by omega, this.2⟩
 clear h hE hl hok
 go_enter Try.func39, Try.ntmps39
 go_wp2
 go_loopw [4, 5, 17] (fun pv yv tv wr => ∃ t : Nat, t ≤ m ∧ tv = .int .i64 t ∧ Hid (KO w w.heap.size (items S.n (nat (shE (l.take t)))) pv yv wr)) (fun _ _ tv _ => m - (intOf tv).toNat)
 case atStart =>
  refine ⟨0, by omega, rfl, Lib.hid ⟨Own.nil _ _ _, Own.nil _ _ _, ⟨_, MapF.made w _ _ _, fun p hp => ⟨fun _ => rfl, fun y hy => by simp [items, nat, shE, seen] at hy⟩⟩, (Below.refl _ _).alloc (Nat.le_refl _) _, fun x hx => by simp [items, nat, shE] at hx⟩⟩
 case round =>
  clear hmm
  obtain ⟨t, ht, rfl, HK⟩ := hrel
  by_cases htm : t < m
  ·have hd : decide (t < m) = true := by simpa using htm
   have hti : t < l.length := by rw [HL.out]; exact htm
   obtain ⟨b, off, rfl, hc0, hc1⟩ := row2_at (HE.out.below HK.out.bel).row hti
   have HTk : Hid (l.take (t + 1) = l.take t ++ [l[t]]) := Lib.hid (take_succ' l hti)
   have hmem : l[t] ∈ l := List.getElem_mem hti
   obtain ⟨e, he⟩ : ∃ e, l[t] = e := ⟨_, rfl⟩
   rw [he] at hc0 hc1 HTk hmem
   obtain ⟨i, hi1, hin, hsl⟩ := HSh.out e hmem
   obtain ⟨ep, eA, es, ec⟩ := e
   obtain rfl : ep = (i : Int) := hi1
   obtain ⟨u, hu⟩ : ∃ u, S.n - 1 = u := ⟨_, rfl⟩
   have hsl2 : es.length = u := by rw [← hu]; exact hsl
   replace hc0 : wr.cell? ⟨b, off + t * 2, none⟩ = some (.int .i64 (i : Int)) := hc0
   replace hc1 : wr.cell? ⟨b, off + t * 2 + 1, none⟩ = some (.slice eA es.length ec) := hc1
   rw [hsl2] at hc1
   have hsw := HK.out.bel.size
   have hba : Below wr.heap.size wr (wr.alloc (.cells #[.int .i64 (i : Int), .slice eA u ec] 52)) := (Below.refl _ _).alloc (Nat.le_refl _) _
   have hv0 := (Block.new wr 52 #[.int .i64 (i : Int), .slice eA u ec]).cell 0
   have HPl := Lib.hid (placesOf_calls ((H.out.below HK.out.bel).below hba) i hin)
   have HBk := Lib.hid (Block.new wr 52 #[.int .i64 (i : Int), .slice eA u ec])
   have HBa := Lib.hid hba
   have HSl := Lib.hid hsl2
   have HU := Lib.hid hu
   have HMe := Lib.hid hmem
   have hu9 : u ≤ 23 := by omega
   rw [hu] at HPl
   obtain ⟨pb, hpb⟩ : ∃ pb, wr.heap.size = pb := ⟨_, rfl⟩
   have HPb := Lib.hid hpb
   clear hba hsl hsl2 he hmem hu
   go_wp2_with fail
   refine HPl.out.mono ?_
   rintro e w3 ⟨A3, c3, rfl, hc3, hO3, hb3⟩
   rw [World.size_alloc, hpb] at hO3
   have hplv : ∀ x, (Value.slice A3 u c3).ownBlock = some x → pb + 1 ≤ x := fun x hx => (own_lt hO3 hx).1
   have HKs : Hid (KS w w.heap.size pb #[.int .i64 (i : Int), .slice eA u ec] (pb + 1) (.slice A3 u c3) (plT S.n i S.n) (plI (seen (items S.n (nat (shE (l.take t)))))) (ysD (seen (items S.n (nat (shE (l.take t)))))) (seen (items S.n (nat (shE (l.take t))))) (seen (items S.n (nat (shE (l.take t))))).length u4 u5 w3) := Lib.hid (by
    have hbb : Below wr.heap.size wr w3 := HBa.out.trans (hb3.mono HBa.out.size)
    refine ⟨HK.out.own1.below hbb, HK.out.own2.below hbb, HK.out.tm.below hbb, ?_, hO3, ?_, HK.out.bel.trans (hbb.mono hsw), Nat.le_refl _⟩
    ·rw [← HPb.out]
     exact HBk.out.below hb3 HBk.out.lt
    ·cases hp : (Value.slice A3 u c3).ownBlock with
     | none => exact .inl rfl
     | some x =>
      refine .inr fun e2 => ?_
      have h1 := hplv x hp
      have h2 := (own_lt HK.out.own1 e2.symm).2
      omega)
   have HCn := Lib.hid HK.out.cons
   have HLp : Hid ((plcs S.n i).length = u) := Lib.hid (by rw [plcs_length hin, HU.out])
   have HPe := Lib.hid (plT_full S.n i)
   obtain ⟨L0, hL0⟩ : ∃ L0, items S.n (nat (shE (l.take t))) = L0 := ⟨_, rfl⟩
   rw [hL0] at HKs HCn
   have HL0 := Lib.hid hL0
   have HIt : Hid (items S.n (nat (shE (l.take (t + 1)))) = L0 ++ itT S.n i es u) := Lib.hid (by
    rw [HTk.out, nat_snoc, items_snoc, hL0]
    congr 1
    have h5 := itT_full (n := S.n) (i := i) (s := es) (by rw [HSl.out, HLp.out])
    rw [HLp.out] at h5
    exact h5.symm)
   have HSub : Hid (∀ r, r ≤ u → ∀ z ∈ L0 ++ itT S.n i es r, z ∈ items S.n (nat (shE l))) := Lib.hid (fun r hr z hz => by
    have h1 : z ∈ items S.n (nat (shE (l.take (t + 1)))) := by
     rw [HIt.out]
     rcases List.mem_append.1 hz with hz | hz
     ·exact List.mem_append_left _ hz
     ·refine List.mem_append_right _ ?_
      unfold itT at hz ⊢
      exact (List.take_sublist_take_left hr).subset hz
    unfold items at h1 ⊢
    rw [List.mem_flatMap] at h1 ⊢
    obtain ⟨o, ho, hz⟩ := h1
    refine ⟨o, ?_, hz⟩
    unfold nat shE at ho ⊢
    rw [List.map_take, List.map_take] at ho
    exact List.mem_of_mem_take ho)
   clear hO3 hb3 hplv HK HPl HBa HBk hv0 hc0 hc1 hL0
   go_wp2_with fail
   go_loopw [4, 5, 26] (fun pv yv rv wr => ∃ (r kk : Nat), r ≤ u ∧ rv = .int .i64 r ∧ Hid (KS w w.heap.size pb #[.int .i64 (i : Int), .slice eA u ec] (pb + 1) (.slice A3 u c3) (plT S.n i S.n) (plI (seen (L0 ++ itT S.n i es r))) (ysD (seen (L0 ++ itT S.n i es r))) (seen (L0 ++ itT S.n i es r)) kk pv yv wr) ∧ Hid (Cons (L0 ++ itT S.n i es r)) ∧ kk = (seen (L0 ++ itT S.n i es r)).length) (fun _ _ rv _ => u - (intOf rv).toNat)
   case atStart =>
    have e0 : L0 ++ itT S.n i es 0 = L0 := by simp [itT]
    exact ⟨0, _, by omega, rfl, by rw [e0]; exact HKs, by rw [e0]; exact HCn, by rw [e0]⟩
   case round =>
    clear HKs HCn
    obtain ⟨r, kk, hr, rfl, HKs, HCn, hkk⟩ := hrel
    by_cases hru : r < u
    ·have hrp : r < (plcs S.n i).length := by rw [HLp.out]; exact hru
     have hri : r < (plT S.n i S.n).length := by rw [HPe.out, List.length_map]; exact hrp
     obtain ⟨b4, o4, hA3, hcell⟩ := zs_at (own_row HKs.out.pl) hri
     subst hA3
     have hval : (plT S.n i S.n)[r] = (((plcs S.n i)[r] : Nat) : Int) := by simp [HPe.out]
     rw [hval] at hcell
     have hpl := plcs_lt hin (List.getElem_mem hrp)
     have HEi := Lib.hid (itT_succ (n := S.n) (i := i) (s := es) (by rw [HSl.out, HLp.out]) hrp)
     obtain ⟨p, hp⟩ : ∃ p, (plcs S.n i)[r] = p := ⟨_, rfl⟩
     rw [hp] at hcell hpl HEi
     have hby := ((HE.out.below HKs.out.bel).lst _ HMe.out).1.by_
     obtain ⟨b5, o5, hA5⟩ := where_ hby (by show 0 < es.length; rw [HSl.out]; omega)
     have hA5 : eA = some ⟨b5, o5, none⟩ := hA5
     subst hA5
     have hcd := cellAt hby r (by show r < es.length; rw [HSl.out]; exact hru)
     obtain ⟨y, hy⟩ : ∃ y, coef es r = y := ⟨_, rfl⟩
     rw [hy] at HEi
     have HY := Lib.hid hy
     replace hcd : wr.cell? ⟨b5, o5 + r, none⟩ = some (.int .u8 (y.n : Nat)) := by rw [← hy]; exact hcd
     have hv0 := HKs.out.blk.cell 1
     have hv1 : wr.cell? ⟨pb, 1, none⟩ = some (.slice (some ⟨b5, o5, none⟩) u ec) := hv0
     have hpE : p < 1000 := by have := HE9.out; unfold Tc.E at this; omega
     obtain ⟨L1, hL1⟩ : ∃ L1, L0 ++ itT S.n i es r = L1 := ⟨_, rfl⟩
     have hL2 : L0 ++ itT S.n i es (r + 1) = L1 ++ [(p, y)] := by rw [HEi.out, ← List.append_assoc, hL1]
     rw [hL1] at HKs HCn hkk
     have HL2 := Lib.hid hL2
     have HSb := Lib.hid (HSub.out (r + 1) (by omega))
     rw [hL2] at HSb
     have hk9 : kk < 1000 := by
      have h5 := seen_le HOk.out (L := L1) (fun z hz => HSub.out r (by omega) z (by rw [hL1]; exact hz))
      have := HE9.out
      unfold Tc.E at this
      omega
     have HKk := Lib.hid hkk
     clear hL1 hL2 hy hp hval hv0 hby hkk
     by_cases hpd : p ∈ (seen L1).map Prod.fst
     ·obtain ⟨⟨p', y0⟩, hd0, hpp⟩ := List.mem_map.1 hpd
      obtain rfl : p' = p := hpp
      have hlk := HKs.out.tm.look_yes hpE hd0
      by_cases hyy : y0 = y
      ·have hne : ((y0.n : Int) != (y.n : Int)) = false := by rw [hyy]; simp
       have HC2 := Lib.hid (cons_old HCn.out hd0 hyy)
       have hse := seen_old (y := y) hpd
       have HK2 : Hid (KS w w.heap.size pb #[.int .i64 (i : Int), .slice (some ⟨b5, o5, none⟩) u ec] (pb + 1) (.slice (some ⟨b4, o4, none⟩) u c3) (plT S.n i S.n) (plI (seen (L1 ++ [(p', y)]))) (ysD (seen (L1 ++ [(p', y)]))) (seen (L1 ++ [(p', y)])) kk u4 u5 wr) := Lib.hid (by rw [hse]; exact HKs.out)
       have HKk2 : Hid (kk = (seen (L1 ++ [(p', y)])).length) := Lib.hid (by rw [hse]; exact HKk.out)
       rw [← HL2.out] at HC2 HK2 HKk2
       clear hd0 hpd hyy hse
       go_wp2
       go_roundw
       case rel => exact ⟨r + 1, kk, by omega, by go_num, HK2, HC2, HKk2.out⟩
       case measure => simp [intOf]; omega
      ·have hnn : y0.n ≠ y.n := fun e => hyy (F8.n_inj.1 e)
       have hne : ((y0.n : Int) != (y.n : Int)) = true := by simp; omega
       have HX : Hid (KnG S.n l w (.returned (.tuple #[.slice none 0 0, .slice none 0 0, .bool false])) wr) := Lib.hid (.inr ⟨cons_not hd0 hyy HSb.out, rfl, HKs.out.bel⟩)
       clear hd0 hpd hyy hnn
       go_wp2
       go_ret3
       exact HX.out
     ·have hlk := HKs.out.tm.look_no hpE hpd
      obtain ⟨V1, hput, hk1, hs1⟩ := HKs.out.put (by omega) hpE hpd y
      have HC2 := Lib.hid (cons_new (y := y) HCn.out hpd)
      have hse := seen_new (y := y) hpd
      have hPl : (plI (seen L1)).length ≤ 1000000 := by have := HKk.out; simp [plI]; omega
      have hYl : (ysD (seen L1)).length ≤ 1000000 := by have := HKk.out; simp [ysD]; omega
      have hfin : ∀ v u V, KS w w.heap.size pb #[.int .i64 (i : Int), .slice (some ⟨b5, o5, none⟩) (S.n - 1) ec] (pb + 1) (.slice (some ⟨b4, o4, none⟩) (S.n - 1) c3) (plT S.n i S.n) (plI (seen L1) ++ [(p : Int)]) (ysD (seen L1) ++ [y]) (seen L1 ++ [(p, y)]) (kk + 1) v u V → KS w w.heap.size pb #[.int .i64 (i : Int), .slice (some ⟨b5, o5, none⟩) (S.n - 1) ec] (pb + 1) (.slice (some ⟨b4, o4, none⟩) (S.n - 1) c3) (plT S.n i S.n) (plI (seen (L0 ++ itT S.n i es (r + 1)))) (ysD (seen (L0 ++ itT S.n i es (r + 1)))) (seen (L0 ++ itT S.n i es (r + 1))) (kk + 1) v u V := fun v u V hh => by
       rw [HL2.out, hse]
       unfold plI ysD at hh ⊢
       rw [List.map_append, List.map_append]
       exact hh
      have HFin := Lib.hid hfin
      rw [HU.out] at HFin
      have HKk2 : Hid (kk + 1 = (seen (L0 ++ itT S.n i es (r + 1))).length) := Lib.hid (by rw [HL2.out, hse, List.length_append, HKk.out]; rfl)
      rw [← HL2.out] at HC2
      have HCell : Hid (∀ X : World, Below w.heap.size w X → Block X pb 52 #[.int .i64 (i : Int), .slice (some ⟨b5, o5, none⟩) u ec] → X.cell? ⟨pb, 1, none⟩ = some (.slice (some ⟨b5, o5, none⟩) u ec) ∧ X.cell? ⟨b5, o5 + r, none⟩ = some (.int .u8 (y.n : Nat))) := Lib.hid (fun X hX hB => by
       have hby := ((HE.out.below hX).lst _ HMe.out).1.by_
       have h5 := cellAt hby r (by show r < es.length; rw [HSl.out]; exact hru)
       exact ⟨hB.cell 1, by rw [← HY.out]; exact h5⟩)
      obtain ⟨hv2, hcd2⟩ := HCell.out V1 hk1.bel hk1.blk
      have hk1a := (hk1.alloc (.cells #[.int .i64 (p : Int)] 3)).drew
      obtain ⟨hv3, hcd3⟩ := HCell.out _ hk1a.bel hk1a.blk
      obtain ⟨⟨va, Va, ua, Wa, ra, sa, ka, kaa⟩, ⟨vb, Vb, ub, Wb, rb, sb, kb⟩, ⟨vc, Vc, uc, Wc, rc, sc, kc⟩, ⟨vd, Vd, ud, Wd, rd, sd, kd⟩, ⟨ve, Ve, ue, We, re, se, ke⟩, ⟨vf, Vf, uf, Wf, rf, sf, kf⟩⟩ := hk1.apps (p : Int) y hPl hYl
      obtain ⟨hv4, hcd4⟩ := HCell.out _ kaa.bel kaa.blk
      have Ka := Lib.hid (HFin.out _ _ _ ka)
      have Kb := Lib.hid (HFin.out _ _ _ kb)
      have Kc := Lib.hid (HFin.out _ _ _ kc)
      have Kd := Lib.hid (HFin.out _ _ _ kd)
      have Ke := Lib.hid (HFin.out _ _ _ ke)
      have Kf := Lib.hid (HFin.out _ _ _ kf)
      clear ka kaa hk1a kb kc kd ke kf hse hPl hYl hfin hk1 hpd
      go_wp2
      go_region
      all_goals
       clear ra sa rb sb rc sc rd sd re se rf sf hput hv2 hcd2 hv3 hcd3 hv4 hcd4 hv1 hcd hlk hcell
       go_wp2
       go_roundw
       case rel => first | exact ⟨r + 1, kk + 1, by omega, by go_num, Ka, HC2, HKk2.out⟩ | exact ⟨r + 1, kk + 1, by omega, by go_num, Kb, HC2, HKk2.out⟩ | exact ⟨r + 1, kk + 1, by omega, by go_num, Kc, HC2, HKk2.out⟩ | exact ⟨r + 1, kk + 1, by omega, by go_num, Kd, HC2, HKk2.out⟩ | exact ⟨r + 1, kk + 1, by omega, by go_num, Ke, HC2, HKk2.out⟩ | exact ⟨r + 1, kk + 1, by omega, by go_num, Kf, HC2, HKk2.out⟩
       case measure => simp [intOf]; omega
    ·have e1 : r = u := by omega
     have hk := HKs.out
     have hc := HCn.out
     rw [e1, ← HIt.out] at hk hc hkk
     rw [hkk] at hk
     have HK2 : Hid (KO w w.heap.size (items S.n (nat (shE (l.take (t + 1))))) u4 u5 wr) := Lib.hid ⟨hk.own1, hk.own2, hk.tm, hk.bel, hc⟩
     have hru' : ¬ ((r : Int) < (u : Int)) := by omega
     clear hk hc hkk HKs HCn
     go_wp2
     go_roundw
     case rel => exact ⟨t + 1, by omega, by go_num, HK2⟩
     case measure => simp [intOf]; omega
  ·have hk := HK.out
   rw [List.take_of_length_le (by rw [HL.out]; omega)] at hk
   obtain ⟨A1, c1, rfl, -, -⟩ := hk.own1.form
   obtain ⟨A2, c2, rfl, -, -⟩ := hk.own2.form
   have h1 := hk.own1
   have h2 := hk.own2
   have e1 : (zs (plI (seen (items S.n (nat (shE l)))))).length = (seen (items S.n (nat (shE l)))).length := by rw [zs_length]; simp [plI]
   have e2 : (bv (bs (ysD (seen (items S.n (nat (shE l))))))).length = (seen (items S.n (nat (shE l)))).length := by rw [bvs_length]; simp [ysD]
   rw [e1] at h1 ⊢
   rw [e2] at h2 ⊢
   have HX : Hid (KnG S.n l w (.returned (.tuple #[.slice A1 (seen (items S.n (nat (shE l)))).length c1, .slice A2 (seen (items S.n (nat (shE l)))).length c2, .bool true])) wr) := Lib.hid (.inl ⟨hk.cons, A1, c1, A2, c2, rfl, own_cap2 h1 e1, own_cap2 h2 e2, h1, h2, hk.bel⟩)
   obtain ⟨N, hN⟩ : ∃ N, (seen (items S.n (nat (shE l)))).length = N := ⟨_, rfl⟩
   rw [hN] at HX ⊢
   have htm' : ¬ ((t : Int) < (m : Int)) := by omega
   clear hk h1 h2 e1 e2 HK hN
   go_wp2
   go_ret3
   exact HX.out
end Go.Proofs.Ytimcmdnlhallmab.Tr

namespace Go.Proofs.Ytimcmdnlhallmab.Tr
open Go.RowKit Go.Shelf F8 Poly GF Rd Ms
attribute [local go_sem] Oper.semAt_some
theorem shok_iff {n a : Nat} {l : List El} : ShOk n a (shE l) ↔ Sy.VOk n a [] (Sy.elsN l) := by
 have e1 : (shE l).map Prod.fst = (Sy.elsN l).map Prod.fst := by simp [shE, Sy.elsN]
 unfold ShOk Sy.VOk
 rw [e1]
 constructor
 ·rintro ⟨h2, h1⟩
  refine ⟨h1, fun o ho => ?_⟩
  obtain ⟨e, he, rfl⟩ := List.mem_map.1 ho
  have := h2 (e.p, e.s) (List.mem_map.2 ⟨e, he, rfl⟩)
  exact ⟨this.1, by simp, this.2⟩
 ·rintro ⟨h1, h2⟩
  refine ⟨fun o ho => ?_, h1⟩
  obtain ⟨e, he, rfl⟩ := List.mem_map.1 ho
  have := h2 (e.p, e.s.length) (List.mem_map.2 ⟨e, he, rfl⟩)
  exact ⟨this.1, this.2.2⟩
def DecG (S : Tc) (sh : List (Int × List F8)) (w : World) (e : Ending) (w' : World) : Prop :=
 ∃ ms z, TIs S.n S.k (pts S.E) sh ms z ∧ PolyResE (some ⟨S.g, 0, none⟩) w w' e ms z
theorem DecG.err {S : Tc} {sh : List (Int × List F8)} {w w' : World} {z : Int} (hf : FldP w' (some ⟨S.g, 0, none⟩)) (hp : Past w.heap.size S.g w w') (h : TIs S.n S.k (pts S.E) sh [] z) : DecG S sh w (.returned (.tuple #[.slice none 0 0, .int .i64 z])) w' :=
 ⟨[], z, h, none, 0, rfl, Nat.le_refl _, Own.nil _ _ _, hf, hp⟩
set_option maxRecDepth 100000 in
set_option maxHeartbeats 8000000 in
theorem decode_calls (PS : Poly.Spec) {S : Tc} {w : World} (h : S.Ok w) (A : Option Addr) (l : List El) (m c : Nat) (hl : l.length = m) (hm9 : m ≤ 1000) (hE : Els S.g w A l) :
  Calls Try.prog 23 #[.pointer (some ⟨S.b, 0, none⟩), .slice A m c] w (DecG S (shE l) w) := by
 have HNone := Lib.hid (isNone_calls h)
 have hn := h.n24
 have hkn := h.kn
 have H := Lib.hid h
 have HE := Lib.hid hE
 have HL := Lib.hid hl
 obtain ⟨u, hu⟩ : ∃ u, S.n - 1 = u := ⟨_, rfl⟩
 have HU := Lib.hid hu
 have HAl : Hid (∀ V, S.Ok V → Calls Try.prog 11 #[.pointer (some ⟨S.b, 0, none⟩)] V fun e w' => e = .returned (.int .i64 (u : Nat)) ∧ V = w') := Lib.hid fun V hV => by rw [← hu]; exact alpha_calls hV
 have HVal : Hid (∀ V, Below w.heap.size w V → Calls Try.prog 38 #[.slice A m c, .int .i64 (S.n : Nat), .int .i64 (u : Nat), .slice none 0 0] V fun e w' => e = .returned (.bool (decide (Sy.VOk S.n u [] (Sy.elsN l)))) ∧ Below V.heap.size V w') := Lib.hid fun V hV =>
  Sy.valid_calls A l m c S.n u none [] 0 0 V hl hm9 (hE.below hV).row (by omega) rfl (by omega) (Row.nil _ _)
 have HC : Hid (∀ V, S.Ok V → V.cell? ⟨S.b, 0, none⟩ = some (.int .i64 S.n)) := Lib.hid fun V hV => hV.cells.1
 have HK := Lib.hid (h.below (Below.refl _ _).drew)
 have HB : Hid (Below w.heap.size w w.drew) := Lib.hid (Below.refl _ _).drew
 have HS := Lib.hid (HC.out _ HK.out)
 obtain ⟨bb, hbb⟩ : ∃ bb, decide (Sy.VOk S.n u [] (Sy.elsN l)) = bb := ⟨_, rfl⟩
 rw [hbb] at HVal
 clear h hE hl hu
 go_enter Try.func23, Try.ntmps23
 go_wp2_with (go_at_call 27; refine HNone.out.mono ?_; rintro e w1 ⟨rfl, rfl⟩)
 go_region_held (fun V => V.cell? ⟨S.b, 0, none⟩ = some (.int .i64 S.n)) (exact HS.out)
  ((first
   | (go_at_call 38; (with_reducible refine (HVal.out _ HB.out).mono ?_); rintro e1 w1 ⟨rfl, hb1⟩; replace HK := Lib.hid (HK.out.below hb1); replace HB := Lib.hid (HB.out.trans (hb1.mono HB.out.size)); replace HS := Lib.hid (HC.out _ HK.out); clear hb1)
   | (go_at_call 11; (with_reducible refine (HAl.out _ HK.out).mono ?_); rintro e1 w1 ⟨rfl, rfl⟩)))
 cases bb
 ·have hno : ¬ ShOk S.n (S.n - 1) (shE l) := fun hA => of_decide_eq_false hbb (by rw [HU.out] at hA; exact shok_iff.1 hA)
  have HX := Lib.hid (DecG.err HK.out.fld (Past.of_below HB.out _) (.inl ⟨hno, rfl, rfl⟩) : DecG S (shE l) w (.returned (.tuple #[.slice none 0 0, .int .i64 2])) w1)
  clear hno hbb
  go_wp2
  go_ret2
  exact HX.out
 have hA : ShOk S.n (S.n - 1) (shE l) := by rw [HU.out]; exact shok_iff.2 (of_decide_eq_true hbb)
 have hsl : (shE l).length = m := by rw [shE_length]; exact HL.out
 obtain ⟨-, c1, -, c3⟩ := HK.out.cells
 by_cases hk : m < S.k
 ·have HX := Lib.hid (DecG.err HK.out.fld (Past.of_below HB.out _) (.inr (.inl ⟨hA, by omega, rfl, rfl⟩)) : DecG S (shE l) w (.returned (.tuple #[.slice none 0 0, .int .i64 70])) w1)
  have hd : ((m : Int) < (S.k : Int)) := by omega
  clear hA hbb
  go_wp2
  go_ret2
  exact HX.out
 have hd : ¬ ((m : Int) < (S.k : Int)) := by omega
 have HKn := Lib.hid (known_calls HK.out A l m c HL.out hm9 (HE.out.below HB.out) hA)
 have HA := Lib.hid hA
 have HSl := Lib.hid hsl
 have hsw := HB.out.size
 clear hA hsl hbb HS HC HVal HAl
 go_wp2_with fail
 refine HKn.out.mono ?_
 rintro e w2 (⟨hcons, P, pc, Y, yc, rfl, hpc, hyc, hO1, hO2, hb2⟩ | ⟨hnc, rfl, hb2⟩)
 rotate_left
 ·have hB2 := HB.out.trans (hb2.mono hsw)
  have HX := Lib.hid (DecG.err (HK.out.fld.below hb2) (Past.of_below hB2 _) (tis_lost (pts_length _) HA.out (by rw [HSl.out]; omega) hnc) : DecG S (shE l) w (.returned (.tuple #[.slice none 0 0, .int .i64 80])) w2)
  clear hnc hb2 hB2 HKn
  go_wp2
  go_ret2
  exact HX.out
 have HK2 := Lib.hid (HK.out.below hb2)
 have HB2 := Lib.hid (HB.out.trans (hb2.mono hsw))
 obtain ⟨N, hN⟩ : ∃ N, (seen (items S.n (nat (shE l)))).length = N := ⟨_, rfl⟩
 rw [hN] at hpc hyc hO1 hO2 ⊢
 have hN9 : N ≤ 1000 := by
  have h5 := seen_le (nat_ok HA.out).1 (L := items S.n (nat (shE l))) (fun z hz => hz)
  have := HK2.out.e255
  unfold Tc.E at this
  omega
 have hglt := HK2.out.fld.fld.lt
 have hO2' : Own w2 w1.heap.size 5 (.slice Y N yc) (bv (bs (ysD (seen (items S.n (nat (shE l))))))) := hO2
 have hDc := Rd.decode_calls PS HK2.out.cd P (plI (seen (items S.n (nat (shE l))))) N pc (by simp [plI, hN]) (own_row hO1) hN9 Y (ysD (seen (items S.n (nat (shE l))))) N yc (by simp [ysD, hN]) (Own.bytes hO2') hyc hN9 (far_own HK2.out.fld.fld hO2')
 have HDc := Lib.hid hDc
 have HTis : Hid (∀ lm z, DecIs (pts S.E) S.B (plI (seen (items S.n (nat (shE l))))) (ysD (seen (items S.n (nat (shE l))))) lm z → TIs S.n S.k (pts S.E) (shE l) (if z = 0 then lm else []) (if z = 0 then 0 else 80)) := Lib.hid fun lm z hd => tis_of (pts_length _) HA.out (by rw [HSl.out]; omega) hcons hd
 obtain ⟨-, -, -, c3⟩ := HK2.out.cells
 have hs2 := HB2.out.size
 clear hcons hO1 hO2 hO2' hb2 hN hDc HKn
 go_wp2_with fail
 refine HDc.out.mono ?_
 rintro e w3 ⟨lm, z, hdi, A9, c9, rfl, hc9, hO9, hf9, hp9⟩
 have hp9' : Past w2.heap.size S.g w2 w3 := hp9
 have hti := HTis.out lm z hdi
 have hpw : Past w.heap.size S.g w w3 := (Past.of_below HB2.out _).trans (hp9'.mono hs2)
 by_cases hz : z = 0
 ·rw [if_pos hz, if_pos hz] at hti
  have HX : Hid (DecG S (shE l) w (.returned (.tuple #[.slice A9 lm.length c9, .int .i64 0])) w3) := Lib.hid ⟨lm, 0, hti, A9, c9, rfl, hc9, hO9.more hs2, hf9, hpw⟩
  have hzz : (z != 0) = false := by simp [hz]
  obtain ⟨q, hq⟩ : ∃ q, lm.length = q := ⟨_, rfl⟩
  rw [hq] at HX ⊢
  clear hti hdi hO9 hf9 hp9 hp9' hpw hz hc9 hq HDc HTis
  go_wp2
  go_ret2
  exact HX.out
 ·rw [if_neg hz, if_neg hz] at hti
  have HX := Lib.hid (DecG.err hf9 hpw hti)
  have hzz : (z != 0) = true := by simp [hz]
  obtain ⟨q, hq⟩ : ∃ q, lm.length = q := ⟨_, rfl⟩
  rw [hq]
  clear hti hdi hO9 hf9 hp9 hp9' hpw hz hc9 hq HDc HTis
  go_wp2
  go_ret2
  exact HX.out
theorem decode_nil (A : Option Addr) (m c : Nat) (w : World) : Calls Try.prog 23 #[.pointer none, .slice A m c] w fun e w' => e = .returned (.tuple #[.slice none 0 0, .int .i64 1]) ∧ w = w' := by
 go_enter Try.func23, Try.ntmps23
 go_wp2_with (go_at_call 27; refine (none_nil _).mono ?_; rintro e w1 ⟨rfl, rfl⟩)
 go_ret2
 exact ⟨rfl, rfl⟩
theorem repair_nil (z : Int) (A : Option Addr) (m c : Nat) (w : World) : Calls Try.prog 24 #[.pointer none, .int .i64 z, .slice A m c] w fun e w' => e = .returned (.tuple #[.slice none 0 0, .int .i64 1]) ∧ w = w' := by
 go_enter Try.func24, Try.ntmps24
 go_wp2_with (go_at_call 27; refine (none_nil _).mono ?_; rintro e w1 ⟨rfl, rfl⟩)
 go_ret2
 exact ⟨rfl, rfl⟩
end Go.Proofs.Ytimcmdnlhallmab.Tr

namespace Go.Proofs.Ytimcmdnlhallmab.Tr
open Go.RowKit Go.Shelf F8 Poly GF Rd Ms
attribute [local go_sem] Oper.semAt_some
theorem two_elsL {g : Nat} {w : World} (hf : Fld w g) (p q : Int) (cx cy : Array Value) (x y : List F8) (n m : Nat) (hx : cx.toList = bv (bs x)) (hy : cy.toList = bv (bs y)) (hn : x.length = n) (hm : y.length = m) :
  Els g (((w.alloc (.cells cx 5)).alloc (.cells cy 5)).alloc (.cells #[.int .i64 p, .slice (some ⟨w.heap.size, 0, none⟩) n n, .int .i64 q, .slice (some ⟨w.heap.size + 1, 0, none⟩) m m] 52)) (some ⟨w.heap.size + 1 + 1, 0, none⟩) [⟨p, some ⟨w.heap.size, 0, none⟩, x, n⟩, ⟨q, some ⟨w.heap.size + 1, 0, none⟩, y, m⟩] := by
 subst hn hm
 have hb1 : Below w.heap.size w (w.alloc (.cells cx 5)) := (Below.refl _ _).alloc (Nat.le_refl _) _
 have h1 := bf_new hf cx x hx
 have hf1 : Fld (w.alloc (.cells cx 5)) g := hf.below hb1 hf.lt
 have h2 := bf_new hf1 cy y hy
 have hb2 : Below (w.alloc (.cells cx 5)).heap.size (w.alloc (.cells cx 5)) ((w.alloc (.cells cx 5)).alloc (.cells cy 5)) := (Below.refl _ _).alloc (Nat.le_refl _) _
 have h1' := h1.below hb2
 rw [World.size_alloc] at h2
 obtain ⟨W, hW⟩ : ∃ W, (w.alloc (.cells cx 5)).alloc (.cells cy 5) = W := ⟨_, rfl⟩
 have hz : W.heap.size = w.heap.size + 1 + 1 := by rw [← hW, World.size_alloc, World.size_alloc]
 rw [hW] at h1' h2 ⊢
 have hb3 : Below W.heap.size W (W.alloc (.cells #[.int .i64 p, .slice (some ⟨w.heap.size, 0, none⟩) x.length x.length, .int .i64 q, .slice (some ⟨w.heap.size + 1, 0, none⟩) y.length y.length] 52)) := (Below.refl _ _).alloc (Nat.le_refl _) _
 refine ⟨?_, fun e he => ?_⟩
 ·have := Row.new W #[.int .i64 p, .slice (some ⟨w.heap.size, 0, none⟩) x.length x.length, .int .i64 q, .slice (some ⟨w.heap.size + 1, 0, none⟩) y.length y.length] 52 (0, 0)
  rw [hz] at this
  exact this
 ·simp only [List.mem_cons, List.not_mem_nil, or_false] at he
  rcases he with rfl | rfl
  ·exact ⟨h1'.below hb3, Nat.le_refl _⟩
  ·exact ⟨h2.below hb3, Nat.le_refl _⟩
structure Lw (S : Tc) (w : World) (V : World) : Prop where
 ok : S.Ok V
 bel : Below w.heap.size w V
 gw : w.heap.size ≤ S.g
section
variable {S : Tc} {w V V' : World}
theorem Lw.go (h : Lw S w V) (hf : FldP V' (some ⟨S.g, 0, none⟩)) (hp : Past V.heap.size S.g V V') : Lw S w V' := ⟨h.ok.past hf hp, h.bel.trans ((hp.mono h.bel.size).below h.gw), h.gw⟩
theorem Lw.below (h : Lw S w V) (hb : Below V.heap.size V V') : Lw S w V' := h.go (h.ok.fld.below hb) (Past.of_below hb _)
theorem Lw.alloc (h : Lw S w V) (o : Obj) : Lw S w (V.alloc o) := h.below ((Below.refl _ _).alloc (Nat.le_refl _) o)
end
structure Lz (S : Tc) (w : World) (n k : Int) (V : World) : Prop where
 lw : Lw S w V
 en : (S.n : Int) = n
 ek : (S.k : Int) = k
theorem made (n k : Int) (w w1 : World) (hw1 : w1 = w.alloc (.cells (fcells 0 0 0) 79)) (hn1 : -9223372036854775808 ≤ n) (hn2 : n < 9223372036854775808) (hk1 : -9223372036854775808 ≤ k) (hk2 : k < 9223372036854775808) :
  Calls Try.prog 7 #[.pointer (some ⟨w.heap.size, 0, none⟩), .int .i64 n, .int .i64 k] w1 fun e w' =>
   (Good n k ∧ ∃ S : Tc, Lz S w n k w' ∧ S.g = w.heap.size ∧ e = .returned (.tuple #[.pointer (some ⟨S.b, 0, none⟩), .int .i64 0])) ∨ (¬ Good n k ∧ e = .returned (.tuple #[.pointer none, .int .i64 2]) ∧ Below w.heap.size w w') := by
 have hF1 : FldP w1 (some ⟨w.heap.size, 0, none⟩) := FldP.of (by rw [hw1]; exact Fld.new w)
 have hB1 : Below w.heap.size w w1 := by rw [hw1]; exact (Below.refl _ _).alloc (Nat.le_refl _) _
 by_cases hg : Good n k
 ·obtain ⟨h1, h2, h3⟩ := hg
  obtain ⟨N, rfl⟩ : ∃ N : Nat, n = (N : Int) := ⟨n.toNat, by omega⟩
  obtain ⟨K, rfl⟩ : ∃ K : Nat, k = (K : Int) := ⟨k.toNat, by omega⟩
  refine (new_good w.heap.size N K (by omega) (by omega) (by omega) w1 hF1).mono ?_
  rintro e w2 ⟨S, hok, hSg, hSn, hSk, -, rfl, hp2⟩
  exact .inl ⟨⟨h1, h2, h3⟩, S, ⟨⟨hok, hB1.trans (Past.below (hp2.mono hB1.size) (Nat.le_refl _)), by omega⟩, by omega, by omega⟩, hSg, rfl⟩
 ·refine (new_bad w.heap.size n k hn1 hn2 hk1 hk2 hg w1).mono ?_
  rintro e w2 ⟨rfl, rfl⟩
  exact .inr ⟨hg, rfl, hB1⟩
def fb (x : Nat) (h : x < 256 := by decide) : F8 := ⟨x, h⟩
instance (L : List (Nat × F8)) : Decidable (Cons L) := inferInstanceAs (Decidable (∀ x ∈ L, ∀ y ∈ L, x.1 = y.1 → x.2 = y.2))
instance (n s : Nat) (sh : List (Int × List F8)) : Decidable (ShOk n s sh) := inferInstanceAs (Decidable (_ ∧ _))
theorem ex_a : (List.range 3).map (shr 3 (word [1, 0, 0] (pts (rs 3 3)))) = [[1, 1], [1, 1], [1, 1]] := by decide +kernel
theorem ex_b : (List.range 3).map (shr 3 (word [0, 1, 0] (pts (rs 3 3)))) = [[1, fb 2], [1, fb 4], [fb 2, fb 4]] := by decide +kernel
theorem ex_m : TIs 3 2 (pts (rs 3 3)) [((1 : Int), [1, fb 4]), (2, [fb 2, fb 4])] [0, 1, 0] 0 :=
 .inr (.inr (.inl ⟨by decide +kernel, by decide, rfl, by decide, by decide +kernel⟩))
theorem ex_l : TIs 3 2 (pts (rs 3 3)) [((1 : Int), [1, fb 4]), (2, [fb 2, fb 5])] [] 80 :=
 tis_lost (pts_length _) (by decide +kernel) (by decide) (by decide +kernel)
theorem share_at {g : Nat} {V : World} {A : Option Addr} {l : List El} (h : Shs g V A l) {L : List (List F8)} (hl : l.map El.s = L) {i : Nat} (hi : i < L.length) : ∃ b o B c, A = some ⟨b, o, none⟩ ∧ V.cell? ⟨b, o + i, none⟩ = some (.slice B (L[i]).length c) ∧ BF g V B L[i] := by
 subst hl
 have hi' : i < l.length := by simpa using hi
 obtain ⟨b, o, e, hc⟩ := cells1_at h.row hi'
 have h2 := h.lst _ (List.getElem_mem hi')
 have e2 : (l.map El.s)[i] = (l[i]).s := by simp
 rw [e2]
 exact ⟨b, o, _, _, e, hc, h2.1⟩
end Go.Proofs.Ytimcmdnlhallmab.Tr

namespace Go.Proofs.Ytimcmdnlhallmab.Tr
open Go.RowKit Go.Shelf F8 Poly GF Rd Ms
attribute [local go_sem] Oper.semAt_some
structure WS (S : Tc) (w : World) (Aa : Option Addr) (la : List El) (Ab : Option Addr) (lb : List El) (V : World) : Prop where
 lw : Lw S w V
 sa : Shs S.g V Aa la
 sb : Shs S.g V Ab lb
section
variable {S : Tc} {w V V' : World} {Aa Ab : Option Addr} {la lb : List El}
theorem WS.go (h : WS S w Aa la Ab lb V) (hf : FldP V' (some ⟨S.g, 0, none⟩)) (hp : Past V.heap.size S.g V V') : WS S w Aa la Ab lb V' :=
 ⟨h.lw.go hf hp, h.sa.past h.lw.ok.fld.fld hp, h.sb.past h.lw.ok.fld.fld hp⟩
theorem WS.below (h : WS S w Aa la Ab lb V) (hb : Below V.heap.size V V') : WS S w Aa la Ab lb V' := h.go (h.lw.ok.fld.below hb) (Past.of_below hb _)
theorem WS.alloc (h : WS S w Aa la Ab lb V) (o : Obj) : WS S w Aa la Ab lb (V.alloc o) := h.below ((Below.refl _ _).alloc (Nat.le_refl _) o)
end
set_option maxRecDepth 100000 in
set_option maxHeartbeats 16000000 in
theorem works_calls (PS : Poly.Spec) (w : World) : Calls Try.prog 10 #[] w fun e w' => e = .returned (.bool true) ∧ Below w.heap.size w w' := by
 go_enter Try.func10, Try.ntmps10
 go_wp2_with fail
 refine (GF.new_calls w).mono ?_
 rintro e w1 ⟨rfl, hw1⟩
 have HMd := Lib.hid (made 3 2 w w1 hw1 (by decide) (by decide) (by decide) (by decide))
 clear hw1
 go_wp2_with fail
 refine HMd.out.mono ?_
 rintro e w2 (⟨-, S, hL, hSg, rfl⟩ | ⟨hno, -⟩)
 rotate_left
 ·exact absurd (⟨by decide, by decide, by decide⟩ : Good 3 2) hno
 have en : S.n = 3 := by have := hL.en; omega
 have ek : S.k = 2 := by have := hL.ek; omega
 have eE : S.E = rs 3 3 := by unfold Tc.E; rw [en]
 have eB : S.B = 3 := by unfold Tc.B; rw [en, ek]; rfl
 have HL := Lib.hid hL.lw
 have EN := Lib.hid en
 have EK := Lib.hid ek
 have EE := Lib.hid eE
 have EB := Lib.hid eB
 have HSg := Lib.hid hSg
 clear hL en ek eE eB hSg HMd
 go_wp2_with fail
 have HL3 := Lib.hid (HL.out.alloc (.cells #[.int .u8 1, .int .u8 0, .int .u8 0] 5))
 have hEn := encode_good PS HL3.out.ok (some ⟨w2.heap.size, 0, none⟩) [1, 0, 0] 3 3 rfl EB.out.symm (bf_new HL.out.ok.fld.fld #[.int .u8 1, .int .u8 0, .int .u8 0] [1, 0, 0] rfl) (Nat.le_refl _)
 with_reducible refine hEn.mono ?_
 clear hEn
 rintro e w4 ⟨A4, c4, l4, rfl, hc4, hO4, hL4, hls, hf4, hp4⟩
 have HL4 := Lib.hid (HL3.out.go hf4 hp4)
 have HS4 : Hid (Shs S.g w4 A4 l4) := Lib.hid ⟨own_row (own1_of hO4).1, hL4.lst hf4⟩
 rw [EN.out, EE.out, ex_a] at hls
 rw [EN.out] at hc4 ⊢
 have HLa := Lib.hid hls
 clear hO4 hL4 hls hf4 hp4 HL HL3 hc4
 go_wp2_with fail
 have HL5 := Lib.hid (HL4.out.alloc (.cells #[.int .u8 0, .int .u8 1, .int .u8 0] 5))
 have hEn := encode_good PS HL5.out.ok (some ⟨w4.heap.size, 0, none⟩) [0, 1, 0] 3 3 rfl EB.out.symm (bf_new HL4.out.ok.fld.fld #[.int .u8 0, .int .u8 1, .int .u8 0] [0, 1, 0] rfl) (Nat.le_refl _)
 with_reducible refine hEn.mono ?_
 clear hEn
 rintro e w6 ⟨A6, c6, l6, rfl, hc6, hO6, hL6, hls, hf6, hp6⟩
 have HW6 : Hid (WS S w A4 l4 A6 l6 w6) := Lib.hid ⟨HL5.out.go hf6 hp6, (HS4.out.below ((Below.refl _ _).alloc (Nat.le_refl _) _)).past HL5.out.ok.fld.fld hp6, own_row (own1_of hO6).1, hL6.lst hf6⟩
 rw [EN.out, EE.out, ex_b] at hls
 rw [EN.out] at hc6 ⊢
 have HLb := Lib.hid hls
 clear hO6 hL6 hls hf6 hp6 HL4 HL5 HS4 hc6
 go_wp2_with fail
 have HW7 := Lib.hid (HW6.out.alloc (.cells #[.int .u8 2, .int .u8 4] 5))
 have hHe := help_good HW7.out.lw.ok 2 0 (by rw [EN.out]; omega) (by rw [EN.out]; omega) (by omega) (some ⟨w6.heap.size, 0, none⟩) [fb 2, fb 4] 2 2 rfl (by rw [EN.out]) (bf_new HW6.out.lw.ok.fld.fld #[.int .u8 2, .int .u8 4] [fb 2, fb 4] rfl).by_
 rw [show (coef [fb 2, fb 4] (idx 2 0)).n = 2 from rfl, show ((2 : Nat) : Int) = 2 from rfl, show ((0 : Nat) : Int) = 0 from rfl] at hHe
 with_reducible refine hHe.mono ?_
 clear hHe
 rintro e w7 ⟨rfl, hw7⟩
 rw [hw7] at HW7
 clear hw7 HW6
 go_wp2_with fail
 obtain ⟨V7, hV7⟩ : ∃ V7, ((w7.alloc (.cells #[.int .u8 2] 5)).alloc (.cells #[.int .u8 1] 5)).alloc (.cells #[.int .i64 2, .slice (some ⟨w7.heap.size, 0, none⟩) 1 1, .int .i64 1, .slice (some ⟨w7.heap.size + 1, 0, none⟩) 1 1] 52) = V7 := ⟨_, rfl⟩
 have he : Els S.g V7 (some ⟨w7.heap.size + 1 + 1, 0, none⟩) [⟨2, some ⟨w7.heap.size, 0, none⟩, [fb 2], 1⟩, ⟨1, some ⟨w7.heap.size + 1, 0, none⟩, [1], 1⟩] := by
  rw [← hV7]; exact two_elsL HW7.out.lw.ok.fld.fld 2 1 #[.int .u8 2] #[.int .u8 1] [fb 2] [1] 1 1 rfl rfl rfl rfl
 have hb7 : Below w7.heap.size w7 V7 := by rw [← hV7]; exact (((Below.refl _ _).alloc (Nat.le_refl _) _).alloc (by simp) _).alloc (by simp; omega) _
 rw [hV7]
 have HW8 := Lib.hid (HW7.out.below hb7)
 have hRe := repair_good HW8.out.lw.ok 0 (by rw [EN.out]; omega) (some ⟨w7.heap.size + 1 + 1, 0, none⟩) _ 2 2 rfl (by decide) he (by rw [EN.out]; exact (by decide : Sy.VOk 3 1 [((0 : Nat) : Int)] [((2 : Int), 1), (1, 1)])) (by rw [EN.out]; decide)
 rw [show ((0 : Nat) : Int) = 0 from rfl] at hRe
 with_reducible refine hRe.mono ?_
 clear hRe
 rintro e w9 ⟨A9, c9, s9, rfl, hc9, hs9, hr9, hO9, hb9⟩
 rw [EN.out] at hc9 hs9 hO9 ⊢
 have e9 : s9 = [1, fb 2] := by
  have h1 := hr9 _ (List.mem_cons_self ..)
  have h2 := hr9 _ (List.mem_cons_of_mem _ (List.mem_cons_self ..))
  match s9, hs9 with
  | [x, y], _ =>
   have h1 : y = fb 2 := h1
   have h2 : x = 1 := h2
   rw [h1, h2]
 rw [e9] at hO9
 have HW9 := Lib.hid (HW8.out.below hb9)
 have HB9 := Lib.hid (BF.own HW9.out.lw.ok.fld hO9)
 clear hO9 hb9 hr9 hs9 e9 he hb7 hV7 HW7 HW8 hc9
 go_wp2_with fail
 obtain ⟨Va, hVa⟩ : ∃ Va, ((w9.alloc (.cells #[.int .u8 1, .int .u8 4] 5)).alloc (.cells #[.int .u8 2, .int .u8 4] 5)).alloc (.cells #[.int .i64 1, .slice (some ⟨w9.heap.size, 0, none⟩) 2 2, .int .i64 2, .slice (some ⟨w9.heap.size + 1, 0, none⟩) 2 2] 52) = Va := ⟨_, rfl⟩
 have he : Els S.g Va (some ⟨w9.heap.size + 1 + 1, 0, none⟩) [⟨1, some ⟨w9.heap.size, 0, none⟩, [1, fb 4], 2⟩, ⟨2, some ⟨w9.heap.size + 1, 0, none⟩, [fb 2, fb 4], 2⟩] := by
  rw [← hVa]; exact two_elsL HW9.out.lw.ok.fld.fld 1 2 #[.int .u8 1, .int .u8 4] #[.int .u8 2, .int .u8 4] [1, fb 4] [fb 2, fb 4] 2 2 rfl rfl rfl rfl
 have hba : Below w9.heap.size w9 Va := by rw [← hVa]; exact (((Below.refl _ _).alloc (Nat.le_refl _) _).alloc (by simp) _).alloc (by simp; omega) _
 rw [hVa]
 have HWa := Lib.hid (HW9.out.below hba)
 have hDe := decode_calls PS HWa.out.lw.ok (some ⟨w9.heap.size + 1 + 1, 0, none⟩) _ 2 2 rfl (by decide) he
 with_reducible refine hDe.mono ?_
 clear hDe
 rintro e wb ⟨ms, z, hT, A10, c10, rfl, hc10, hO10, hf10, hp10⟩
 rw [EN.out, EK.out, EE.out] at hT
 obtain ⟨hms, hz⟩ := hT.only (pts_length _) (pts_nodup (by decide +kernel)) ex_m
 subst hms hz
 have HWb := Lib.hid (HWa.out.go hf10 hp10)
 have HBb9 := Lib.hid ((HB9.out.below hba).past hp10)
 have HBm := Lib.hid (BF.own hf10 hO10)
 clear hO10 hf10 hp10 hT hc10 he hba hVa HW9 HWa HB9
 go_wp2_with fail
 obtain ⟨Va, hVa⟩ : ∃ Va, ((wb.alloc (.cells #[.int .u8 1, .int .u8 4] 5)).alloc (.cells #[.int .u8 2, .int .u8 5] 5)).alloc (.cells #[.int .i64 1, .slice (some ⟨wb.heap.size, 0, none⟩) 2 2, .int .i64 2, .slice (some ⟨wb.heap.size + 1, 0, none⟩) 2 2] 52) = Va := ⟨_, rfl⟩
 have he : Els S.g Va (some ⟨wb.heap.size + 1 + 1, 0, none⟩) [⟨1, some ⟨wb.heap.size, 0, none⟩, [1, fb 4], 2⟩, ⟨2, some ⟨wb.heap.size + 1, 0, none⟩, [fb 2, fb 5], 2⟩] := by
  rw [← hVa]; exact two_elsL HWb.out.lw.ok.fld.fld 1 2 #[.int .u8 1, .int .u8 4] #[.int .u8 2, .int .u8 5] [1, fb 4] [fb 2, fb 5] 2 2 rfl rfl rfl rfl
 have hba : Below wb.heap.size wb Va := by rw [← hVa]; exact (((Below.refl _ _).alloc (Nat.le_refl _) _).alloc (by simp) _).alloc (by simp; omega) _
 rw [hVa]
 have HWa := Lib.hid (HWb.out.below hba)
 have hDe := decode_calls PS HWa.out.lw.ok (some ⟨wb.heap.size + 1 + 1, 0, none⟩) _ 2 2 rfl (by decide) he
 with_reducible refine hDe.mono ?_
 clear hDe
 rintro e wc ⟨ms, z, hT, A11, c11, rfl, hc11, hO11, hf11, hp11⟩
 rw [EN.out, EK.out, EE.out] at hT
 obtain ⟨hms, hz⟩ := hT.only (pts_length _) (pts_nodup (by decide +kernel)) ex_l
 subst hms hz
 have HWc := Lib.hid (HWa.out.go hf11 hp11)
 have HBc9 := Lib.hid ((HBb9.out.below hba).past hp11)
 have HBcm := Lib.hid ((HBm.out.below hba).past hp11)
 clear hO11 hf11 hp11 hT hc11 he hba hVa HWb HWa HBb9 HBm
 go_wp2_with fail
 have hNb := new_bad S.g 24 2 (by decide) (by decide) (by decide) (by decide) (fun h => absurd h.2.2 (by decide)) wc
 rw [HSg.out] at hNb
 with_reducible refine hNb.mono ?_
 clear hNb
 rintro e w12 ⟨rfl, rfl⟩
 have hAl := alpha_calls HWc.out.lw.ok
 rw [EN.out, show ((3 - 1 : Nat) : Int) = 2 from rfl] at hAl
 have HAl := Lib.hid hAl
 clear hAl
 go_wp2_with fail
 refine HAl.out.mono ?_
 rintro e wx ⟨rfl, rfl⟩
 have hBc := b_calls HWc.out.lw.ok
 rw [EB.out, show ((3 : Nat) : Int) = 3 from rfl] at hBc
 have HBc := Lib.hid hBc
 clear hBc HAl
 obtain ⟨b0, o0, E0, k0, e0, q0, -⟩ := share_at HWc.out.sa HLa.out (i := 1) (by decide)
 obtain ⟨b1, o1, E1, k1, e1, q1, -⟩ := share_at HWc.out.sb HLb.out (i := 0) (by decide)
 subst e0 e1
 clear q0 q1
 go_wp2_with fail
 refine HBc.out.mono ?_
 rintro e x0 ⟨rfl, hbx⟩
 have HWx0 := Lib.hid (HWc.out.below hbx)
 have HBs0 := Lib.hid (HBc9.out.below hbx)
 have HBm0 := Lib.hid (HBcm.out.below hbx)
 clear hbx HBc HWc HBc9 HBcm
 obtain ⟨bb0, oo0, E0, k0, e0, q0, hB0⟩ := share_at HWx0.out.sa HLa.out (i := 1) (by decide)
 cases e0
 have q0' : x0.cell? _ = some (.slice E0 2 k0) := q0
 have hB0' : BF S.g x0 E0 [1, 1] := hB0
 have hb0 : Below x0.heap.size x0 (x0.alloc (.cells #[.int .u8 1, .int .u8 1] 5)) := (Below.refl _ _).alloc (Nat.le_refl _) _
 have HB0 := Lib.hid (hB0'.below hb0)
 have HLt0 := Lib.hid (bf_new HWx0.out.lw.ok.fld.fld #[.int .u8 1, .int .u8 1] [1, 1] rfl)
 have HWy0 := Lib.hid (HWx0.out.below hb0)
 have HBs0y := Lib.hid (HBs0.out.below hb0)
 have HBm0y := Lib.hid (HBm0.out.below hb0)
 clear hb0 hB0 hB0' q0
 go_wp2_with fail
 have hSa := same_calls E0 (some ⟨x0.heap.size, 0, none⟩) [1, 1] [1, 1] 2 2 k0 2 (x0.alloc (.cells #[.int .u8 1, .int .u8 1] 5)) rfl rfl HB0.out.by_ HLt0.out.by_
 rw [decide_eq_true rfl] at hSa
 with_reducible refine hSa.mono ?_
 clear hSa
 rintro e x1 ⟨rfl, hx0⟩
 rw [hx0] at HWy0 HBs0y HBm0y
 have HWx1 := HWy0
 have HBs1 := HBs0y
 have HBm1 := HBm0y
 clear hx0 q0' HWx0 HWy0 HBs0 HBs0y HBm0 HBm0y HB0 HLt0
 obtain ⟨bb1, oo1, E1, k1, e1, q1, hB1⟩ := share_at HWx1.out.sb HLb.out (i := 0) (by decide)
 cases e1
 have q1' : x1.cell? ⟨b1, o1, none⟩ = some (.slice E1 2 k1) := q1
 have hB1' : BF S.g x1 E1 [1, fb 2] := hB1
 have hb1 : Below x1.heap.size x1 (x1.alloc (.cells #[.int .u8 1, .int .u8 2] 5)) := (Below.refl _ _).alloc (Nat.le_refl _) _
 have HB1 := Lib.hid (hB1'.below hb1)
 have HLt1 := Lib.hid (bf_new HWx1.out.lw.ok.fld.fld #[.int .u8 1, .int .u8 2] [1, fb 2] rfl)
 have HWy1 := Lib.hid (HWx1.out.below hb1)
 have HBs1y := Lib.hid (HBs1.out.below hb1)
 have HBm1y := Lib.hid (HBm1.out.below hb1)
 clear hb1 hB1 hB1' q1
 go_wp2_with fail
 have hSa := same_calls E1 (some ⟨x1.heap.size, 0, none⟩) [1, fb 2] [1, fb 2] 2 2 k1 2 (x1.alloc (.cells #[.int .u8 1, .int .u8 2] 5)) rfl rfl HB1.out.by_ HLt1.out.by_
 rw [decide_eq_true rfl] at hSa
 with_reducible refine hSa.mono ?_
 clear hSa
 rintro e x2 ⟨rfl, hx1⟩
 rw [hx1] at HWy1 HBs1y HBm1y
 have HWx2 := HWy1
 have HBs2 := HBs1y
 have HBm2 := HBm1y
 clear hx1 q1' HWx1 HWy1 HBs1 HBs1y HBm1 HBm1y HB1 HLt1
 obtain ⟨bb2, oo2, E2, k2, e2, q2, hB2⟩ := share_at HWx2.out.sb HLb.out (i := 1) (by decide)
 cases e2
 have q2' : x2.cell? _ = some (.slice E2 2 k2) := q2
 have hB2' : BF S.g x2 E2 [1, fb 4] := hB2
 have hb2 : Below x2.heap.size x2 (x2.alloc (.cells #[.int .u8 1, .int .u8 4] 5)) := (Below.refl _ _).alloc (Nat.le_refl _) _
 have HB2 := Lib.hid (hB2'.below hb2)
 have HLt2 := Lib.hid (bf_new HWx2.out.lw.ok.fld.fld #[.int .u8 1, .int .u8 4] [1, fb 4] rfl)
 have HWy2 := Lib.hid (HWx2.out.below hb2)
 have HBs2y := Lib.hid (HBs2.out.below hb2)
 have HBm2y := Lib.hid (HBm2.out.below hb2)
 clear hb2 hB2 hB2' q2
 go_wp2_with fail
 have hSa := same_calls E2 (some ⟨x2.heap.size, 0, none⟩) [1, fb 4] [1, fb 4] 2 2 k2 2 (x2.alloc (.cells #[.int .u8 1, .int .u8 4] 5)) rfl rfl HB2.out.by_ HLt2.out.by_
 rw [decide_eq_true rfl] at hSa
 with_reducible refine hSa.mono ?_
 clear hSa
 rintro e x3 ⟨rfl, hx2⟩
 rw [hx2] at HWy2 HBs2y HBm2y
 have HWx3 := HWy2
 have HBs3 := HBs2y
 have HBm3 := HBm2y
 clear hx2 q2' HWx2 HWy2 HBs2 HBs2y HBm2 HBm2y HB2 HLt2
 obtain ⟨bb3, oo3, E3, k3, e3, q3, hB3⟩ := share_at HWx3.out.sb HLb.out (i := 2) (by decide)
 cases e3
 have q3' : x3.cell? _ = some (.slice E3 2 k3) := q3
 have hB3' : BF S.g x3 E3 [fb 2, fb 4] := hB3
 have hb3 : Below x3.heap.size x3 (x3.alloc (.cells #[.int .u8 2, .int .u8 4] 5)) := (Below.refl _ _).alloc (Nat.le_refl _) _
 have HB3 := Lib.hid (hB3'.below hb3)
 have HLt3 := Lib.hid (bf_new HWx3.out.lw.ok.fld.fld #[.int .u8 2, .int .u8 4] [fb 2, fb 4] rfl)
 have HWy3 := Lib.hid (HWx3.out.below hb3)
 have HBs3y := Lib.hid (HBs3.out.below hb3)
 have HBm3y := Lib.hid (HBm3.out.below hb3)
 clear hb3 hB3 hB3' q3
 go_wp2_with fail
 have hSa := same_calls E3 (some ⟨x3.heap.size, 0, none⟩) [fb 2, fb 4] [fb 2, fb 4] 2 2 k3 2 (x3.alloc (.cells #[.int .u8 2, .int .u8 4] 5)) rfl rfl HB3.out.by_ HLt3.out.by_
 rw [decide_eq_true rfl] at hSa
 with_reducible refine hSa.mono ?_
 clear hSa
 rintro e x4 ⟨rfl, hx3⟩
 rw [hx3] at HWy3 HBs3y HBm3y
 have HWx4 := HWy3
 have HBs4 := HBs3y
 have HBm4 := HBm3y
 clear hx3 q3' HWx3 HWy3 HBs3 HBs3y HBm3 HBm3y HB3 HLt3
 have hb4 : Below x4.heap.size x4 (x4.alloc (.cells #[.int .u8 1, .int .u8 2] 5)) := (Below.refl _ _).alloc (Nat.le_refl _) _
 have HLt4 := Lib.hid (bf_new HWx4.out.lw.ok.fld.fld #[.int .u8 1, .int .u8 2] [1, fb 2] rfl)
 have HWy4 := Lib.hid (HWx4.out.below hb4)
 have HBs4y := Lib.hid (HBs4.out.below hb4)
 have HBm4y := Lib.hid (HBm4.out.below hb4)
 clear hb4
 go_wp2_with fail
 have hSa := same_calls A9 (some ⟨x4.heap.size, 0, none⟩) [1, fb 2] [1, fb 2] 2 2 c9 2 (x4.alloc (.cells #[.int .u8 1, .int .u8 2] 5)) rfl rfl HBs4y.out.by_ HLt4.out.by_
 rw [decide_eq_true rfl] at hSa
 with_reducible refine hSa.mono ?_
 clear hSa
 rintro e x5 ⟨rfl, hx4⟩
 rw [hx4] at HWy4 HBs4y HBm4y
 have HWx5 := HWy4
 have HBs5 := HBs4y
 have HBm5 := HBm4y
 clear hx4 HWx4 HWy4 HBs4 HBs4y HBm4 HBm4y HLt4
 have hb5 : Below x5.heap.size x5 (x5.alloc (.cells #[.int .u8 0, .int .u8 1, .int .u8 0] 5)) := (Below.refl _ _).alloc (Nat.le_refl _) _
 have HLt5 := Lib.hid (bf_new HWx5.out.lw.ok.fld.fld #[.int .u8 0, .int .u8 1, .int .u8 0] [0, 1, 0] rfl)
 have HWy5 := Lib.hid (HWx5.out.below hb5)
 have HBs5y := Lib.hid (HBs5.out.below hb5)
 have HBm5y := Lib.hid (HBm5.out.below hb5)
 clear hb5
 go_wp2_with fail
 have hSa := same_calls A10 (some ⟨x5.heap.size, 0, none⟩) [0, 1, 0] [0, 1, 0] 3 3 c10 3 (x5.alloc (.cells #[.int .u8 0, .int .u8 1, .int .u8 0] 5)) rfl rfl HBm5y.out.by_ HLt5.out.by_
 rw [decide_eq_true rfl] at hSa
 with_reducible refine hSa.mono ?_
 clear hSa
 rintro e x6 ⟨rfl, hx5⟩
 rw [hx5] at HWy5 HBs5y HBm5y
 have HWx6 := HWy5
 have HBs6 := HBs5y
 have HBm6 := HBm5y
 clear hx5 HWx5 HWy5 HBs5 HBs5y HBm5 HBm5y HLt5
 go_wp2
 go_ret
 exact ⟨rfl, HWx6.out.lw.bel⟩
end Go.Proofs.Ytimcmdnlhallmab.Tr

namespace Go.Proofs.Ytimcmdnlhallmab.Tr
open Go.RowKit Go.Shelf F8 Poly GF Rd Ms
attribute [local go_sem] Oper.semAt_some
abbrev C2 (b : Nat) (n k : Int) (V : World) : Prop := V.cell? ⟨b, 0, none⟩ = some (.int .i64 n) ∧ V.cell? ⟨b, 1, none⟩ = some (.int .i64 k)
theorem C2.below {b : Nat} {n k : Int} {V V' : World} (h : C2 b n k V) (hb : Below V.heap.size V V') : C2 b n k V' :=
 ⟨(hb.cell (cell_lt h.1)).trans h.1, (hb.cell (cell_lt h.2)).trans h.2⟩
theorem C2.new (w : World) (n k : Int) : C2 w.heap.size n k (w.alloc (.cells #[.int .i64 n, .int .i64 k] 29)) :=
 ⟨(Block.new w 29 #[.int .i64 n, .int .i64 k]).cell 0, (Block.new w 29 #[.int .i64 n, .int .i64 k]).cell 1⟩
def refN (n k : Int) : Int := if Good n k then 0 else 2
set_option maxRecDepth 100000 in
theorem refNew_calls (n k : Int) (w : World) :
  Calls Try.prog 9 #[.agg #[.int .i64 n, .int .i64 k]] w fun e w' => e = .returned (.int .i64 (refN n k)) ∧ Below w.heap.size w w' := by
 have hba : Below w.heap.size w (w.alloc (.cells #[.int .i64 n, .int .i64 k] 29)) := (Below.refl _ _).alloc (Nat.le_refl _) _
 obtain ⟨c0, c1⟩ := C2.new w n k
 have HBa := Lib.hid hba
 clear hba
 by_cases h1 : k < 1
 ·have HX : Hid (refN n k = 2) := Lib.hid (if_neg fun h => by have := h.1; omega)
  have d1 : decide (k < 1) = true := by simpa using h1
  go_enter Try.func9, Try.ntmps9
  go_wp2
  go_ret
  exact ⟨ret_int HX.out.symm, HBa.out⟩
 have d1 : decide (k < 1) = false := by simp; omega
 by_cases h2 : n ≤ k
 ·have HX : Hid (refN n k = 2) := Lib.hid (if_neg fun h => by have := h.2.1; omega)
  have d2 : decide (n ≤ k) = true := by simpa using h2
  go_enter Try.func9, Try.ntmps9
  go_wp2
  go_ret
  exact ⟨ret_int HX.out.symm, HBa.out⟩
 have d2 : decide (n ≤ k) = false := by simp; omega
 by_cases h3 : n > 23
 ·have HX : Hid (refN n k = 2) := Lib.hid (if_neg fun h => by have := h.2.2; omega)
  have d3 : decide (n > 23) = true := by simpa using h3
  go_enter Try.func9, Try.ntmps9
  go_wp2
  go_ret
  exact ⟨ret_int HX.out.symm, HBa.out⟩
 have d3 : decide (n > 23) = false := by simp; omega
 have HX : Hid (refN n k = 0) := Lib.hid (if_pos ⟨by omega, by omega, by omega⟩)
 go_enter Try.func9, Try.ntmps9
 go_wp2
 go_ret
 exact ⟨ret_int HX.out.symm, HBa.out⟩
theorem b_nums {n k : Nat} (hn : n < 24) (hk : k < n) : ∃ u v z : Nat, IntKind.i64.wrap ((n : Int) - 1) = (n : Int) - 1 ∧ IntKind.i64.wrap ((k : Int) * ((n : Int) - 1)) = (u : Int) ∧ IntKind.i64.wrap ((k : Int) - 1) = (k : Int) - 1 ∧ IntKind.i64.wrap ((k : Int) * ((k : Int) - 1)) = (v : Int) ∧ IntKind.i64.wrap ((v : Int) / 2) = (z : Int) ∧ IntKind.i64.wrap ((u : Int) - (z : Int)) = ((rs n k : Nat) : Int) := by
 have hB := bytes_k n hn k (by omega) hk
 obtain ⟨q, hq⟩ : ∃ q, rs n k = q := ⟨_, rfl⟩
 rw [hq] at hB ⊢
 obtain ⟨u, hu⟩ : ∃ u : Nat, (k : Int) * ((n : Int) - 1) = (u : Int) := ⟨k * (n - 1), by rw [Int.natCast_mul, Int.natCast_sub (by omega)]; rfl⟩
 obtain ⟨v, hv⟩ : ∃ v : Nat, (k : Int) * ((k : Int) - 1) = (v : Int) := by
  rcases Nat.eq_zero_or_pos k with h0 | h0
  ·exact ⟨0, by rw [h0]; rfl⟩
  ·exact ⟨k * (k - 1), by rw [Int.natCast_mul, Int.natCast_sub (by omega)]; rfl⟩
 have hu9 : u ≤ 23 * 23 := by
  have : (k : Int) * ((n : Int) - 1) ≤ 23 * 23 := Int.mul_le_mul (by omega) (by omega) (by omega) (by omega)
  omega
 have hv9 : v ≤ 23 * 23 := by
  have : (k : Int) * ((k : Int) - 1) ≤ 23 * 23 := by
   rcases Nat.eq_zero_or_pos k with h0 | h0
   ·rw [h0]; decide
   ·exact Int.mul_le_mul (by omega) (by omega) (by omega) (by omega)
  omega
 rw [hu, hv] at hB
 refine ⟨u, v, v / 2, IntWalk.i64_in _ (by omega), by rw [hu]; exact IntWalk.i64_in _ (by omega), IntWalk.i64_in _ (by omega), by rw [hv]; exact IntWalk.i64_in _ (by omega), by rw [show (v : Int) / 2 = ((v / 2 : Nat) : Int) by omega]; exact IntWalk.i64_in _ (by omega), by rw [show (u : Int) - ((v / 2 : Nat) : Int) = (q : Int) by omega]; exact IntWalk.i64_in _ (by omega)⟩
set_option maxRecDepth 100000 in
theorem refB_calls {n k : Nat} (hn : n < 24) (hk : k < n) (w : World) :
  Calls Try.prog 13 #[.agg #[.int .i64 (n : Nat), .int .i64 (k : Nat)]] w fun e w' => e = .returned (.int .i64 (rs n k : Nat)) ∧ Below w.heap.size w w' := by
 have hba : Below w.heap.size w (w.alloc (.cells #[.int .i64 (n : Int), .int .i64 (k : Int)] 29)) := (Below.refl _ _).alloc (Nat.le_refl _) _
 obtain ⟨c0, c1⟩ := C2.new w n k
 have HBa := Lib.hid hba
 obtain ⟨u, v, z, w1, w2, w3, w4, w5, w6⟩ := b_nums hn hk
 obtain ⟨q, hq⟩ : ∃ q, rs n k = q := ⟨_, rfl⟩
 rw [hq] at w6 ⊢
 clear hba hq
 have hmx : Try.prog.follows .mixedOrders = true := by kernel_rfl
 go_enter Try.func13, Try.ntmps13
 go_wp2
 go_ret
 exact ⟨rfl, HBa.out⟩
def Few (n k : Int) : Prop := n ≤ 9 ∧ k ≤ 9
instance (n k : Int) : Decidable (Few n k) := inferInstanceAs (Decidable (_ ∧ _))
theorem few_calls (n k : Int) (w : World) : Calls Try.prog 14 #[.int .i64 n, .int .i64 k] w fun e w' => e = .returned (.bool (decide (Few n k))) ∧ w = w' := by
 by_cases h1 : n ≤ 9
 ·have d1 : decide (n ≤ 9) = true := decide_eq_true h1
  have HD : Hid (decide (k ≤ 9) = decide (Few n k)) := Lib.hid (by rw [decide_eq_decide]; exact ⟨fun h => ⟨h1, h⟩, fun h => h.2⟩)
  go_enter Try.func14, Try.ntmps14
  go_wp2
  go_ret
  exact ⟨ret_bool HD.out, rfl⟩
 ·have d1 : decide (n ≤ 9) = false := decide_eq_false h1
  have HD : Hid (decide (Few n k) = false) := Lib.hid (decide_eq_false fun h => h1 h.1)
  go_enter Try.func14, Try.ntmps14
  go_wp2
  go_ret
  exact ⟨ret_bool HD.out.symm, rfl⟩
end Go.Proofs.Ytimcmdnlhallmab.Tr
