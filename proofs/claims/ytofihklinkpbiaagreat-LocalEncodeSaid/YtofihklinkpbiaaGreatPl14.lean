/- Of the program, joined: LoCode6, LoCode7, KSome, WlKit, LoSt. -/
import Derived.Test.YtofihklinkpbiaaGreatPl13
namespace Go.Proofs.YtofihklinkpbiaaGreat.Lo
open Go.RowKit Go.Shelf F8 Poly GF Rd Ms
attribute [local go_sem] Oper.semAt_some
def yOf (l : List El) (j : Nat) : F8 := ((l.find? fun e => decide (e.p = (j : Int))).map fun e => coef e.s 0).getD 0
theorem yOf_mem : ∀ {l : List El} {e : El} {j : Nat}, (l.map El.p).Nodup → e ∈ l → e.p = (j : Int) → yOf l j = coef e.s 0
 | [], e, j, _, h, _ => by simp at h
 | x :: l, e, j, hn, h, hp => by
  unfold yOf
  rw [List.map_cons, List.nodup_cons] at hn
  by_cases hx : x.p = (j : Int)
  ·rw [List.find?_cons_of_pos (by simpa using hx)]
   rcases List.mem_cons.1 h with rfl | h
   ·rfl
   ·exact absurd (List.mem_map.2 ⟨e, h, hp.trans hx.symm⟩) hn.1
  ·rw [List.find?_cons_of_neg (by simpa using hx)]
   rcases List.mem_cons.1 h with rfl | h
   ·exact absurd hp hx
   ·exact yOf_mem hn.2 h hp
def NrG (S : Lc) (to : Int) (sh : List (Int × List F8)) (w : World) (e : Ending) (w' : World) : Prop :=
 ∃ v z, NIs S.xs S.r to sh v z ∧ e = .returned (.tuple #[.int .u8 v.n, .int .i64 z]) ∧ FldP w' (some ⟨S.g, 0, none⟩) ∧ Past w.heap.size S.g w w'
theorem nis_of {xs : List F8} {r G i : Nat} {l : List El} {g : List F8} (_ : xs.length = G * (r + 1)) (hok : NOk xs.length (i : Int) (shE l)) (hall : ∀ j ∈ grpL r i, (j : Int) ∈ l.map El.p) (hg : g.length ≤ r) (hv : ∀ j ∈ grpL r i, eval g (coef xs j) = yOf l j) :
  NIs xs r (i : Int) (shE l) (eval g (coef xs i)) 0 := by
 have hnd : (l.map El.p).Nodup := by rw [← plS_shE]; exact hok.2.1.1
 refine .inr (.inr ⟨hok, fun j hj => by rw [plS_shE]; exact hall j (by rwa [Int.toNat_natCast] at hj), rfl, g, hg, fun o ho hgr => ?_, by rw [Int.toNat_natCast]⟩)
 obtain ⟨e, he, rfl⟩ := List.mem_map.1 ho
 rw [Int.toNat_natCast] at hgr
 have h1 := (hok.2.1.2 _ ho).1
 have hne : e.p ≠ (i : Int) := fun hh => hok.2.2 (by rw [plS_shE]; exact List.mem_map.2 ⟨e, he, hh⟩)
 obtain ⟨j, hj⟩ : ∃ j : Nat, e.p = (j : Int) := ⟨e.p.toNat, by have : 0 ≤ e.p := h1.1; omega⟩
 have hjt : (e.p, e.s).1.toNat = j := by show e.p.toNat = j; omega
 rw [hjt] at hgr ⊢
 have hjm : j ∈ grpL r i := mem_grpL.2 ⟨hgr, fun hh => hne (by rw [hj, hh])⟩
 rw [hv j hjm, yOf_mem hnd he hj]
theorem vok_split {n : Nat} {l : List El} {to : Int} : NOk n to (shE l) ↔ (0 ≤ to ∧ to < (n : Int)) ∧ Sy.VOk n 1 [] (Sy.elsN l) ∧ to ∉ l.map El.p := by
 unfold NOk
 rw [lok_iff, plS_shE]
attribute [-go_sem] Builtin.append_
set_option maxRecDepth 100000 in
set_option maxHeartbeats 8000000 in
theorem near_good (PS : Poly.Spec) {S : Lc} {w : World} (h : S.Ok w) (i : Nat) (A : Option Addr) (l : List El) (m c : Nat) (hl : l.length = m) (hm : m ≤ 1000) (hE : Els S.g w A l) (hok : NOk S.n (i : Int) (shE l)) :
  Calls Tryz.prog 36 #[.pointer (some ⟨S.b, 0, none⟩), .int .i64 (i : Nat), .slice A m c] w (NrG S (i : Int) (shE l) w) := by
 obtain ⟨c0, c1, c2, -, -⟩ := h.cells
 have hn := h.par.nums
 have hr1 := h.par.r1
 have HNone := Lib.hid (isNone_calls h)
 have hhas := has_calls S (i : Int) w
 rw [decide_eq_true hok.1] at hhas
 have hok2 := vok_split.1 hok
 have hin : i < S.n := by have := hok.1.2; omega
 have HFit : Hid (∀ V, Below w.heap.size w V → Calls Tryz.prog 74 #[S.ex, .slice A m c] V fun e w' => e = .returned (.bool true) ∧ Below V.heap.size V w') := Lib.hid fun V hV => by
  have := fit_calls S (by omega) A l m c V hl hm (hE.below hV).row
  rwa [decide_eq_true hok2.2.1] at this
 have HC : Hid (∀ V, Below w.heap.size w V → Calls Tryz.prog 75 #[.slice A m c, .func (.func 76) #[.int .i64 (i : Nat)] #[]] V fun e w' => e = .returned (.bool false) ∧ Below V.heap.size V w') := Lib.hid fun V hV => by
  have := contains_calls (i : Int) A l m c V hl hm (hE.below hV).row
  rwa [decide_eq_false hok2.2.2] at this
 have hgz : grpZ S.n S.r (i : Int) = grpL S.r i := by unfold grpZ; rw [if_pos hok.1, Int.toNat_natCast]
 have HGr : Hid (∀ V, Below w.heap.size w V → Calls Tryz.prog 28 #[.pointer (some ⟨S.b, 0, none⟩), .int .i64 (i : Nat)] V (Pt.Nums V (grpL S.r i))) := Lib.hid fun V hV => by
  have := grp_calls (h.below hV) (i : Int)
  rwa [hgz] at this
 have HIx : Hid (∀ V, Below w.heap.size w V → ∀ x : Int, Calls Tryz.prog 77 #[.slice A m c, .func (.func 76) #[.int .i64 x] #[]] V fun e w' => ∃ z : Int, e = .returned (.int .i64 z) ∧ IdxIs l x z ∧ Below V.heap.size V w') := Lib.hid fun V hV x => index_calls x A l m c V hl hm (hE.below hV).row
 have HS : Hid (∀ V, Below w.heap.size w V → V.cell? ⟨S.b, 0, none⟩ = some (.pointer (some ⟨S.g, 0, none⟩)) ∧ V.cell? ⟨S.b, 1, none⟩ = some (.slice S.A S.n S.c) ∧ V.cell? ⟨S.b, 2, none⟩ = some (.pointer (some ⟨S.rb, 0, none⟩))) := Lib.hid fun V hV => ⟨(h.below hV).cells.1, (h.below hV).cells.2.1, (h.below hV).cells.2.2.1⟩
 have H := Lib.hid h
 have HE := Lib.hid hE
 have HL := Lib.hid hl
 have HOk := Lib.hid hok
 have HR : Hid (1 ≤ S.r ∧ S.r ≤ 254 ∧ S.n ≤ 255) := Lib.hid ⟨hr1, by omega, by omega⟩
 have HX1 : Hid (∀ w', (∃ j ∈ grpL S.r i, (j : Int) ∉ l.map El.p) → Below w.heap.size w w' → NrG S (i : Int) (shE l) w (.returned (.tuple #[.int .u8 0, .int .i64 70])) w') := Lib.hid fun w' hj hb => ⟨0, 70, .inr (.inl ⟨by rw [h.len]; exact hok, by rw [Int.toNat_natCast, plS_shE]; exact hj, rfl, rfl⟩), rfl, h.fld.below hb, Past.of_below hb _⟩
 have HX2 : Hid (∀ w' g, (∀ j ∈ grpL S.r i, (j : Int) ∈ l.map El.p) → g.length ≤ S.r → (∀ j ∈ grpL S.r i, eval g (coef S.xs j) = yOf l j) → FldP w' (some ⟨S.g, 0, none⟩) → Past w.heap.size S.g w w' → NrG S (i : Int) (shE l) w (.returned (.tuple #[.int .u8 (eval g (coef S.xs i)).n, .int .i64 0])) w') := Lib.hid fun w' g hall hg hv hf hp => ⟨_, 0, nis_of (G := S.G) (by rw [h.len]; exact h.par.en) (by rw [h.len]; exact hok) hall hg hv, rfl, hf, hp⟩
 have HGn : Hid (∀ j ∈ grpL S.r i, j < S.n) := Lib.hid fun j hj => by
  have h1 := (mem_grpL.1 hj).1
  rw [h.par.en] at hin ⊢
  exact grp_lt hin h1
 have HXn : Hid (∀ j ∈ grpL S.r i, ∀ k ∈ grpL S.r i, coef S.xs j = coef S.xs k → j = k) := Lib.hid fun j hj k hk e => coef_inj h.nd (by rw [h.len]; exact HGn.out j hj) (by rw [h.len]; exact HGn.out k hk) e
 have HGl : Hid ((grpL S.r i).length = S.r) := Lib.hid (grpL_length _ _)
 have HGd := Lib.hid (grpL_nodup S.r i)
 obtain ⟨L, hL⟩ : ∃ L, grpL S.r i = L := ⟨_, rfl⟩
 rw [hL] at HGr HX1 HX2 HGn HXn HGl HGd
 obtain ⟨r, hr⟩ : ∃ r, S.r = r := ⟨_, rfl⟩
 rw [hr] at HX2 HGl HR
 have hr9 : r ≤ 254 := HR.out.2.1
 have HHas := Lib.hid hhas
 unfold Lc.ex at HHas HFit
 clear h hn hr1 hhas hok hok2 hgz hE hl hL hr
 go_enter Tryz.func36, Tryz.ntmps36
 go_wp2_with (first
  | (go_at_call 65; refine HNone.out.mono ?_; rintro e w1 ⟨rfl, rfl⟩)
  | (go_at_call 66; (with_reducible refine HHas.out.mono ?_); rintro e w1 ⟨rfl, hb1⟩; obtain ⟨d0, d1, d2⟩ := HS.out _ hb1)
  | (go_at_call 74; (with_reducible refine (HFit.out _ hb1).mono ?_); rintro e w2 ⟨rfl, hb2'⟩; have hb2 := hb1.trans (hb2'.mono hb1.size))
  | (go_at_call 75; (with_reducible refine (HC.out _ hb2).mono ?_); rintro e w3 ⟨rfl, hb3'⟩; have hb3 := hb2.trans (hb3'.mono hb2.size))
  | (go_at_call 28; (with_reducible refine (HGr.out _ hb3).mono ?_); rintro e w4 ⟨v4, rfl, hO4, hb4'⟩; have hb4 := hb3.trans (hb4'.mono hb3.size); obtain ⟨A4, c4, rfl, hr4, -⟩ := hO4.form))
 have hgl : (Pt.nv L).length = r := by simpa [Pt.nv] using HGl.out
 rw [hgl]
 have HB4 := Lib.hid hb4
 have HR4 := Lib.hid hr4
 clear hb1 hb2' hb2 hb3' hb3 hb4' hb4 hO4 hr4 hgl d0 d1 d2 HC HFit HHas HGr HNone c0 c1 c2
 go_loopw [8, 9, 43] (fun xv yv iv wr => ∃ x : Nat, x ≤ r ∧ iv = .int .i64 x ∧ Hid (TB w4 w4.heap.size xv yv ((L.take x).map (coef S.xs)) ((L.take x).map (yOf l)) wr) ∧ Hid (∀ j ∈ L.take x, (j : Int) ∈ l.map El.p)) (fun _ _ iv _ => r - (intOf iv).toNat)
 case atStart => exact ⟨0, by omega, rfl, Lib.hid ⟨Own.nil _ _ _, Own.nil _ _ _, .inl rfl, Below.refl _ _⟩, Lib.hid (by simp)⟩
 case round =>
  obtain ⟨x, hx, rfl, HT, HJ⟩ := hrel
  have HBw := Lib.hid (HB4.out.trans (HT.out.bel.mono HB4.out.size))
  by_cases hxr : x < r
  ·have hxL : x < L.length := by rw [HGl.out]; exact hxr
   have HTk : Hid (L.take (x + 1) = L.take x ++ [L[x]]) := Lib.hid (take_succ' L hxL)
   have hmem : L[x] ∈ L := List.getElem_mem hxL
   obtain ⟨bG, oG, rfl, hcG⟩ := (HR4.out.below HT.out.bel) x (.int .i64 (L[x] : Nat)) (by simp [Pt.nv, hxL])
   obtain ⟨j, hj⟩ : ∃ j, L[x] = j := ⟨_, rfl⟩
   rw [hj] at HTk hmem hcG
   have hjn := HGn.out j hmem
   have HMem := Lib.hid hmem
   have HI := Lib.hid (HIx.out wr HBw.out (j : Int))
   have hn9 := HR.out.2.2
   clear hj hmem hxL
   go_wp2_with fail
   refine HI.out.mono ?_
   rintro e w5 ⟨z, rfl, hz, hb5⟩
   rcases hz with ⟨rfl, hno⟩ | ⟨t, rfl, htl, htp⟩
   ·have HX : Hid (NrG S (i : Int) (shE l) w (.returned (.tuple #[.int .u8 0, .int .i64 70])) w5) := Lib.hid (HX1.out _ ⟨j, HMem.out, fun hh => by
     obtain ⟨e, he, h1⟩ := List.mem_map.1 hh
     exact hno e he h1⟩ (HBw.out.trans (hb5.mono HBw.out.size)))
    have hneg : decide ((-1 : Int) < 0) = true := rfl
    clear hno hb5
    go_wp2
    go_ret2
    exact HX.out
   ·have htm : t < m := by rw [← HL.out]; exact htl
    have hb5w := HBw.out.trans (hb5.mono HBw.out.size)
    obtain ⟨b, off, rfl, hc0, hc1⟩ := row2_at (HE.out.below hb5w).row htl
    have hmem : l[t] ∈ l := List.getElem_mem htl
    have h1s := (HOk.out.2.1.2 ((l[t]).p, (l[t]).s) (List.mem_map.2 ⟨l[t], hmem, rfl⟩)).2
    have hby0 : ∀ X : World, Below w.heap.size w X → Bytes X (l[t]).A (bs (l[t]).s) := fun X hX => ((HE.out.below hX).lst _ hmem).1.by_
    have hyo := yOf_mem (l := l) (e := l[t]) (j := j) (by rw [← plS_shE]; exact HOk.out.2.1.1) hmem htp
    have hinl : (j : Int) ∈ l.map El.p := List.mem_map.2 ⟨l[t], hmem, htp⟩
    have HRow : Hid (∀ X : World, Below w.heap.size w X → X.cell? ⟨b, off + t * 2 + 1, none⟩ = some (.slice (l[t]).A (l[t]).s.length (l[t]).c)) := Lib.hid fun X hX => by
     obtain ⟨b', off', e', -, h2⟩ := row2_at (HE.out.below hX).row htl
     cases e'
     exact h2
    obtain ⟨e, he⟩ : ∃ e, l[t] = e := ⟨_, rfl⟩
    rw [he] at h1s hby0 hyo HRow
    obtain ⟨ep, eA, es, ec⟩ := e
    replace h1s : es.length = 1 := h1s
    replace hby0 : ∀ X : World, Below w.heap.size w X → Bytes X eA (bs es) := hby0
    replace hyo : yOf l j = coef es 0 := hyo
    replace HRow : Hid (∀ X : World, Below w.heap.size w X → X.cell? ⟨b, off + t * 2 + 1, none⟩ = some (.slice eA 1 ec)) := Lib.hid fun X hX => by
     have h2 : X.cell? ⟨b, off + t * 2 + 1, none⟩ = some (.slice eA es.length ec) := HRow.out X hX
     rw [h1s] at h2
     exact h2
    obtain ⟨b5, o5, rfl⟩ := where_ (hby0 _ hb5w) (by rw [h1s]; omega)
    obtain ⟨bx, ox, hXA⟩ := where_ H.out.bx.by_ (by rw [H.out.len]; omega)
    obtain ⟨y, hy⟩ : ∃ y, coef es 0 = y := ⟨_, rfl⟩
    obtain ⟨px, hpx⟩ : ∃ px, coef S.xs j = px := ⟨_, rfl⟩
    have HCell : Hid (∀ X : World, Below w.heap.size w X → X.cell? ⟨S.b, 1, none⟩ = some (.slice (some ⟨bx, ox, none⟩) S.n S.c) ∧ X.cell? ⟨bx, ox + j, none⟩ = some (.int .u8 (px.n : Nat)) ∧ X.cell? ⟨b, off + t * 2 + 1, none⟩ = some (.slice (some ⟨b5, o5, none⟩) 1 ec) ∧ X.cell? ⟨b5, o5, none⟩ = some (.int .u8 (y.n : Nat))) := Lib.hid fun X hX => by
     refine ⟨?_, ?_, HRow.out X hX, ?_⟩
     ·rw [← hXA]; exact (HS.out X hX).2.1
     ·have h1 := (H.out.below hX).bx.by_
      rw [hXA] at h1
      rw [← hpx]
      exact cellAt h1 j (by rw [H.out.len]; exact hjn)
     ·have := cellAt (hby0 X hX) 0 (by rw [h1s]; omega)
      rw [hy] at this
      exact this
    have HXt : Hid ((L.take (x + 1)).map (coef S.xs) = (L.take x).map (coef S.xs) ++ [px]) := Lib.hid (by rw [HTk.out, List.map_append, ← hpx]; rfl)
    have HYt : Hid ((L.take (x + 1)).map (yOf l) = (L.take x).map (yOf l) ++ [y]) := Lib.hid (by rw [HTk.out, List.map_append, ← hy, ← hyo]; rfl)
    have HJ2 : Hid (∀ k ∈ L.take (x + 1), (k : Int) ∈ l.map El.p) := Lib.hid fun k hk => by
     rw [HTk.out] at hk
     rcases List.mem_append.1 hk with hk | hk
     ·exact HJ.out k hk
     ·rw [List.mem_singleton.1 hk]; exact hinl
    have hz4 := HT.out.bel.size
    have hT5 := HT.out.below hz4 hb5
    have hl1 : ((L.take x).map (coef S.xs)).length ≤ 1000000 := by rw [List.length_map, List.length_take]; omega
    have hl2 : ((L.take x).map (yOf l)).length ≤ 1000000 := by rw [List.length_map, List.length_take]; omega
    have hz5 : w4.heap.size ≤ w5.heap.size := Nat.le_trans hz4 hb5.size
    have HIn : Hid (∀ X xv yv P Q, TB w4 w4.heap.size xv yv P Q X → Below w.heap.size w X) := Lib.hid fun X xv yv P Q h => HB4.out.trans (h.bel.mono HB4.out.size)
    obtain ⟨g1, g2, g3, g4⟩ := HCell.out w5 hb5w
    obtain ⟨f1, f2, f3, f4⟩ := HCell.out (w5.alloc (.cells #[.int .u8 (px.n : Nat)] 5)).drew (hb5w.trans ((((Below.refl _ _).alloc (Nat.le_refl _) _).drew).mono hb5w.size))
    obtain ⟨k1, k2, k3, k4⟩ := HCell.out (w5.alloc (.cells #[.int .u8 (y.n : Nat)] 5)).drew (hb5w.trans ((((Below.refl _ _).alloc (Nat.le_refl _) _).drew).mono hb5w.size))
    obtain ⟨⟨va, Va, ua, Wa, ra, sa, ka, kaa, kab⟩, ⟨vb', Vb, ub, Wb, rb, sb, kb, -⟩, ⟨vc, Vc, uc, Wc, rc, sc, kc, -⟩, ⟨vd, Vd, ud, Wd, rd, sd, kd, -⟩, ⟨ve, Ve, ue, We, re, se, ke, -⟩, ⟨vf, Vf, uf, Wf, rf, sf, kf, kfa, kfb⟩⟩ := hT5.apps hz5 px y hl1 hl2
    obtain ⟨p1, p2, p3, p4⟩ := HCell.out _ (HIn.out _ _ _ _ _ kaa)
    obtain ⟨q1, q2, q3, q4⟩ := HCell.out _ (HIn.out _ _ _ _ _ kfa)
    rw [← HXt.out, ← HYt.out] at ka kb kc kd ke kf
    have Ka := Lib.hid ka
    have Kb := Lib.hid kb
    have Kc := Lib.hid kc
    have Kd := Lib.hid kd
    have Ke := Lib.hid ke
    have Kf := Lib.hid kf
    have hti : (t : Int) < (m : Int) := by omega
    have hnn : decide ((t : Int) < 0) = false := decide_eq_false (by omega)
    have hji : (j : Int) < (S.n : Int) := by omega
    clear ka kaa kab kb kc kd ke kf kfa kfb hT5 hl1 hl2 h1s hby0 hy hyo he hmem hinl hpx hXA hb5w hb5 HI HT HJ htl htp hc0 hc1
    go_wp2
    go_region
    all_goals
     clear ra sa rb sb rc sc rd sd re se rf sf
     go_wp2
     go_roundw
     case rel => first | exact ⟨x + 1, by omega, by go_num, Ka, HJ2⟩ | exact ⟨x + 1, by omega, by go_num, Kb, HJ2⟩ | exact ⟨x + 1, by omega, by go_num, Kc, HJ2⟩ | exact ⟨x + 1, by omega, by go_num, Kd, HJ2⟩ | exact ⟨x + 1, by omega, by go_num, Ke, HJ2⟩ | exact ⟨x + 1, by omega, by go_num, Kf, HJ2⟩
     case measure => simp [intOf]; omega
  ·obtain rfl : x = r := by omega
   have ht : L.take x = L := List.take_of_length_le (by rw [HGl.out]; exact Nat.le_refl _)
   rw [ht] at HT HJ
   obtain ⟨A1, e1, rfl, he1⟩ := Own.shape HT.out.own1
   obtain ⟨A2, e2, rfl, he2⟩ := Own.shape HT.out.own2
   have hl1 : (L.map (coef S.xs)).length = x := by rw [List.length_map, HGl.out]
   have hl2 : (L.map (yOf l)).length = x := by rw [List.length_map, HGl.out]
   have hH := H.out.below HBw.out
   have hnd : (L.map (coef S.xs)).Nodup := by
    rw [List.nodup_iff_pairwise_ne, List.pairwise_map]
    exact (List.nodup_iff_pairwise_ne.1 HGd.out).imp_of_mem fun {a b} ha hb hne e => hne (HXn.out a ha b hb e)
   have hT := HT.out
   rw [hl1] at he1
   rw [hl2] at he2
   have hO1 := hT.own1
   have hO2 := hT.own2
   rw [hl1] at hO1 ⊢
   rw [hl2] at hO2 ⊢
   have hTh := PS.throughP A1 A2 (L.map (coef S.xs)) (L.map (yOf l)) x x e1 e2 wr hl1 hl2 (Own.bytes hO1) (Own.bytes hO2) he1 he2 (by omega) (by omega) (some ⟨S.g, 0, none⟩) hH.fld (far_own hH.fld.fld hO1) (far_own hH.fld.fld hO2) rfl hnd
   have HTh := Lib.hid hTh
   obtain ⟨d0, d1, d2⟩ := HS.out _ HBw.out
   have hxx : ¬ ((x : Int) < (x : Int)) := by omega
   clear ht hH hnd hT hO1 hO2 hTh HT
   go_wp2_with fail
   refine HTh.out.mono ?_
   rintro e w6 ⟨rr, hrr, A5, c5, rfl, hc5, hO5, hF5, hP5⟩
   have hP5' : Past wr.heap.size S.g wr w6 := hP5
   have hH6 := (H.out.below HBw.out).past hF5 hP5'
   have hrl := thru_length hrr
   rw [hl1] at hrl
   have hvv : ∀ j ∈ L, eval rr (coef S.xs j) = yOf l j := by
    have := thru_word (by rw [hl1, hl2]) hrr
    unfold word at this
    rw [List.map_map] at this
    exact List.map_inj_left.1 this
   obtain ⟨rn, hrn⟩ : ∃ rn, rr.length = rn := ⟨_, rfl⟩
   have hVa := value_calls PS hH6 A5 rr rn c5 hrn (BF.own hH6.fld hO5) (by omega) (by omega) i hin
   unfold Lc.ex at hVa
   have HVa := Lib.hid hVa
   have HVv := Lib.hid hvv
   have HRl := Lib.hid hrl
   obtain ⟨d0, d1, d2⟩ := hH6.cells
   have HP6 := Lib.hid ((Past.of_below HBw.out S.g).trans (hP5'.mono HBw.out.size))
   rw [hrn]
   clear hVa hvv hrl hH6 hP5 hP5' hF5 hO5 hrr hrn hl1 hl2 HTh
   go_wp2_with fail
   refine HVa.out.mono ?_
   rintro e w7 ⟨rfl, hF7, hP7⟩
   go_wp2
   go_ret2
   exact HX2.out _ _ HJ.out HRl.out HVv.out hF7 (HP6.out.trans (hP7.mono HP6.out.size))
end Go.Proofs.YtofihklinkpbiaaGreat.Lo

namespace Go.Proofs.YtofihklinkpbiaaGreat.Lo
open Go.RowKit Go.Shelf F8 Poly GF Rd Ms
attribute [local go_sem] Oper.semAt_some
set_option maxRecDepth 100000 in
set_option maxHeartbeats 4000000 in
theorem near_bad {S : Lc} {w : World} (h : S.Ok w) (to : Int) (A : Option Addr) (l : List El) (m c : Nat) (hl : l.length = m) (hm : m ≤ 1000) (hE : Els S.g w A l) (hok : ¬ NOk S.n to (shE l)) :
  Calls Tryz.prog 36 #[.pointer (some ⟨S.b, 0, none⟩), .int .i64 to, .slice A m c] w (NrG S to (shE l) w) := by
 obtain ⟨c0, c1, c2, -, -⟩ := h.cells
 have hn := h.par.nums
 have HNone := Lib.hid (isNone_calls h)
 have hhas := has_calls S to w
 have HX : Hid (∀ w', Below w.heap.size w w' → NrG S to (shE l) w (.returned (.tuple #[.int .u8 0, .int .i64 2])) w') := Lib.hid fun w' hb => ⟨0, 2, .inl ⟨by rw [h.len]; exact hok, rfl, rfl⟩, rfl, h.fld.below hb, Past.of_below hb _⟩
 have hok2 := fun e => hok (vok_split.2 e)
 have HS : Hid (∀ V, Below w.heap.size w V → V.cell? ⟨S.b, 0, none⟩ = some (.pointer (some ⟨S.g, 0, none⟩)) ∧ V.cell? ⟨S.b, 1, none⟩ = some (.slice S.A S.n S.c) ∧ V.cell? ⟨S.b, 2, none⟩ = some (.pointer (some ⟨S.rb, 0, none⟩))) := Lib.hid fun V hV => ⟨(h.below hV).cells.1, (h.below hV).cells.2.1, (h.below hV).cells.2.2.1⟩
 unfold Lc.ex at hhas
 by_cases h1 : 0 ≤ to ∧ to < (S.n : Int)
 rotate_left
 ·rw [decide_eq_false h1] at hhas
  have HHas := Lib.hid hhas
  clear h hn hhas hok hok2 hE hl h1
  go_enter Tryz.func36, Tryz.ntmps36
  go_wp2_with (first
   | (go_at_call 65; refine HNone.out.mono ?_; rintro e w1 ⟨rfl, rfl⟩)
   | (go_at_call 66; (with_reducible refine HHas.out.mono ?_); rintro e w1 ⟨rfl, hb1⟩))
  go_ret2
  exact HX.out _ hb1
 rw [decide_eq_true h1] at hhas
 have HHas := Lib.hid hhas
 by_cases h2 : Sy.VOk S.n 1 [] (Sy.elsN l)
 rotate_left
 ·have HFit : Hid (∀ V, Below w.heap.size w V → Calls Tryz.prog 74 #[S.ex, .slice A m c] V fun e w' => e = .returned (.bool false) ∧ Below V.heap.size V w') := Lib.hid fun V hV => by
   have := fit_calls S (by omega) A l m c V hl hm (hE.below hV).row
   rwa [decide_eq_false h2] at this
  unfold Lc.ex at HFit
  clear h hn hhas hok hok2 hE hl h1 h2
  go_enter Tryz.func36, Tryz.ntmps36
  go_wp2_with (first
   | (go_at_call 65; refine HNone.out.mono ?_; rintro e w1 ⟨rfl, rfl⟩)
   | (go_at_call 66; (with_reducible refine HHas.out.mono ?_); rintro e w1 ⟨rfl, hb1⟩; obtain ⟨d0, d1, d2⟩ := HS.out _ hb1)
   | (go_at_call 74; (with_reducible refine (HFit.out _ hb1).mono ?_); rintro e w2 ⟨rfl, hb2'⟩; have hb2 := hb1.trans (hb2'.mono hb1.size)))
  go_ret2
  exact HX.out _ hb2
 have h3 : to ∈ l.map El.p := by
  by_cases h : to ∈ l.map El.p
  ·exact h
  ·exact absurd ⟨h1, h2, h⟩ hok2
 have HFit : Hid (∀ V, Below w.heap.size w V → Calls Tryz.prog 74 #[S.ex, .slice A m c] V fun e w' => e = .returned (.bool true) ∧ Below V.heap.size V w') := Lib.hid fun V hV => by
  have := fit_calls S (by omega) A l m c V hl hm (hE.below hV).row
  rwa [decide_eq_true h2] at this
 have HC : Hid (∀ V, Below w.heap.size w V → Calls Tryz.prog 75 #[.slice A m c, .func (.func 76) #[.int .i64 to] #[]] V fun e w' => e = .returned (.bool true) ∧ Below V.heap.size V w') := Lib.hid fun V hV => by
  have := contains_calls to A l m c V hl hm (hE.below hV).row
  rwa [decide_eq_true h3] at this
 unfold Lc.ex at HFit
 clear h hn hhas hok hok2 hE hl h1 h2 h3
 go_enter Tryz.func36, Tryz.ntmps36
 go_wp2_with (first
  | (go_at_call 65; refine HNone.out.mono ?_; rintro e w1 ⟨rfl, rfl⟩)
  | (go_at_call 66; (with_reducible refine HHas.out.mono ?_); rintro e w1 ⟨rfl, hb1⟩; obtain ⟨d0, d1, d2⟩ := HS.out _ hb1)
  | (go_at_call 74; (with_reducible refine (HFit.out _ hb1).mono ?_); rintro e w2 ⟨rfl, hb2'⟩; have hb2 := hb1.trans (hb2'.mono hb1.size))
  | (go_at_call 75; (with_reducible refine (HC.out _ hb2).mono ?_); rintro e w3 ⟨rfl, hb3'⟩; have hb3 := hb2.trans (hb3'.mono hb2.size)))
 go_ret2
 exact HX.out _ hb3
theorem near_calls (PS : Poly.Spec) {S : Lc} {w : World} (h : S.Ok w) (to : Int) (A : Option Addr) (l : List El) (m c : Nat) (hl : l.length = m) (hm : m ≤ 1000) (hE : Els S.g w A l) :
  Calls Tryz.prog 36 #[.pointer (some ⟨S.b, 0, none⟩), .int .i64 to, .slice A m c] w (NrG S to (shE l) w) := by
 by_cases hok : NOk S.n to (shE l)
 ·obtain ⟨i, rfl⟩ : ∃ i : Nat, to = (i : Int) := ⟨to.toNat, by have := hok.1; omega⟩
  exact near_good PS h i A l m c hl hm hE hok
 ·exact near_bad h to A l m c hl hm hE hok
theorem near_nil (to : Int) (A : Option Addr) (m c : Nat) (w : World) : Calls Tryz.prog 36 #[.pointer none, .int .i64 to, .slice A m c] w fun e w' => e = .returned (.tuple #[.int .u8 0, .int .i64 1]) ∧ w = w' := by
 go_enter Tryz.func36, Tryz.ntmps36
 go_wp2_with (go_at_call 65; refine (none_nil _).mono ?_; rintro e w1 ⟨rfl, rfl⟩)
 go_ret2
 exact ⟨rfl, rfl⟩
def Good (n k r : Int) : Prop := 1 ≤ r ∧ r ≤ 254 ∧ (r + 1) ∣ 255 ∧ (r + 1) ∣ n ∧ n ≤ 255 ∧ 1 ≤ k ∧ r ∣ k ∧ k + k / r - 1 ≤ n
instance (n k r : Int) : Decidable (Good n k r) := inferInstanceAs (Decidable (_ ∧ _))
theorem Good.lp {n k r : Int} (h : Good n k r) : ∃ n' k' r' q G : Nat, n = n' ∧ k = k' ∧ r = r' ∧ Lp n' k' r' q G ∧ k / r = (q : Int) ∧ n / (r + 1) = (G : Int) := by
 obtain ⟨h1, h2, h3, h4, h5, h6, h7, h8⟩ := h
 obtain ⟨m, rfl⟩ : ∃ m : Nat, r = (m : Int) := ⟨r.toNat, by omega⟩
 obtain ⟨kk, rfl⟩ : ∃ m : Nat, k = (m : Int) := ⟨k.toNat, by omega⟩
 have hkr : 0 ≤ (kk : Int) / (m : Int) := Int.ediv_nonneg (by omega) (by omega)
 obtain ⟨nn, rfl⟩ : ∃ m : Nat, n = (m : Int) := ⟨n.toNat, by omega⟩
 have h3' : (m + 1) ∣ 255 := Int.natCast_dvd_natCast.1 (by simpa using h3)
 have h4' : (m + 1) ∣ nn := Int.natCast_dvd_natCast.1 (by simpa using h4)
 have h7' : m ∣ kk := Int.natCast_dvd_natCast.1 h7
 have e1 : kk / m * m = kk := Nat.div_mul_cancel h7'
 have e2 : nn / (m + 1) * (m + 1) = nn := Nat.div_mul_cancel h4'
 have e3 : 255 / (m + 1) * (m + 1) = 255 := Nat.div_mul_cancel h3'
 refine ⟨nn, kk, m, kk / m, nn / (m + 1), rfl, rfl, rfl, ⟨by omega, by rw [Nat.mul_comm]; exact e3, e2.symm, Nat.div_le_div_right (by omega), e1.symm, ?_, ?_⟩, by simp, by simp⟩
 ·exact (Nat.one_le_div_iff (by omega)).2 (Nat.le_of_dvd (by omega) h7')
 ·have : (kk / m) * (m + 1) = kk + kk / m := by rw [Nat.mul_succ, e1]
  have h8' : (kk : Int) + ((kk / m : Nat) : Int) - 1 ≤ (nn : Int) := by simpa using h8
  omega
def NewIs (w : World) (g : Nat) (n k r : Int) (e : Ending) (w' : World) : Prop :=
 (Good n k r ∧ ∃ S : Lc, S.Ok w' ∧ S.g = g ∧ (S.n : Int) = n ∧ (S.k : Int) = k ∧ (S.r : Int) = r ∧ w.heap.size ≤ S.b ∧ e = .returned (.tuple #[.pointer (some ⟨S.b, 0, none⟩), .int .i64 0]) ∧ Past w.heap.size g w w') ∨
 (¬ Good n k r ∧ e = .returned (.tuple #[.pointer none, .int .i64 2]) ∧ w = w')
set_option maxRecDepth 100000 in
set_option maxHeartbeats 4000000 in
theorem new_good (g n' k' r' q' G s : Nat) (hs : r' + 1 = s) (w : World) (hf : FldP w (some ⟨g, 0, none⟩)) (hlp : Lp n' k' r' q' G) (hgood : Good (n' : Int) (k' : Int) (r' : Int)) :
  Calls Tryz.prog 25 #[.pointer (some ⟨g, 0, none⟩), .int .i64 (n' : Nat), .int .i64 (k' : Nat), .int .i64 (r' : Nat)] w (NewIs w g (n' : Int) (k' : Int) (r' : Int)) := by
 have hnums := hlp.nums
 have h1 := hlp.r1
 have hk1 : 1 ≤ k' := by omega
 have hs1 : (r' : Int) + 1 = (s : Int) := by omega
 have hsn : ¬ ((s : Int) = 0) := by omega
 have hs00 : ¬ s = 0 := by omega
 have h1' : ¬ (r' : Int) < 1 := by omega
 have h2' : ¬ 254 < (r' : Int) := by omega
 have hm0 : ¬ ((r' : Int) = 0) := by omega
 have hm00 : ¬ r' = 0 := by omega
 have hst := hlp.st
 have he0 : 255 % s = 0 := by rw [← hst, hs]; exact Nat.mul_mod_right _ _
 have hmod : (255 : Int).tmod (s : Int) = 0 := by
  rw [Int.tmod_eq_emod_of_nonneg (by decide)]
  have e : (255 : Int) % (s : Int) = ((255 % s : Nat) : Int) := by simp
  rw [e, he0]; rfl
 have hen := hlp.en
 rw [hs] at hen
 have hnm : (n' : Int).tmod (s : Int) = 0 := by
  rw [Int.tmod_eq_emod_of_nonneg (by omega), hen]
  simp
 have hnG : (n' : Int).tdiv (s : Int) = (G : Int) := by
  rw [Int.tdiv_eq_ediv_of_nonneg (by omega), hen, Int.natCast_mul]
  exact Int.mul_ediv_cancel _ (by omega)
 have hkm : (k' : Int).tmod (r' : Int) = 0 := by
  rw [Int.tmod_eq_emod_of_nonneg (by omega), hlp.ek]
  simp
 have hkd : (k' : Int).tdiv (r' : Int) = (q' : Int) := by
  rw [Int.tdiv_eq_ediv_of_nonneg (by omega), hlp.ek, Int.natCast_mul]
  exact Int.mul_ediv_cancel _ (by omega)
 have h5 : ¬ (n' : Int) > 255 := by omega
 have h6 : ¬ (k' : Int) < 1 := by omega
 have hq9 := hlp.q1
 have d1 : decide ((r' : Int) < 1) = false := decide_eq_false (by omega)
 have hkle : k' + q' = q' * (r' + 1) := by rw [Nat.mul_succ, hlp.ek]
 have hle := hlp.le
 have h7 : ¬ (k' : Int) > (n' : Int) := by omega
 have h9 : ¬ (k' : Int) + (q' : Int) - 1 > (n' : Int) := by omega
 have w1 : IntKind.i64.wrap ((k' : Int) + (q' : Int)) = (k' : Int) + (q' : Int) := IntWalk.i64_in _ (by omega)
 have w2 : IntKind.i64.wrap ((k' : Int) + (q' : Int) - 1) = (k' : Int) + (q' : Int) - 1 := IntWalk.i64_in _ (by omega)
 have hg3 : ((r' : Int) + 1) ∣ 255 := hgood.2.2.1
 have hG9 : G ≤ 255 := Nat.le_trans hlp.gt (Nat.div_le_self _ _)
 have hq99 : q' ≤ 255 := by omega
 have hn99 : n' ≤ 255 := by omega
 have hk99 : k' ≤ 255 := by omega
 have hgt := hlp.gt
 have hco := Pt.cosets_calls (some ⟨g, 0, none⟩) (r' : Int) (G : Int) (by omega) w hf
 have hcr : Pt.cosetsR (r' : Int) (G : Int) = (bs (cpts s G), 0) := by
  unfold Pt.cosetsR
  rw [if_pos ⟨by omega, by omega, Int.emod_eq_zero_of_dvd hg3, by omega, by
   have : (255 : Int) / ((r' : Int) + 1) = ((255 / (r' + 1) : Nat) : Int) := by simp
   rw [this]; omega⟩, Int.toNat_natCast, Int.toNat_natCast, hs, cpts_bs]
 rw [hcr] at hco
 have HCo := Lib.hid hco
 have HLp := Lib.hid hlp
 have HG := Lib.hid hgood
 have HS := Lib.hid hs
 have HF := Lib.hid hf
 have htl : (k' : Int) + (q' : Int) - 1 = ((q' * (r' + 1) - 1 : Nat) : Int) := by
  have h1 := hlp.ek
  have h2 : q' * (r' + 1) = q' * r' + q' := by rw [Nat.mul_succ]
  have h3 := hlp.q1
  omega
 have HTl := Lib.hid htl
 have HNl : Hid ((cpts s G).length = n') := Lib.hid (by rw [cpts_length, ← hs]; exact hlp.en.symm)
 have HNd : Hid ((cpts s G).Nodup) := Lib.hid (by rw [← hs]; exact cpts_nodup hlp.st hlp.gt)
 have HNm := Lib.hid hnums
 clear hf hg3 hgood hgt hco hcr htl hlp hnums he0 hen hst hkle hle h1
 go_enter Tryz.func25, Tryz.ntmps25
 go_wp2_with fail
 with_reducible refine HCo.out.mono ?_
 rintro e w2 ⟨v2, rfl, hO2, hF2, hP2⟩
 obtain ⟨A2, c2, rfl, hc2⟩ := Own.shape hO2
 rw [HNl.out] at hO2 hc2 ⊢
 have hP2' : Past w.heap.size g w w2 := hP2
 have hRn := Rd.new_calls g A2 (cpts s G) n' c2 ((k' : Int) + (q' : Int) - 1) w2 HNl.out (Own.bytes hO2) hc2 (by have := HNm.out; omega) hF2
 have HRn := Lib.hid hRn
 have HO2 := Lib.hid hO2
 have HF2 := Lib.hid hF2
 have HP2 := Lib.hid hP2'
 clear hRn hO2 hF2 hP2 hP2' HCo
 go_wp2_with fail
 with_reducible refine HRn.out.mono ?_
 rintro e w3 (⟨-, rb, A3, c3, q3, hq3, rfl, hrb, hA3, hcd, hb3⟩ | ⟨hno, -⟩)
 rotate_left
 ·exfalso
  have : newR (cpts s G) ((k' : Int) + (q' : Int) - 1) = 0 := if_pos ⟨HNd.out, by rw [HTl.out]; have := HNm.out; omega, by rw [HTl.out, HNl.out]; have := HNm.out; omega⟩
  rw [this] at hno
  cases hno
 have hq4 : q3 = q' * (r' + 1) - 1 := by have := HTl.out; omega
 rw [hq4] at hcd
 have hsz3 := hb3.size
 obtain ⟨w4, hw4⟩ : ∃ w4, w3.alloc (.cells #[.pointer (some ⟨g, 0, none⟩), .slice A2 n' c2, .pointer (some ⟨rb, 0, none⟩), .int .i64 k', .int .i64 r'] 120) = w4 := ⟨_, rfl⟩
 have hb4 : Below w3.heap.size w3 w4 := by rw [← hw4]; exact (Below.refl _ _).alloc (Nat.le_refl _) _
 have hbl4 : Block w4 w3.heap.size 120 #[.pointer (some ⟨g, 0, none⟩), .slice A2 n' c2, .pointer (some ⟨rb, 0, none⟩), .int .i64 k', .int .i64 r'] := by rw [← hw4]; exact Block.new w3 _ _
 have hg2 := HF2.out.fld.lt
 have hs2 := HP2.out.size
 have HX : Hid (NewIs w g (n' : Int) (k' : Int) (r' : Int) (.returned (.tuple #[.pointer (some ⟨w3.heap.size, 0, none⟩), .int .i64 0])) w4) := Lib.hid (.inl ⟨HG.out, ⟨w3.heap.size, rb, g, A2, c2, A3, c3, n', k', r', q', G⟩, by
  have hb24 : Below w2.heap.size w2 w4 := hb3.trans (hb4.mono hsz3)
  refine ⟨hbl4, (by show w3.heap.size ≠ g; omega), HLp.out, ?_, hc2, ?_⟩
  ·show BF g w4 A2 (cpts (r' + 1) G)
   rw [HS.out]
   exact (BF.own HF2.out HO2.out).below hb24
  ·show Cd w4 rb g A3 (cpts (r' + 1) G) n' c3 (q' * (r' + 1) - 1)
   have hc := hcd.below hb4
   rw [← HS.out] at hc
   exact hc, rfl, rfl, rfl, rfl, by show w.heap.size ≤ w3.heap.size; omega, rfl, HP2.out.trans (((Past.of_below hb3 g).trans ((Past.of_below hb4 g).mono hsz3)).mono hs2)⟩)
 clear hcd hb3 hbl4 hb4 hA3 hq3 hq4 HRn
 go_wp2
 go_ret2
 exact HX.out
set_option maxRecDepth 100000 in
set_option maxHeartbeats 4000000 in
theorem new_calls (g : Nat) (n k r : Int) (w : World) (hf : FldP w (some ⟨g, 0, none⟩)) (hn1 : -9223372036854775808 ≤ n) (hr2 : r < 9223372036854775808) :
  Calls Tryz.prog 25 #[.pointer (some ⟨g, 0, none⟩), .int .i64 n, .int .i64 k, .int .i64 r] w (NewIs w g n k r) := by
 have hbad : ¬ Good n k r → NewIs w g n k r (.returned (.tuple #[.pointer none, .int .i64 2])) w := fun hno => .inr ⟨hno, rfl, rfl⟩
 by_cases h1 : r < 1
 ·have HX := Lib.hid (hbad fun hg => by have := hg.1; omega)
  have d1 : decide (r < 1) = true := decide_eq_true h1
  clear hbad hf h1
  go_enter Tryz.func25, Tryz.ntmps25
  go_wp2
  go_ret2
  exact HX.out
 have d1 : decide (r < 1) = false := decide_eq_false h1
 by_cases h1b : r = 9223372036854775807
 ·have HX := Lib.hid (hbad fun hg => by have := hg.2.1; omega)
  clear hbad hf h1 d1
  subst h1b
  have h3 : wrap64 9223372036854775808 = -9223372036854775808 := by decide +kernel
  have h4 : (255 : Int) % (-9223372036854775808) = 255 := by decide
  have h5 : (255 : Int).tmod (-9223372036854775808) = 255 := by decide
  go_enter Tryz.func25, Tryz.ntmps25
  go_wp2
  go_ret2
  exact HX.out
 by_cases h2 : 254 < r
 ·have HX := Lib.hid (hbad fun hg => by have := hg.2.1; omega)
  have h3 := Pt.rem_big (x := r + 1) (.inl (by omega))
  have h4 : ¬ (r + 1 = 0) := by omega
  clear hbad hf
  go_enter Tryz.func25, Tryz.ntmps25
  go_wp2
  go_ret2
  exact HX.out
 obtain ⟨m, rfl⟩ : ∃ m : Nat, r = (m : Int) := ⟨r.toNat, by omega⟩
 obtain ⟨s, hs⟩ : ∃ s : Nat, m + 1 = s := ⟨_, rfl⟩
 have hs1 : (m : Int) + 1 = (s : Int) := by omega
 have hsn : ¬ ((s : Int) = 0) := by omega
 have hmod : (255 : Int).tmod (s : Int) = ((255 % s : Nat) : Int) := by rw [Int.tmod_eq_emod_of_nonneg (by decide)]; simp
 have hd3 : ((m : Int) + 1) ∣ 255 ↔ 255 % s = 0 := by
  rw [hs1, show (255 : Int) = ((255 : Nat) : Int) from rfl, Int.natCast_dvd_natCast]
  exact Nat.dvd_iff_mod_eq_zero
 have hmle : 255 % s ≤ 255 := Nat.mod_le _ _
 obtain ⟨q, hq⟩ : ∃ q, 255 % s = q := ⟨_, rfl⟩
 rw [hq] at hmod hmle hd3
 clear hq
 by_cases h3 : q = 0
 rotate_left
 ·have HX := Lib.hid (hbad fun hg => h3 (hd3.1 hg.2.2.1))
  have h6 : ¬ ((q : Int) = 0) := by omega
  clear hbad hf hd3
  go_enter Tryz.func25, Tryz.ntmps25
  go_wp2
  go_ret2
  exact HX.out
 subst h3
 have hg3 := hd3.2 rfl
 obtain ⟨z, hz⟩ : ∃ z, n.tmod (s : Int) = z := ⟨_, rfl⟩
 have hd4 : ((m : Int) + 1) ∣ n ↔ z = 0 := by rw [hs1, ← hz]; exact Int.dvd_iff_tmod_eq_zero
 have hza : z.natAbs < s := by
  rw [← hz, Int.natAbs_tmod]
  exact Nat.mod_lt _ (by simp; omega)
 have hzw : IntKind.i64.wrap z = z := IntWalk.i64_in _ (by omega)
 by_cases h4 : z = 0
 rotate_left
 ·have HX := Lib.hid (hbad fun hg => h4 (hd4.1 hg.2.2.2.1))
  clear hbad hf hd3 hd4 hza hg3
  go_enter Tryz.func25, Tryz.ntmps25
  go_wp2
  go_ret2
  exact HX.out
 subst h4
 have hg4 := hd4.2 rfl
 by_cases h5 : n > 255
 ·have HX := Lib.hid (hbad fun hg => by have := hg.2.2.2.2.1; omega)
  clear hbad hf hd3 hd4 hza hg3 hg4
  go_enter Tryz.func25, Tryz.ntmps25
  go_wp2
  go_ret2
  exact HX.out
 by_cases h6 : k < 1
 ·have HX := Lib.hid (hbad fun hg => by have := hg.2.2.2.2.2.1; omega)
  clear hbad hf hd3 hd4 hza hg3 hg4
  go_enter Tryz.func25, Tryz.ntmps25
  go_wp2
  go_ret2
  exact HX.out
 by_cases h7 : k > n
 ·have HX := Lib.hid (hbad fun hg => by
   obtain ⟨-, -, -, -, -, b1, b2, b3⟩ := hg
   have : 1 ≤ k / (m : Int) := Int.le_ediv_of_mul_le (by omega) (by have := Int.le_of_dvd (by omega) b2; omega)
   omega)
  clear hbad hf hd3 hd4 hza hg3 hg4
  go_enter Tryz.func25, Tryz.ntmps25
  go_wp2
  go_ret2
  exact HX.out
 obtain ⟨kk, rfl⟩ : ∃ m : Nat, k = (m : Int) := ⟨k.toNat, by omega⟩
 obtain ⟨nn, rfl⟩ : ∃ m : Nat, n = (m : Int) := ⟨n.toNat, by omega⟩
 have hm0 : ¬ ((m : Int) = 0) := by omega
 have hm00 : ¬ m = 0 := by omega
 have hs00 : ¬ s = 0 := by omega
 have hkm : (kk : Int).tmod (m : Int) = ((kk % m : Nat) : Int) := by rw [Int.tmod_eq_emod_of_nonneg (by omega)]; simp
 have hkd : (kk : Int).tdiv (m : Int) = ((kk / m : Nat) : Int) := by rw [Int.tdiv_eq_ediv_of_nonneg (by omega)]; simp
 have hkd2 : (kk : Int) / (m : Int) = ((kk / m : Nat) : Int) := by simp
 have hd7 : (m : Int) ∣ (kk : Int) ↔ kk % m = 0 := by rw [Int.natCast_dvd_natCast]; exact Nat.dvd_iff_mod_eq_zero
 have hkl : kk / m ≤ kk := Nat.div_le_self _ _
 have hkl2 : kk % m ≤ kk := Nat.mod_le _ _
 obtain ⟨km, hkm'⟩ : ∃ km, kk % m = km := ⟨_, rfl⟩
 obtain ⟨kd, hkd'⟩ : ∃ kd, kk / m = kd := ⟨_, rfl⟩
 rw [hkm'] at hkm hd7 hkl2
 rw [hkd'] at hkd hkl hkd2
 clear hkm' hkd'
 by_cases h8 : km = 0
 rotate_left
 ·have HX := Lib.hid (hbad fun hg => h8 (hd7.1 hg.2.2.2.2.2.2.1))
  have h9 : ¬ ((km : Int) = 0) := by omega
  clear hbad hf hd3 hd4 hza hg3 hg4 hd7 hkd2 hkd
  go_enter Tryz.func25, Tryz.ntmps25
  go_wp2
  go_ret2
  exact HX.out
 subst h8
 have hg7 := hd7.2 rfl
 have w1 : IntKind.i64.wrap ((kk : Int) + (kd : Int)) = (kk : Int) + (kd : Int) := IntWalk.i64_in _ (by omega)
 have w2 : IntKind.i64.wrap ((kk : Int) + (kd : Int) - 1) = (kk : Int) + (kd : Int) - 1 := IntWalk.i64_in _ (by omega)
 by_cases h9 : (kk : Int) + (kd : Int) - 1 > (nn : Int)
 ·have HX := Lib.hid (hbad fun hg => by have := hg.2.2.2.2.2.2.2; rw [hkd2] at this; omega)
  clear hbad hf hd3 hd4 hza hg3 hg4 hd7 hg7 hkd2
  go_enter Tryz.func25, Tryz.ntmps25
  go_wp2
  go_ret2
  exact HX.out
 have hgood : Good (nn : Int) (kk : Int) (m : Int) := ⟨by omega, by omega, hg3, hg4, by omega, by omega, hg7, by rw [hkd2]; omega⟩
 obtain ⟨n', k', r', q', G, en, ek, er, hlp, eq, eG⟩ := hgood.lp
 obtain rfl : n' = nn := by omega
 obtain rfl : k' = kk := by omega
 obtain rfl : r' = m := by omega
 have hnums := hlp.nums
 obtain rfl : q' = kd := by rw [hkd2] at eq; omega
 have hnG : (n' : Int).tdiv (s : Int) = (G : Int) := by rw [Int.tdiv_eq_ediv_of_nonneg (by omega), ← hs1]; exact eG
 exact new_good g n' k' r' q' G s hs w hf hlp hgood
end Go.Proofs.YtofihklinkpbiaaGreat.Lo

namespace Go.Proofs.YtofihklinkpbiaaGreat.Wl
open Go.RowKit Go.Shelf F8 Poly GF Rd
attribute [local go_sem] Oper.semAt_some
def KSomeR (w : World) (n most : Nat) (e : Ending) (w' : World) : Prop :=
 ∃ (l : List Int) (A : Option Addr) (c : Nat), OkP n l ∧ l.Pairwise (· < ·) ∧ l.length ≤ most ∧ e = .returned (.slice A l.length c) ∧ l.length ≤ c ∧ Own w' w.heap.size 3 (.slice A l.length c) (zs l) ∧ Below w.heap.size w w'
set_option maxRecDepth 100000 in
set_option maxHeartbeats 4000000 in
theorem somer_calls (x n most : Nat) (hn : n ≤ 300) (hm : most ≤ 300) (w : World) : Calls Tryz.prog 53 #[.int .u64 x, .int .i64 n, .int .i64 most] w (KSomeR w n most) := by
 go_enter Tryz.func53, Tryz.ntmps53
 go_wp2
 go_loopw [7, 8] (fun out i wr => ∃ (j : Nat) (l : List Int) (A : Option Addr) (c m : Nat), j ≤ 64 ∧ j ≤ n ∧ i = .int .i64 j ∧ out = .slice A m c ∧ Hid (l.length = m) ∧ m ≤ c ∧ m ≤ j ∧ m ≤ most ∧ Hid (OkP j l) ∧ Hid (l.Pairwise (· < ·)) ∧ Hid (Own wr w.heap.size 3 (.slice A m c) (zs l)) ∧ Below w.heap.size w wr) (fun _ i _ => n - (intOf i).toNat)
 case atStart => exact ⟨0, [], none, 0, 0, by omega, by omega, rfl, rfl, Lib.hid rfl, by omega, by omega, by omega, Lib.hid ⟨by simp, by simp⟩, Lib.hid List.Pairwise.nil, Lib.hid (Own.nil _ _ _), Below.refl _ _⟩
 case round =>
  obtain ⟨j, l, A, c, m, hj, hjn, rfl, rfl, HM, hmc, hmj, hmm, HK, HPw, HO, HW⟩ := hrel
  have hsz := HW.size
  have HD : Hid (OkP n l ∧ l.Pairwise (· < ·) ∧ l.length ≤ most ∧ l.length ≤ c) := Lib.hid ⟨⟨fun i hi => by have := HK.out.1 i hi; omega, HK.out.2⟩, HPw.out, by rw [HM.out]; exact hmm, by rw [HM.out]; exact hmc⟩
  by_cases h1 : j < n
  ·by_cases h2 : j < 64
   ·by_cases h3 : m < most
    ·cases hbit : (bits BinOp.and IntKind.u64 ((x : Int) / 2 ^ j) 1 == 1) with
     | true =>
      have HL : Hid ((zs l).length = m) := Lib.hid (by rw [zs_length, HM.out])
      have HT : Hid (zs l ++ zs [(j : Int)] = zs (l ++ [(j : Int)])) := Lib.hid (zs_append _ _).symm
      have HLL : Hid ((l ++ [(j : Int)]).length = m + 1) := Lib.hid (by rw [List.length_append, HM.out]; rfl)
      have HK2 : Hid (OkP (j + 1) (l ++ [(j : Int)])) := Lib.hid ⟨fun i hi => by
       rcases List.mem_append.1 hi with hi | hi
       ·have := HK.out.1 i hi; omega
       ·obtain rfl := List.mem_singleton.1 hi; omega, by
       rw [List.nodup_append]
       exact ⟨HK.out.2, by simp, fun a ha b hb e => by
        obtain rfl := List.mem_singleton.1 hb
        have := HK.out.1 a ha; omega⟩⟩
      have HPw2 : Hid ((l ++ [(j : Int)]).Pairwise (· < ·)) := Lib.hid (List.pairwise_append.2 ⟨HPw.out, by simp, fun a ha b hb => by
       obtain rfl := List.mem_singleton.1 hb
       exact (HK.out.1 a ha).2⟩)
      go_wp2_with (at_builtin; refine wpList_app _ rfl _ _ _ rfl w.heap.size 3 _ 8 Tryz.underlying38 info_i rfl (by omega) _ _ rfl (HO.out.alloc _) (some ⟨wr.heap.size, 0, none⟩) 1 1 (zs [(j : Int)]) rfl rfl (Row.new _ _ _ _) (zs_one _) (by rw [HL.out]; omega) (by simp; omega) ?_; rintro v2 w3 hown hg3 -)
      have hB2 := (HW.alloc hsz _).trans ((HO.out.alloc _).grew (by simp; omega) hg3)
      rw [HT.out] at hown
      obtain ⟨A3, c3, rfl, hr3, -⟩ := hown.form
      have hc3 := own_cap2 hown (by rw [zs_length])
      rw [zs_length, HLL.out] at hown hc3 ⊢
      have HO3 := Lib.hid hown
      clear hown hg3
      go_roundw
      case rel => exact ⟨j + 1, _, A3, c3, m + 1, by omega, by omega, by go_num, rfl, HLL, hc3, by omega, by omega, HK2, HPw2, HO3, hB2⟩
      case measure => simp [intOf]; omega
     | false =>
      have HK2 : Hid (OkP (j + 1) l) := Lib.hid ⟨fun i hi => by have := HK.out.1 i hi; omega, HK.out.2⟩
      go_wp2
      go_roundw
      case rel => exact ⟨j + 1, l, A, c, m, by omega, by omega, by go_num, rfl, HM, hmc, by omega, hmm, HK2, HPw, HO, HW⟩
      case measure => simp [intOf]; omega
    ·go_wp2
     go_ret
     exact ⟨l, A, c, HD.out.1, HD.out.2.1, HD.out.2.2.1, by rw [HM.out]; rfl, HD.out.2.2.2, by rw [HM.out]; exact HO.out, HW⟩
   ·go_wp2
    go_ret
    exact ⟨l, A, c, HD.out.1, HD.out.2.1, HD.out.2.2.1, by rw [HM.out]; rfl, HD.out.2.2.2, by rw [HM.out]; exact HO.out, HW⟩
  ·go_wp2
   go_ret
   exact ⟨l, A, c, HD.out.1, HD.out.2.1, HD.out.2.2.1, by rw [HM.out]; rfl, HD.out.2.2.2, by rw [HM.out]; exact HO.out, HW⟩
end Go.Proofs.YtofihklinkpbiaaGreat.Wl

namespace Go.Proofs.YtofihklinkpbiaaGreat.Wl
open Go.RowKit Go.Shelf F8 Poly GF Rd
attribute [local go_sem] Oper.semAt_some
set_option maxHeartbeats 1000000 in
theorem samez_calls (A B : Option Addr) (p q : List Int) (m n c d : Nat) (w : World) (hm : p.length = m) (hn : q.length = n) (hml : m ≤ 1000000) (hb : Row w A (zs p)) (hb2 : Row w B (zs q)) (b : Bool) (hbq : decide (p = q) = b) :
  Calls Tryz.prog 22 #[.slice A m c, .slice B n d] w fun e w' => e = .returned (.bool b) ∧ Below w.heap.size w w' := by
 by_cases hmn : m = n
 ·subst hmn
  go_enter Tryz.func22, Tryz.ntmps22
  go_wp2
  go_loopw [5] (fun i wr => ∃ k : Nat, k ≤ m ∧ i = .int .i64 k ∧ Below w.heap.size w wr ∧ p.take k = q.take k) (fun i _ => m - (intOf i).toNat)
  case atStart => exact ⟨0, Nat.zero_le _, rfl, Below.refl _ _, rfl⟩
  case round =>
   obtain ⟨k, hk, rfl, hB, ht⟩ := hrel
   by_cases hkm : k < m
   ·obtain ⟨b1, o1, rfl, h1⟩ := zs_at (hb.below hB) (k := k) (by omega)
    obtain ⟨b2, o2, rfl, h2⟩ := zs_at (hb2.below hB) (k := k) (by omega)
    have e1 := take_succ' p (k := k) (by omega)
    have e2 := take_succ' q (k := k) (by omega)
    obtain ⟨x, hx⟩ : ∃ x, p[k] = x := ⟨_, rfl⟩
    obtain ⟨y, hy⟩ : ∃ y, q[k] = y := ⟨_, rfl⟩
    rw [hx] at h1 e1
    rw [hy] at h2 e2
    clear hx hy
    by_cases hxy : x = y
    ·subst hxy
     have HT : Hid (p.take (k + 1) = q.take (k + 1)) := Lib.hid (by rw [e1, e2, ht])
     clear e1 e2 ht
     go_wp2
     go_region
     go_wp2
     go_roundw
     case rel => exact ⟨k + 1, by omega, by go_num, hB.drew, HT.out⟩
     case measure => simp [intOf]; omega
    ·have hne : b = false := by
      rw [← hbq, decide_eq_false_iff_not]
      rintro rfl
      rw [e1] at e2
      exact hxy (by simpa using e2)
     have hxy2 : (x == y) = false := by simpa using hxy
     subst hne
     clear e1 e2 ht
     go_wp2
     go_region
     go_wp2
     go_ret
     exact ⟨rfl, hB.drew⟩
   ·obtain rfl : k = m := by omega
    have hpq : b = true := by
     rw [← hbq, decide_eq_true_iff]
     rw [List.take_of_length_le (by omega), List.take_of_length_le (by omega)] at ht
     exact ht
    subst hpq
    go_wp2
    go_ret
    exact ⟨rfl, hB⟩
 ·have hne : b = false := by
   rw [← hbq, decide_eq_false_iff_not]
   rintro rfl
   omega
  subst hne
  have hmn2 : ¬ ((m : Int) = (n : Int)) := by omega
  go_enter Tryz.func22, Tryz.ntmps22
  go_wp2
  go_ret
  exact ⟨rfl, Below.refl _ _⟩
end Go.Proofs.YtofihklinkpbiaaGreat.Wl

namespace Go.Proofs.YtofihklinkpbiaaGreat.Lo
open Go.RowKit Go.Shelf F8 Poly GF Rd Ms
attribute [local go_sem] Oper.semAt_some
structure Lw (S : Lc) (w : World) (V : World) : Prop where
 ok : S.Ok V
 bel : Below w.heap.size w V
 gw : w.heap.size ≤ S.g
section
variable {S : Lc} {w V V' : World}
theorem Lw.go (h : Lw S w V) (hf : FldP V' (some ⟨S.g, 0, none⟩)) (hp : Past V.heap.size S.g V V') : Lw S w V' := ⟨h.ok.past hf hp, h.bel.trans ((hp.mono h.bel.size).below h.gw), h.gw⟩
theorem Lw.below (h : Lw S w V) (hb : Below V.heap.size V V') : Lw S w V' := h.go (h.ok.fld.below hb) (Past.of_below hb _)
theorem Lw.alloc (h : Lw S w V) (o : Obj) : Lw S w (V.alloc o) := h.below ((Below.refl _ _).alloc (Nat.le_refl _) o)
end
structure Lz (S : Lc) (w : World) (n k r : Int) (V : World) : Prop where
 lw : Lw S w V
 en : (S.n : Int) = n
 ek : (S.k : Int) = k
 er : (S.r : Int) = r
theorem made (n k r : Int) (w w1 : World) (hw1 : w1 = w.alloc (.cells (fcells 0 0 0) 98)) (hn1 : -9223372036854775808 ≤ n) (hr2 : r < 9223372036854775808) :
  Calls Tryz.prog 25 #[.pointer (some ⟨w.heap.size, 0, none⟩), .int .i64 n, .int .i64 k, .int .i64 r] w1 fun e w' =>
   (Good n k r ∧ ∃ S : Lc, Lz S w n k r w' ∧ S.g = w.heap.size ∧ e = .returned (.tuple #[.pointer (some ⟨S.b, 0, none⟩), .int .i64 0])) ∨ (¬ Good n k r ∧ e = .returned (.tuple #[.pointer none, .int .i64 2]) ∧ Below w.heap.size w w') := by
 have hF1 : FldP w1 (some ⟨w.heap.size, 0, none⟩) := FldP.of (by rw [hw1]; exact Fld.new w)
 have hB1 : Below w.heap.size w w1 := by rw [hw1]; exact (Below.refl _ _).alloc (Nat.le_refl _) _
 refine (new_calls w.heap.size n k r w1 hF1 hn1 hr2).mono ?_
 rintro e w2 (⟨hg, S, hok, hSg, hSn, hSk, hSr, -, rfl, hp2⟩ | ⟨hno, rfl, rfl⟩)
 ·exact .inl ⟨hg, S, ⟨⟨hok, hB1.trans (Past.below (hp2.mono hB1.size) (Nat.le_refl _)), by omega⟩, hSn, hSk, hSr⟩, hSg, rfl⟩
 ·exact .inr ⟨hno, rfl, hB1⟩
theorem info_sy : (Tryz.prog.info? 49).map (fun i => (i.zero, i.size, i.bytes)) = some (some (.agg #[.int .i64 0, .slice none 0 0]), 2, 32) := by kernel_rfl
def fb (x : Nat) (h : x < 256 := by decide) : F8 := ⟨x, h⟩
def FvG (ps : List Int) (w : World) (e : Ending) (w' : World) : Prop :=
 ∃ A c E, e = .returned (.slice A ps.length c) ∧ ps.length ≤ c ∧ OwnK 2 w' w.heap.size 49 (.slice A ps.length c) ps.length (cells2 E) ∧ LstO w' w.heap.size E ∧ E.map El.p = ps ∧ (∀ e ∈ E, e.s = [fb 5]) ∧ Below w.heap.size w w'
set_option maxRecDepth 100000 in
set_option maxHeartbeats 2000000 in
theorem fives_calls (A : Option Addr) (ps : List Int) (n c : Nat) (w : World) (hn : ps.length = n) (hn9 : n ≤ 100) (hr : Row w A (zs ps)) :
  Calls Tryz.prog 64 #[.slice A n c] w (FvG ps w) := by
 have HR := Lib.hid hr
 have HN := Lib.hid hn
 clear hr hn
 go_enter Tryz.func64, Tryz.ntmps64
 go_wp2
 go_loopw [3, 4] (fun hv iv wr => ∃ (i : Nat) (E : List El), i ≤ n ∧ iv = .int .i64 i ∧ Hid (OwnK 2 wr w.heap.size 49 hv i (cells2 E)) ∧ Hid (LstO wr w.heap.size E) ∧ Hid (E.map El.p = ps.take i) ∧ Hid (∀ e ∈ E, e.s = [fb 5]) ∧ Hid (Below w.heap.size w wr)) (fun _ iv _ => n - (intOf iv).toNat)
 case atStart => exact ⟨0, [], by omega, rfl, Lib.hid (OwnK.nil _ _ _ _), Lib.hid (LstO.nil _ _), Lib.hid (by simp), Lib.hid (by simp), Lib.hid (Below.refl _ _)⟩
 case round =>
  obtain ⟨i, E, hi, rfl, HO, HL, HP, HF, HW⟩ := hrel
  by_cases hin : i < n
  ·have hip : i < ps.length := by rw [HN.out]; exact hin
   obtain ⟨b, off, rfl, hc⟩ := zs_at (HR.out.below HW.out) hip
   have HTk : Hid (ps.take (i + 1) = ps.take i ++ [ps[i]]) := Lib.hid (take_succ' ps hip)
   obtain ⟨x, hx⟩ : ∃ x, ps[i] = x := ⟨_, rfl⟩
   rw [hx] at hc HTk
   obtain ⟨wa, hwa⟩ : ∃ wa, wr.alloc (.cells #[.int .u8 5] 5) = wa := ⟨_, rfl⟩
   obtain ⟨wb, hwb⟩ : ∃ wb, wa.alloc (.cells #[.int .i64 x, .slice (some ⟨wr.heap.size, 0, none⟩) 1 1] 49) = wb := ⟨_, rfl⟩
   have hza : wa.heap.size = wr.heap.size + 1 := by rw [← hwa, World.size_alloc]
   have hba : Below wr.heap.size wr wa := by rw [← hwa]; exact (Below.refl _ _).alloc (Nat.le_refl _) _
   have hbb : Below wa.heap.size wa wb := by rw [← hwb]; exact (Below.refl _ _).alloc (Nat.le_refl _) _
   have hab : Below wr.heap.size wr wb := hba.trans (hbb.mono hba.size)
   have hsz := HW.out.size
   have hzb := hab.size
   have hrow : Row wb (some ⟨wr.heap.size + 1, 0, none⟩) (cells2 [⟨x, some ⟨wr.heap.size, 0, none⟩, [fb 5], 1⟩]) := by
    rw [← hza, ← hwb]
    exact Row.new wa #[.int .i64 x, .slice (some ⟨wr.heap.size, 0, none⟩) 1 1] 49 (0, 0)
   have hown1 : Own wa w.heap.size 5 (.slice (some ⟨wr.heap.size, 0, none⟩) 1 1) (bv (bs [fb 5])) := by
    rw [← hwa]
    exact Own.of_block (Block.new wr 5 #[.int .u8 5]) (by omega) rfl (by decide)
   have HE2 : Hid (LstO wb w.heap.size (E ++ [⟨x, some ⟨wr.heap.size, 0, none⟩, [fb 5], 1⟩])) := Lib.hid ((HL.out.below hab).append (LstO.one (hown1.below hbb)))
   have HOw := Lib.hid (HO.out.below hab)
   have HRow := Lib.hid hrow
   have HB2 := Lib.hid (HW.out.trans (hab.mono hsz))
   have hz9 : w.heap.size ≤ wb.heap.size := by omega
   have HP2 : Hid ((E ++ [(⟨x, some ⟨wr.heap.size, 0, none⟩, [fb 5], 1⟩ : El)]).map El.p = ps.take (i + 1)) := Lib.hid (by rw [List.map_append, HP.out, HTk.out]; rfl)
   have HF2 : Hid (∀ e ∈ E ++ [(⟨x, some ⟨wr.heap.size, 0, none⟩, [fb 5], 1⟩ : El)], e.s = [fb 5]) := Lib.hid fun e he => by
    rcases List.mem_append.1 he with he | he
    ·exact HF.out e he
    ·rw [List.mem_singleton.1 he]
   clear hrow hown1 hab hba hbb hx HO HL HP HF
   go_wp2_with (at_builtin; refine wpList_appK _ rfl 2 _ _ _ rfl w.heap.size 49 _ 32 Tryz.underlying37 info_sy rfl (by omega) (by omega) _ i (cells2 E) rfl HOw.out ⟨wr.heap.size + 1, 0, none⟩ 1 1 (cells2 [⟨x, some ⟨wr.heap.size, 0, none⟩, [fb 5], 1⟩]) rfl rfl HRow.out (cells2_one _) (by omega) hz9 ?_; rintro v7 w7 hown hg7 -)
   rw [← cells2_append] at hown
   have HO7 := Lib.hid hown
   have HL7 := Lib.hid (HE2.out.grown HOw.out (by decide) hg7)
   have HB7 := Lib.hid (HB2.out.trans (HOw.out.grew hz9 hg7))
   clear hown hg7
   go_roundw
   case rel => exact ⟨i + 1, _, by omega, by go_num, HO7, HL7, HP2, HF2, HB7⟩
   case measure => simp [intOf]; omega
  ·obtain rfl : i = n := by omega
   obtain ⟨A9, c9, rfl, hc9, -⟩ := HO.out.shape
   have ht : ps.take i = ps := List.take_of_length_le (by rw [HN.out]; exact Nat.le_refl _)
   rw [ht] at HP
   have HX : Hid (FvG ps w (.returned (.slice A9 i c9)) wr) := Lib.hid ⟨A9, c9, E, by rw [HN.out], by rw [HN.out]; exact hc9, by rw [HN.out]; exact HO.out, HL.out, HP.out, HF.out, HW.out⟩
   clear ht HO HL HP HF
   go_wp2
   go_ret
   exact HX.out
theorem six : ∀ {E : List El}, E.map El.p = [0, 1, 2, 3, 4, 5] → (∀ e ∈ E, e.s = [fb 5]) → ∃ A0 c0 A1 c1 A2 c2 A3 c3 A4 c4 A5 c5, E = [⟨0, A0, [fb 5], c0⟩, ⟨1, A1, [fb 5], c1⟩, ⟨2, A2, [fb 5], c2⟩, ⟨3, A3, [fb 5], c3⟩, ⟨4, A4, [fb 5], c4⟩, ⟨5, A5, [fb 5], c5⟩]
 | [⟨p0, A0, s0, c0⟩, ⟨p1, A1, s1, c1⟩, ⟨p2, A2, s2, c2⟩, ⟨p3, A3, s3, c3⟩, ⟨p4, A4, s4, c4⟩, ⟨p5, A5, s5, c5⟩], h, hs => by
  simp only [List.map_cons, List.map_nil, List.cons.injEq, and_true] at h
  obtain ⟨rfl, rfl, rfl, rfl, rfl, rfl⟩ := h
  simp only [List.mem_cons, List.not_mem_nil, or_false, forall_eq_or_imp, forall_eq] at hs
  obtain ⟨rfl, rfl, rfl, rfl, rfl, rfl⟩ := hs
  exact ⟨A0, c0, A1, c1, A2, c2, A3, c3, A4, c4, A5, c5, rfl⟩
 | [], h, _ => by simp at h
 | [_], h, _ => by simp at h
 | [_, _], h, _ => by simp at h
 | [_, _, _], h, _ => by simp at h
 | [_, _, _, _], h, _ => by simp at h
 | [_, _, _, _, _], h, _ => by simp at h
 | _ :: _ :: _ :: _ :: _ :: _ :: _ :: _, h, _ => by simp at h
theorem els_cut {g : Nat} {w : World} {b o : Nat} {l : List El} (h : Els g w (some ⟨b, o, none⟩) l) (i n : Nat) : Els g w (some ⟨b, o + i * 2, none⟩) ((l.drop i).take n) := by
 refine ⟨fun k u hu => ?_, h.lst.sub fun e he => List.mem_of_mem_drop (List.mem_of_mem_take he)⟩
 by_cases hi : i ≤ l.length
 ·have e1 : cells2 l = cells2 (l.take i) ++ (cells2 ((l.drop i).take n) ++ cells2 ((l.drop i).drop n)) := by
   rw [← cells2_append, ← cells2_append, List.take_append_drop, List.take_append_drop]
  have hk : k < (cells2 ((l.drop i).take n)).length := (List.getElem?_eq_some_iff.1 hu).1
  have e2 : (cells2 l)[i * 2 + k]? = some u := by
   rw [e1, List.getElem?_append_right (by rw [cells2_length, List.length_take]; omega), cells2_length, List.length_take, Nat.min_eq_left hi, Nat.add_sub_cancel_left, List.getElem?_append_left hk]
   exact hu
  obtain ⟨b', o', e, hc⟩ := h.row _ u e2
  cases e
  exact ⟨b, o + i * 2, rfl, by rw [Nat.add_assoc]; exact hc⟩
 ·rw [List.drop_of_length_le (by omega)] at hu
  simp [cells2] at hu
theorem ex_e : encZ (cpts 3 2) 1 2 [fb 5, 0] = ([fb 5, fb 5, fb 5, fb 5, fb 5, fb 5], 0) := by decide +kernel
theorem ex_n : NIs (cpts 3 2) 2 0 [((1 : Int), [fb 5]), (2, [fb 5])] (fb 5) 0 :=
 .inr (.inr ⟨by decide +kernel, by decide, rfl, [fb 5], by decide, by decide +kernel, by decide +kernel⟩)
theorem ex_f : NIs (cpts 3 2) 2 0 [((1 : Int), [fb 5]), (4, [fb 5])] 0 70 :=
 .inr (.inl ⟨by decide +kernel, ⟨2, by decide, by decide⟩, rfl, rfl⟩)
theorem ex_d : LIs (cpts 3 2) 1 2 [((3 : Int), [fb 5]), (5, [fb 5])] 0 [fb 5, 0] [] 0 :=
 .inr (.inr (.inl ⟨by decide +kernel, by decide, rfl, rfl, by decide +kernel, by decide +kernel⟩))
end Go.Proofs.YtofihklinkpbiaaGreat.Lo
