/- Of the program, joined: TrRefE, ElLite, ElOwn, Open. -/
import Derived.Test.YtjoghbmedfmioabGreatPt13
import Derived.Test.YtjoghbmedfmioabGreatPt10
import Derived.Test.YtjoghbmedfmioabGreatPt08
import Derived.Test.YtjoghbmedfmioabGreatPt04
import Derived.Deep.RegionHeld
import Derived.Test.YtjoghbmedfmioabGreatPt09
import Derived.Test.YtjoghbmedfmioabGreatPt02
import Derived.OpenShut
namespace Go.Proofs.YtjoghbmedfmioabGreat.Tr
open Go.RowKit Go.Shelf F8 Poly GF Rd Ms
attribute [local go_sem] Oper.semAt_some
def itJ (n i : Nat) (s : List F8) (j : Nat) : List (Nat × F8) := ((List.range j).filter fun x => decide (x ≠ i)).map fun x => (plc n i x, coef s (idx i x))
theorem itJ_skip (n i : Nat) (s : List F8) : itJ n i s (i + 1) = itJ n i s i := by
 unfold itJ
 rw [List.range_succ, List.filter_append, List.filter_cons_of_neg (by simp)]
 simp
theorem itJ_succ {n i j : Nat} (s : List F8) (h : j ≠ i) : itJ n i s (j + 1) = itJ n i s j ++ [(plc n i j, coef s (idx i j))] := by
 unfold itJ
 rw [List.range_succ, List.filter_append, List.filter_cons_of_pos (by simpa using h), List.map_append]
 rfl
theorem itJ_full {n i : Nat} {s : List F8} (hi : i < n) (hs : s.length = n - 1) : itJ n i s n = (plcs n i).zip s := by
 show (oth n i).map _ = _
 refine List.ext_getElem (by rw [List.length_map, List.length_zip, plcs_length hi, oth_length hi, hs]; omega) fun q h1 h2 => ?_
 rw [List.length_map, oth_length hi] at h1
 have hq : ∃ j, j < n ∧ j ≠ i ∧ idx i j = q := by
  by_cases e : q < i
  ·exact ⟨q, by omega, by omega, by unfold idx; rw [if_neg (by omega)]⟩
  ·exact ⟨q + 1, by omega, by omega, by unfold idx; rw [if_pos (by omega)]; omega⟩
 obtain ⟨j, hj, hji, rfl⟩ := hq
 obtain ⟨h4, h5⟩ := List.getElem?_eq_some_iff.1 (oth_idx hi hj hji)
 rw [List.getElem_map, List.getElem_zip, h5]
 unfold plcs
 rw [List.getElem_map, h5, coef_of_lt (by omega)]
theorem itJ_sub {n i j : Nat} {s : List F8} (hj : j ≤ n) : ∀ z ∈ itJ n i s j, z ∈ itJ n i s n := fun z hz => by
 unfold itJ at hz ⊢
 obtain ⟨x, hx, rfl⟩ := List.mem_map.1 hz
 obtain ⟨h1, h2⟩ := List.mem_filter.1 hx
 exact List.mem_map.2 ⟨x, List.mem_filter.2 ⟨List.mem_range.2 (by have := List.mem_range.1 h1; omega), h2⟩, rfl⟩
theorem rows_shok {n s : Nat} {l : List El} : Lo.RowsOk (n : Int) (-1) (s : Int) l ↔ ShOk n s (shE l) := by
 unfold Lo.RowsOk ShOk shE
 rw [List.map_map]
 constructor
 ·rintro ⟨h1, h2⟩
  refine ⟨fun o ho => ?_, h2⟩
  obtain ⟨e, he, rfl⟩ := List.mem_map.1 ho
  have h3 := h1 e he
  exact ⟨⟨h3.1, h3.2.1⟩, by have := h3.2.2.2; show e.s.length = s; omega⟩
 ·rintro ⟨h1, h2⟩
  refine ⟨fun e he => ?_, h2⟩
  have h3 := h1 (e.p, e.s) (List.mem_map.2 ⟨e, he, rfl⟩)
  have h4 : 0 ≤ e.p := h3.1.1
  have h5 : e.s.length = s := h3.2
  exact ⟨h4, h3.1.2, by omega, by omega⟩
structure DS (w : World) (n k : Nat) (l : List El) (L : List (Nat × F8)) (pv yv : Value) (V : World) : Prop where
 o1 : Own V (w.heap.size + 1) 3 pv (zs (plI (seen L)))
 o2 : Own V (w.heap.size + 1) 5 yv (bv (bs (ysD (seen L))))
 bel : Below w.heap.size w V
 c2 : C2 w.heap.size (n : Int) (k : Int) V
 sub : ∀ z ∈ L, z ∈ items n (nat (shE l))
section
variable {w V V' : World} {n k : Nat} {l : List El} {L : List (Nat × F8)} {pv yv : Value}
theorem DS.below (h : DS w n k l L pv yv V) (hb : Below V.heap.size V V') : DS w n k l L pv yv V' := ⟨h.o1.below hb, h.o2.below hb, h.bel.trans (hb.mono h.bel.size), C2.below h.c2 hb, h.sub⟩
theorem DS.lt (h : DS w n k l L pv yv V) : w.heap.size < V.heap.size := cell_lt h.c2.1
end
theorem dec_lost {n k : Nat} {sh : List (Int × List F8)} {lm : List F8} {z : Int} (hn : n < 24) (hA : ShOk n (n - 1) sh) (hk : k ≤ sh.length) (hz : z ≠ 0) (h : DecIs (pts (rs n n)) (rs n k) (plI (seen (items n (nat sh)))) (ysD (seen (items n (nat sh)))) lm z) : TIs n k (pts (rs n n)) sh [] 80 := by
 have h9 := (edges_n n hn).2
 refine .inr (.inr (.inr ⟨hA, hk, rfl, rfl, fun m' hm' => hz ?_⟩))
 obtain ⟨h1, h2⟩ := nat_ok hA
 have e1 := ((tells_word (pts_length _) h1 hm'.1).1 hm').2
 have hpl := plI_ok (n := n) (N := rs n n) rfl h1
 have h3 := seen_items (nat sh) h1 h2
 rw [nat_length] at h3
 have h4 := rs_mono n hk
 have hlen : (plI (seen (items n (nat sh)))).length = (seen (items n (nat sh))).length := by simp [plI]
 exact (h.only (pts_nodup h9) (.inr (.inr (.inl ⟨⟨by simp [plI, ysD], by rw [pts_length]; exact hpl⟩, by rw [hlen]; omega, rfl, hm'.1, e1⟩)))).2
theorem dec_good {n k : Nat} {sh : List (Int × List F8)} {lm : List F8} (hn : n < 24) (hA : ShOk n (n - 1) sh) (hk : k ≤ sh.length) (h : DecIs (pts (rs n n)) (rs n k) (plI (seen (items n (nat sh)))) (ysD (seen (items n (nat sh)))) lm 0) :
  lm.length = rs n k ∧ ((∀ o ∈ sh, o.2 = shr n (word lm (pts (rs n n))) o.1.toNat) → TIs n k (pts (rs n n)) sh lm 0) ∧ (¬ (∀ o ∈ sh, o.2 = shr n (word lm (pts (rs n n))) o.1.toNat) → TIs n k (pts (rs n n)) sh [] 80) := by
 have h9 := (edges_n n hn).2
 have hl : lm.length = rs n k ∧ word lm (ptsAt (pts (rs n n)) (plI (seen (items n (nat sh))))) = ysD (seen (items n (nat sh))) := by
  rcases h with ⟨_, _, h⟩ | ⟨_, _, _, h⟩ | ⟨_, _, _, h1, h2⟩ | ⟨_, _, h, _⟩
  ·cases h
  ·cases h
  ·exact ⟨h1, h2⟩
  ·cases h
 refine ⟨hl.1, fun hs => .inr (.inr (.inl ⟨hA, hk, rfl, hl.1, fun o ho => ?_⟩)), fun hno => .inr (.inr (.inr ⟨hA, hk, rfl, rfl, fun m' hm' => hno fun o ho => ?_⟩))⟩
 ·obtain ⟨u, hu, rfl⟩ := List.mem_map.1 ho
  exact hs u hu
 ·obtain ⟨h1, h2⟩ := nat_ok hA
  have e1 := ((tells_word (pts_length _) h1 hm'.1).1 hm').2
  have hpl := plI_ok (n := n) (N := rs n n) rfl h1
  have h3 := seen_items (nat sh) h1 h2
  rw [nat_length] at h3
  have h4 := rs_mono n hk
  have hm : m' = lm := msg_only hm'.1 hl.1 (by rw [ptsAt_length]; simp [plI]; omega) (ptsAt_nodup (pts_nodup h9) (by rw [pts_length]; exact hpl)) (e1.trans hl.2.symm)
  rw [← hm]
  exact hm'.2 (o.1.toNat, o.2) (List.mem_map.2 ⟨o, ho, rfl⟩)
theorem ownK1 {w : World} {B n : Nat} {e : TypeId} {v : Value} {xs : List Value} (h : Own w B e v xs) (hn : xs.length = n) : OwnK 1 w B e v n xs := by subst hn; exact h
attribute [-go_sem] Builtin.append_
set_option maxRecDepth 100000 in
set_option maxHeartbeats 16000000 in
theorem refDec_calls {n k : Nat} (hn : n < 24) (hk : k < n) (g : Nat) (A : Option Addr) (l : List El) (m c : Nat) (hl : l.length = m) (hm9 : m ≤ 1000) (w : World) (hE : Els g w A l) (hf : FldP w (some ⟨g, 0, none⟩)) :
  Calls Tryz.prog 14 #[.agg #[.int .i64 (n : Nat), .int .i64 (k : Nat)], .slice A m c] w fun e w' => ∃ ms z, TIs n k (pts (rs n n)) (shE l) ms z ∧ RepR w ms z e w' := by
 have h0 : 0 < n := by omega
 obtain ⟨w1, hw1⟩ : ∃ w1, w.alloc (.cells #[.int .i64 (n : Int), .int .i64 (k : Int)] 33) = w1 := ⟨_, rfl⟩
 have hba : Below w.heap.size w w1 := by rw [← hw1]; exact (Below.refl _ _).alloc (Nat.le_refl _) _
 have hc : C2 w.heap.size (n : Int) (k : Int) w1 := by rw [← hw1]; exact C2.new w (n : Int) (k : Int)
 obtain ⟨u, hu⟩ : ∃ u, n - 1 = u := ⟨_, rfl⟩
 have hAl := fun W => refAlpha_calls (k : Int) hn h0 W
 rw [hu] at hAl
 have HAl := Lib.hid hAl
 have HRo : Hid (∀ V, Below w.heap.size w V → Calls Tryz.prog 33 #[.int .i64 (n : Nat), .slice A m c, .int .i64 (-1), .int .i64 (u : Nat)] V fun e w' => e = .returned (.bool (decide (Lo.RowsOk (n : Int) (-1) (u : Int) l))) ∧ Below V.heap.size V w') := Lib.hid fun V hV => Lo.refRows_calls (n : Int) (-1) (u : Int) A l m c V hl (by omega) (hE.row.below hV)
 have HC := Lib.hid (C2.below hc (Below.refl _ _).drew)
 have HW := Lib.hid hba.drew
 have HE := Lib.hid hE
 have HL := Lib.hid hl
 have HU := Lib.hid hu
 have HF := Lib.hid hf
 obtain ⟨bb, hbb⟩ : ∃ bb, decide (Lo.RowsOk (n : Int) (-1) (u : Int) l) = bb := ⟨_, rfl⟩
 rw [hbb] at HRo
 obtain ⟨c0, c1⟩ := hc
 have hn9 : n ≤ 23 := by omega
 clear hba hAl hE hl hu hf
 go_enter Tryz.func14, Tryz.ntmps14
 go_wp2_with fail
 go_region_held (fun V => V.cell? ⟨w.heap.size, 0, none⟩ = some (.int .i64 (n : Int)) ∧ V.cell? ⟨w.heap.size, 1, none⟩ = some (.int .i64 (k : Int))) (with_reducible exact HC.out)
  ((first
   | (go_at_call 36; (with_reducible refine (HAl.out _).mono ?_); rintro e9 w9 ⟨rfl, hb9⟩; replace HC := Lib.hid (C2.below HC.out hb9); replace HW := Lib.hid (HW.out.trans (hb9.mono HW.out.size)); clear hb9)
   | (go_at_call 33; (with_reducible refine (HRo.out _ HW.out).mono ?_); rintro e9 w9 ⟨rfl, hb9⟩; replace HC := Lib.hid (C2.below HC.out hb9); replace HW := Lib.hid (HW.out.trans (hb9.mono HW.out.size)); clear hb9)))
 cases bb
 ·have hno : ¬ ShOk n (n - 1) (shE l) := fun hA => of_decide_eq_false hbb (by rw [HU.out] at hA; exact rows_shok.2 hA)
  have HX : Hid (∃ ms z, TIs n k (pts (rs n n)) (shE l) ms z ∧ RepR w ms z (.returned (.tuple #[.slice none 0 0, .int .i64 2])) w9) := Lib.hid ⟨[], 2, .inl ⟨hno, rfl, rfl⟩, none, 0, rfl, Nat.le_refl _, Own.nil _ _ _, HW.out⟩
  clear hno hbb
  go_wp2
  go_ret2
  exact HX.out
 have hA : ShOk n (n - 1) (shE l) := by rw [HU.out]; exact rows_shok.1 (of_decide_eq_true hbb)
 have HA := Lib.hid hA
 obtain ⟨c0, c1⟩ := HC.out
 by_cases hmk : m < k
 ·have HX : Hid (∃ ms z, TIs n k (pts (rs n n)) (shE l) ms z ∧ RepR w ms z (.returned (.tuple #[.slice none 0 0, .int .i64 70])) w9) := Lib.hid ⟨[], 70, .inr (.inl ⟨hA, by rw [shE_length, HL.out]; exact hmk, rfl, rfl⟩), none, 0, rfl, Nat.le_refl _, Own.nil _ _ _, HW.out⟩
  have hd : (m : Int) < (k : Int) := by omega
  clear hA hbb
  go_wp2
  go_ret2
  exact HX.out
 have hd : ¬ ((m : Int) < (k : Int)) := by omega
 obtain ⟨w2, hw2⟩ : ∃ w2, w9 = w2 := ⟨_, rfl⟩
 rw [hw2] at HC HW c0 c1 ⊢
 have HD0 : Hid (DS w n k l (items n (nat (shE (l.take 0)))) (.slice none 0 0) (.slice none 0 0) w2) := Lib.hid ⟨by simpa [items, nat, shE, seen, plI, zs] using Own.nil _ _ _, by simpa [items, nat, shE, seen, ysD, bs, bv] using Own.nil _ _ _, HW.out, HC.out, fun z hz => by simp [items, nat, shE] at hz⟩
 clear hA hbb HC HW hw2 HAl HRo
 go_wp2_with fail
 go_loopw [6, 7, 8] (fun pv yv tv wr => ∃ t : Nat, t ≤ m ∧ tv = .int .i64 t ∧ Hid (DS w n k l (items n (nat (shE (l.take t)))) pv yv wr)) (fun _ _ tv _ => m - (intOf tv).toNat)
 case atStart => exact ⟨0, by omega, rfl, HD0⟩
 case round =>
  clear HD0 c0 c1
  obtain ⟨t, ht, rfl, HD⟩ := hrel
  by_cases htm : t < m
  ·have hti : t < l.length := by rw [HL.out]; exact htm
   have htm2 : (t : Int) < (m : Int) := by omega
   have HTk : Hid (l.take (t + 1) = l.take t ++ [l[t]]) := Lib.hid (take_succ' l hti)
   have hmem : l[t] ∈ l := List.getElem_mem hti
   have hsh := HA.out.1 ((l[t]).p, (l[t]).s) (List.mem_map.2 ⟨l[t], hmem, rfl⟩)
   have HRow : Hid (∀ V, Below w.heap.size w V → ∃ b off, A = some ⟨b, off, none⟩ ∧ V.cell? ⟨b, off + t * 2, none⟩ = some (.int .i64 (l[t]).p) ∧ V.cell? ⟨b, off + t * 2 + 1, none⟩ = some (.slice (l[t]).A (l[t]).s.length (l[t]).c) ∧ Bytes V (l[t]).A (bs (l[t]).s)) := Lib.hid fun V hV => by
    obtain ⟨b, off, e, h1, h2⟩ := row2_at (HE.out.below hV).row hti
    exact ⟨b, off, e, h1, h2, ((HE.out.below hV).lst _ hmem).1.by_⟩
   obtain ⟨e, he⟩ : ∃ e, l[t] = e := ⟨_, rfl⟩
   rw [he] at HTk hsh HRow
   obtain ⟨ep, eA, es, ec⟩ := e
   obtain ⟨i, rfl⟩ : ∃ i : Nat, ep = (i : Int) := ⟨ep.toNat, by have := hsh.1.1; show ep = _; have : (0 : Int) ≤ ep := this; omega⟩
   have hin : i < n := by have : ((i : Nat) : Int) < (n : Int) := hsh.1.2; omega
   have hsl : es.length = u := by rw [← HU.out]; exact hsh.2
   obtain ⟨L0, hL0⟩ : ∃ L0, items n (nat (shE (l.take t))) = L0 := ⟨_, rfl⟩
   have HIt : Hid (items n (nat (shE (l.take (t + 1)))) = L0 ++ itJ n i es n) := Lib.hid (by rw [HTk.out, nat_snoc, items_snoc, hL0, itJ_full hin (by rw [HU.out]; exact hsl)]; rfl)
   have HSub : Hid (∀ j, j ≤ n → ∀ z ∈ L0 ++ itJ n i es j, z ∈ items n (nat (shE l))) := Lib.hid (fun j hj z hz => by
    have h1 : z ∈ items n (nat (shE (l.take (t + 1)))) := by
     rw [HIt.out]
     rcases List.mem_append.1 hz with hz | hz
     ·exact List.mem_append_left _ hz
     ·exact List.mem_append_right _ (itJ_sub hj z hz)
    unfold items at h1 ⊢
    rw [List.mem_flatMap] at h1 ⊢
    obtain ⟨o, ho, hz⟩ := h1
    refine ⟨o, ?_, hz⟩
    unfold nat shE at ho ⊢
    rw [List.map_take, List.map_take] at ho
    exact List.mem_of_mem_take ho)
   rw [hL0] at HD
   have HD1 : Hid (DS w n k l (L0 ++ itJ n i es 0) u6 u7 wr) := Lib.hid (by have h1 := HD.out; rwa [show itJ n i es 0 = [] from rfl, List.append_nil])
   have HCw := Lib.hid HD.out.c2
   obtain ⟨c0, c1⟩ := HCw.out
   clear hmem hsh he hL0 HD hti
   go_wp2_with fail
   go_loopw [6, 7, 9] (fun pv yv jv wr => ∃ j : Nat, j ≤ n ∧ jv = .int .i64 j ∧ Hid (DS w n k l (L0 ++ itJ n i es j) pv yv wr)) (fun _ _ jv _ => n - (intOf jv).toNat)
   case atStart => exact ⟨0, by omega, rfl, HD1⟩
   case round =>
    clear HD1 c0 c1 HCw
    obtain ⟨j, hj, rfl, HD⟩ := hrel
    obtain ⟨c0, c1⟩ := HD.out.c2
    by_cases hjn : j < n
    ·have hjn2 : (j : Int) < (n : Int) := by omega
     obtain ⟨b, off, rfl, q0, q1, hby⟩ := HRow.out wr HD.out.bel
     replace q0 : wr.cell? ⟨b, off + t * 2, none⟩ = some (.int .i64 (i : Int)) := q0
     replace q1 : wr.cell? ⟨b, off + t * 2 + 1, none⟩ = some (.slice eA u ec) := by rw [← hsl]; exact q1
     by_cases hji : j = i
     ·have f1 : ((j : Int) == (i : Int)) = true := by simp [hji]
      have HD2 : Hid (DS w n k l (L0 ++ itJ n i es (j + 1)) u6 u7 wr) := Lib.hid (by have h1 := HD.out; rw [hji] at h1 ⊢; rw [itJ_skip]; exact h1)
      clear hji HD hby
      go_wp2_with fail
      go_roundw
      case rel => exact ⟨j + 1, by omega, by go_num, HD2⟩
      case measure => first | (simp [intOf]; done) | (simp [intOf]; omega)
     ·have f1 : ((j : Int) == (i : Int)) = false := by simp; omega
      have hsu := itJ_succ (n := n) es hji
      obtain ⟨p, hp⟩ : ∃ p, plc n i j = p := ⟨_, rfl⟩
      have HEd : Hid (∀ V, Calls Tryz.prog 37 #[.agg #[.int .i64 (n : Nat), .int .i64 (k : Int)], .int .i64 (j : Nat), .int .i64 (i : Nat)] V fun e w' => e = .returned (.int .i64 (p : Nat)) ∧ Below V.heap.size V w') := Lib.hid fun V => by
       have h1 := refEdge_calls (n := n) (k : Int) hn j i hjn hin hji V
       rw [plc_comm, hp] at h1
       exact h1
      obtain ⟨q, hq⟩ : ∃ q, idx i j = q := ⟨_, rfl⟩
      have hqu : q < u := by rw [← hq, ← HU.out]; exact idx_lt hin hjn hji
      obtain ⟨y, hy⟩ : ∃ y, coef es q = y := ⟨_, rfl⟩
      rw [hp, hq, hy] at hsu
      have HPl : Hid (∀ V, Calls Tryz.prog 38 #[.int .i64 (i : Nat), .int .i64 (j : Nat)] V fun e w' => e = .returned (.int .i64 (q : Nat)) ∧ V = w') := Lib.hid fun V => by
       have h1 := refPlace_calls i j (by omega) (by omega) V
       rw [hq] at h1
       exact h1
      obtain ⟨L, hL⟩ : ∃ L, L0 ++ itJ n i es j = L := ⟨_, rfl⟩
      have HSu : Hid (L0 ++ itJ n i es (j + 1) = L ++ [(p, y)]) := Lib.hid (by rw [hsu, ← List.append_assoc, hL])
      have HSb : Hid (∀ z ∈ L ++ [(p, y)], z ∈ items n (nat (shE l))) := Lib.hid (by rw [← HSu.out]; exact HSub.out (j + 1) (by omega))
      rw [hL] at HD
      have HY := Lib.hid hy
      have HQ0 := Lib.hid (show wr.drew.cell? ⟨w.heap.size, 0, none⟩ = some (.int .i64 (n : Int)) ∧ wr.drew.cell? ⟨w.heap.size, 1, none⟩ = some (.int .i64 (k : Int)) ∧ wr.drew.cell? ⟨b, off + t * 2, none⟩ = some (.int .i64 (i : Int)) from ⟨c0, c1, q0⟩)
      have HDr := Lib.hid (HD.out.below (Below.refl _ _).drew)
      have HCell : Hid (∀ V, Below w.heap.size w V → V.cell? ⟨b, off + t * 2, none⟩ = some (.int .i64 (i : Int)) ∧ V.cell? ⟨b, off + t * 2 + 1, none⟩ = some (.slice eA u ec) ∧ Bytes V eA (bs es)) := Lib.hid fun V hV => by
       obtain ⟨b', off', e1, h1, h2, h3⟩ := HRow.out V hV
       cases e1
       exact ⟨h1, by rw [← hsl]; exact h2, h3⟩
      clear hby hji hsu hp hq hy hL HD
      go_wp2_with fail
      go_region_held (fun V => V.cell? ⟨w.heap.size, 0, none⟩ = some (.int .i64 (n : Int)) ∧ V.cell? ⟨w.heap.size, 1, none⟩ = some (.int .i64 (k : Int)) ∧ V.cell? ⟨b, off + t * 2, none⟩ = some (.int .i64 (i : Int))) (with_reducible exact HQ0.out)
       ((go_at_call 37; (with_reducible refine (HEd.out _).mono ?_); rintro e9 w9 ⟨rfl, hb9⟩; replace HDr := Lib.hid (HDr.out.below hb9); replace HQ0 := Lib.hid (show w9.cell? ⟨w.heap.size, 0, none⟩ = some (.int .i64 (n : Int)) ∧ w9.cell? ⟨w.heap.size, 1, none⟩ = some (.int .i64 (k : Int)) ∧ w9.cell? ⟨b, off + t * 2, none⟩ = some (.int .i64 (i : Int)) from ⟨HDr.out.c2.1, HDr.out.c2.2, (HCell.out _ HDr.out.bel).1⟩); clear hb9))
      obtain ⟨w4, hw4⟩ : ∃ w4, w9 = w4 := ⟨_, rfl⟩
      rw [hw4] at HDr ⊢
      clear hw4 HQ0 q0 q1 c0 c1 HEd
      obtain ⟨P1, cp1, rfl, hrP, -⟩ := HDr.out.o1.form
      obtain ⟨N, hN⟩ : ∃ N, (seen L).length = N := ⟨_, rfl⟩
      have hpl : (plI (seen L)).length = N := by simp [plI, hN]
      rw [zs_length, hpl]
      have hN9 : N ≤ 255 := by
       rw [← hN]
       have h1 := seen_le (nat_ok HA.out).1 HDr.out.sub
       have h2 := (edges_n n hn).2
       omega
      have HPL := Lib.hid hpl
      have HRP := Lib.hid hrP
      clear hrP hN hpl
      go_wp2_with fail
      go_loopw [11, 12] (fun bv_ iv wr => ∃ x : Nat, x ≤ N ∧ iv = .int .i64 x ∧ bv_ = .bool (decide ((p : Int) ∈ (plI (seen L)).take x)) ∧ w4 = wr) (fun _ iv _ => N - (intOf iv).toNat)
      case atStart => exact ⟨0, by omega, rfl, by simp, rfl⟩
      case round =>
       obtain ⟨x, hx, rfl, rfl, rfl⟩ := hrel
       by_cases hxN : x < N
       ·have hxl : x < (plI (seen L)).length := by rw [HPL.out]; exact hxN
        have hxN2 : (x : Int) < (N : Int) := by omega
        obtain ⟨b3, o3, rfl, q3⟩ := zs_at HRP.out hxl
        have hmt := int_mem_take (z := (p : Int)) hxl
        obtain ⟨v, hv⟩ : ∃ v, (plI (seen L))[x] = v := ⟨_, rfl⟩
        rw [hv] at hmt q3
        by_cases hb : (p : Int) ∈ (plI (seen L)).take x
        ·have HB2 : Hid (decide ((p : Int) ∈ (plI (seen L)).take (x + 1)) = true) := Lib.hid (decide_eq_true (hmt.2 (.inl hb)))
         have hd : decide ((p : Int) ∈ (plI (seen L)).take x) = true := decide_eq_true hb
         rw [hd]
         clear hmt hv hb hd
         go_wp2_with fail
         go_roundw
         case rel => exact ⟨x + 1, by omega, by go_num, by rw [HB2.out], by first | rfl | trivial⟩
         case measure => first | (simp [intOf]; done) | (simp [intOf]; omega)
        ·have hd : decide ((p : Int) ∈ (plI (seen L)).take x) = false := decide_eq_false hb
         rw [hd]
         by_cases hvp : v = (p : Int)
         ·have HB2 : Hid (decide ((p : Int) ∈ (plI (seen L)).take (x + 1)) = true) := Lib.hid (decide_eq_true (hmt.2 (.inr hvp.symm)))
          have f4 : (v == (p : Int)) = true := by simpa using hvp
          clear hmt hv hb hd hvp
          go_wp2_with fail
          go_roundw
          case rel => exact ⟨x + 1, by omega, by go_num, by rw [HB2.out], by first | rfl | trivial⟩
          case measure => first | (simp [intOf]; done) | (simp [intOf]; omega)
         ·have HB2 : Hid (decide ((p : Int) ∈ (plI (seen L)).take (x + 1)) = false) := Lib.hid (decide_eq_false (fun h => by
           rcases hmt.1 h with h | h
           ·exact hb h
           ·exact hvp h.symm))
          have f4 : (v == (p : Int)) = false := by simpa using hvp
          clear hmt hv hb hd hvp
          go_wp2_with fail
          go_roundw
          case rel => exact ⟨x + 1, by omega, by go_num, by rw [HB2.out], by first | rfl | trivial⟩
          case measure => first | (simp [intOf]; done) | (simp [intOf]; omega)
       ·have hxe : x = N := by omega
        have hxN2 : ¬ ((x : Int) < (N : Int)) := by omega
        have hall : (plI (seen L)).take x = plI (seen L) := List.take_of_length_le (by rw [HPL.out]; omega)
        rw [hall]
        have hmp : (p : Int) ∈ plI (seen L) ↔ p ∈ (seen L).map Prod.fst := by
         unfold plI
         rw [List.mem_map, List.mem_map]
         constructor
         ·rintro ⟨d, hd, e⟩; exact ⟨d, hd, by omega⟩
         ·rintro ⟨d, hd, e⟩; exact ⟨d, hd, by omega⟩
        by_cases hin2 : (p : Int) ∈ plI (seen L)
        ·rw [decide_eq_true hin2]
         have hse : seen (L ++ [(p, y)]) = seen L := by rw [seen_snoc]; unfold add; rw [if_pos (hmp.1 hin2)]
         have HD2 : Hid (DS w n k l (L0 ++ itJ n i es (j + 1)) (.slice P1 N cp1) u7 w4) := Lib.hid (by
          rw [HSu.out]
          refine ⟨?_, ?_, HDr.out.bel, HDr.out.c2, HSb.out⟩
          ·rw [hse]
           have h1 := HDr.out.o1
           rw [zs_length, HPL.out] at h1
           exact h1
          ·rw [hse]; exact HDr.out.o2)
         clear hall hmp hin2 hse hxe HDr
         go_wp2_with fail
         go_roundw
         case rel => exact ⟨j + 1, by omega, by go_num, HD2⟩
         case measure => first | (simp [intOf]; done) | (simp [intOf]; omega)
        ·rw [decide_eq_false hin2]
         have hse : seen (L ++ [(p, y)]) = seen L ++ [(p, y)] := by rw [seen_snoc]; unfold add; rw [if_neg (fun h => hin2 (hmp.2 h))]
         have HT1 : Hid (zs (plI (seen L)) ++ zs [(p : Int)] = zs (plI (seen (L ++ [(p, y)])))) := Lib.hid (by rw [hse, ← zs_append]; simp [plI])
         have HT2 : Hid (bv (bs (ysD (seen L))) ++ bv [y.n] = bv (bs (ysD (seen (L ++ [(p, y)]))))) := Lib.hid (by rw [hse, ← bvs_snoc]; simp [ysD])
         have HO1 : Hid (Own w4 (w.heap.size + 1) 3 (.slice P1 N cp1) (zs (plI (seen L)))) := Lib.hid (by
          have h1 := HDr.out.o1
          rw [zs_length, HPL.out] at h1
          exact h1)
         have HO2 := Lib.hid HDr.out.o2
         have hyl : (bv (bs (ysD (seen L)))).length = N := by rw [bvs_length]; have := HPL.out; simp [plI] at this; simp [ysD, this]
         have HYl := Lib.hid hyl
         have hs4 := HDr.out.lt
         have HBl := Lib.hid HDr.out.bel
         have HC4 := Lib.hid HDr.out.c2
         clear hall hmp hin2 hse hxe HDr hyl
         go_wp2_with (at_builtin; refine wpList_app _ rfl _ _ _ rfl (w.heap.size + 1) 3 _ 8 Tryz.underlying51 info_i rfl (by omega) _ _ rfl (HO1.out.alloc _) (some ⟨w4.heap.size, 0, none⟩) 1 1 (zs [(p : Int)]) rfl rfl (Row.new _ _ _ _) (zs_one _) (by rw [zs_length, HPL.out]; omega) (by simp; omega) ?_; rintro v5 w5 hown5 hg5 -)
         have hb5 := (HO1.out.alloc (.cells #[.int .i64 (p : Int)] 3)).grew (by simp; omega) hg5
         have hO2' := (HO2.out.alloc (.cells #[.int .i64 (p : Int)] 3)).grown hg5 (Rd.own_apart (HO2.out.alloc _) (HO1.out.alloc (.cells #[.int .i64 (p : Int)] 3)) (by decide))
         have HB5 := Lib.hid ((HBl.out.alloc (Nat.le_of_lt hs4) (.cells #[.int .i64 (p : Int)] 3)).trans (hb5.mono (Nat.le_succ _)))
         have HC5 : Hid (C2 w.heap.size (n : Int) (k : Int) w5) := Lib.hid (c2_grown (C2.below HC4.out ((Below.refl _ w4).alloc (Nat.le_refl _) (.cells #[.int .i64 (p : Int)] 3))) hg5 (fun e => by have := ((HO1.out.alloc (.cells #[.int .i64 (p : Int)] 3)).lt _ e).1; omega))
         rw [HT1.out] at hown5
         have HO15 := Lib.hid hown5
         have HO25 := Lib.hid hO2'
         have hs5 : w.heap.size < w5.heap.size := cell_lt HC5.out.1
         obtain ⟨q0, q1, hby⟩ := HCell.out w5 HB5.out
         obtain ⟨b6, o6, rfl⟩ := where_ hby (by rw [hsl]; omega)
         have q2 := cellAt hby q (by rw [hsl]; exact hqu)
         rw [HY.out] at q2
         obtain ⟨v7, w7, hrun, hown7, hg7, -⟩ := run_appK (P := Tryz.prog) (w5.alloc (.cells #[.int .u8 (y.n : Int)] 5)).drew 1 (w.heap.size + 1) 35 35 5 _ 1 Tryz.underlying35 info_u8 rfl (by omega) u7 N _ (ownK1 (HO25.out.alloc (.cells #[.int .u8 (y.n : Int)] 5)).drew HYl.out) ⟨w5.heap.size, 0, none⟩ 1 1 (bv [y.n]) rfl (Row.new _ _ _ _) (bv_one _) (by omega) (by omega) (by show w.heap.size + 1 ≤ (w5.alloc (.cells #[.int .u8 (y.n : Int)] 5)).heap.size; rw [World.size_alloc]; omega)
         have hok9 : OwnK 1 (w5.alloc (.cells #[.int .u8 (y.n : Int)] 5)).drew (w.heap.size + 1) 5 u7 N (bv (bs (ysD (seen L)))) := ownK1 (HO25.out.alloc (.cells #[.int .u8 (y.n : Int)] 5)).drew HYl.out
         have hb7 := OwnK.grew hok9 (by show w.heap.size + 1 ≤ (w5.alloc (.cells #[.int .u8 (y.n : Int)] 5)).heap.size; rw [World.size_alloc]; omega) hg7
         have hba7 : Below w5.heap.size w5 (w5.alloc (.cells #[.int .u8 (y.n : Int)] 5)).drew := ((Below.refl _ _).alloc (Nat.le_refl _) _).drew
         have HD7 : Hid (DS w n k l (L0 ++ itJ n i es (j + 1)) v5 v7 w7) := Lib.hid (by
          rw [HSu.out]
          refine ⟨?_, ?_, (HB5.out.trans (hba7.mono (Nat.le_of_lt hs5))).trans (hb7.mono (Nat.le_succ _)), ?_, HSb.out⟩
          ·exact (HO15.out.below hba7).grown hg7 (own_apart (HO15.out.below hba7) hok9 (by decide))
          ·rw [← HT2.out]; exact (own1_of hown7).1
          ·exact c2_grown (C2.below HC5.out hba7) hg7 (fun e => by have := (World.ownsRow.lt hok9 _ e).1; omega))
         clear hown5 hg5 hb5 hO2' hby hown7 hg7 hok9 hb7 hba7 HO1 HO2 HO15 HO25 HC4 HBl HB5
         have hq0 : (q : Int) < (u : Int) := by omega
         go_wp2_with fail
         go_region_with (go_at_call 38; (with_reducible refine (HPl.out _).mono ?_); rintro e9 w9 ⟨rfl, rfl⟩)
         all_goals
          clear hrun q0 q1 q2
          go_wp2
          go_roundw
          case rel => exact ⟨j + 1, by omega, by go_num, HD7⟩
          case measure => first | (simp [intOf]; done) | (simp [intOf]; omega)
    ·obtain rfl : j = n := by omega
     have HD2 : Hid (DS w j k l (items j (nat (shE (l.take (t + 1))))) u6 u7 wr) := Lib.hid (by rw [HIt.out]; exact HD.out)
     have hjn2 : ¬ ((j : Int) < (j : Int)) := by omega
     clear HD
     go_wp2_with fail
     go_roundw
     case rel => exact ⟨t + 1, by omega, by go_num, HD2⟩
     case measure => first | (simp [intOf]; done) | (simp [intOf]; omega)
  ·obtain rfl : t = m := by omega
   have hD := HD.out
   rw [List.take_of_length_le (by rw [HL.out]; exact Nat.le_refl _)] at hD
   obtain ⟨N, hN⟩ : ∃ N, (seen (items n (nat (shE l)))).length = N := ⟨_, rfl⟩
   have hpl : (plI (seen (items n (nat (shE l))))).length = N := by simp [plI, hN]
   have hyl : (ysD (seen (items n (nat (shE l))))).length = N := by simp [ysD, hN]
   have hN9 : N ≤ 255 := by
    rw [← hN]
    have h1 := seen_le (nat_ok HA.out).1 hD.sub
    have h2 := (edges_n n hn).2
    omega
   obtain ⟨P1, cp1, rfl, -, -⟩ := hD.o1.form
   obtain ⟨Y1, cy1, rfl, -, -⟩ := hD.o2.form
   rw [zs_length, hpl] at hD ⊢
   rw [bvs_length, hyl] at hD ⊢
   obtain ⟨E, hE9⟩ : ∃ E, rs n n = E := ⟨_, rfl⟩
   obtain ⟨b, hb9⟩ : ∃ b, rs n k = b := ⟨_, rfl⟩
   have hE255 : E ≤ 255 := by rw [← hE9]; exact (edges_n n hn).2
   have hb255 : b ≤ 255 := by have := rs_mono n (Nat.le_of_lt hk); omega
   have hB := fun W => refB_calls hn hk W
   rw [hb9] at hB
   have HBc := Lib.hid hB
   have hPt := fun W => refPoints_calls (k : Int) hn W
   rw [hE9] at hPt
   have HPt := Lib.hid hPt
   have HDe : Hid (∀ V A9 c9, Bytes V A9 (bs (pts E)) → DS w n k l (items n (nat (shE l))) (.slice P1 N cp1) (.slice Y1 N cy1) V → Calls Tryz.prog 39 #[.slice A9 E c9, .int .i64 (b : Nat), .slice P1 N cp1, .slice Y1 N cy1] V fun e w' => ∃ lm z, DecIs (pts E) b (plI (seen (items n (nat (shE l))))) (ysD (seen (items n (nat (shE l))))) lm z ∧ REnc V (lm, z) e w') := Lib.hid fun V A9 c9 hb hV =>
    refDecode_calls A9 (pts E) E c9 b P1 _ N cp1 Y1 _ N cy1 V (pts_length E) hb (by omega) (pts_nodup hE255) (by omega) hpl (own_row hV.o1) (by omega) hyl (Own.bytes hV.o2)
   have HEb := Lib.hid hE9
   have HBb := Lib.hid hb9
   have HD := Lib.hid (hD.below (Below.refl _ _).drew)
   have HC := Lib.hid HD.out.c2
   have HP : Hid True := Lib.hid trivial
   obtain ⟨c0, c1⟩ := hD.c2
   have htm2 : ¬ ((t : Int) < (t : Int)) := by omega
   clear hD hN hpl hyl hE9 hb9 hB hPt htm
   go_wp2_with fail
   clear c0 c1
   go_region_held (fun V => V.cell? ⟨w.heap.size, 0, none⟩ = some (.int .i64 (n : Int)) ∧ V.cell? ⟨w.heap.size, 1, none⟩ = some (.int .i64 (k : Int))) (with_reducible exact HC.out)
    ((first
     | (go_at_call 40; (with_reducible refine (HPt.out _).mono ?_); rintro e9 w9 ⟨A9, c9, rfl, hc9, hO9, hb9⟩; replace HP := Lib.hid (Own.bytes hO9); replace HC := Lib.hid (C2.below HC.out hb9); replace HD := Lib.hid (HD.out.below hb9); clear hO9 hb9 hc9)
     | (go_at_call 41; (with_reducible refine (HBc.out _).mono ?_); rintro e9 w9 ⟨rfl, hb9⟩; (first | (replace HP := Lib.hid (HP.out.below hb9)) | skip); replace HC := Lib.hid (C2.below HC.out hb9); replace HD := Lib.hid (HD.out.below hb9); clear hb9)
     | (go_at_call 39; (with_reducible refine (HDe.out _ _ _ HP.out HD.out).mono ?_); rintro e9 w9 ⟨lm, z, hdi, A9, c9, rfl, hc9, hO9, hb9⟩; have HDi := Lib.hid hdi; have HO := Lib.hid (hO9.more (Nat.le_of_lt HD.out.lt)); have HCc := Lib.hid hc9; replace HC := Lib.hid (C2.below HC.out hb9); replace HD := Lib.hid (HD.out.below hb9); clear hO9 hb9 hdi hc9)))
   all_goals
    obtain ⟨w3, hw3⟩ : ∃ w3, w9 = w3 := ⟨_, rfl⟩
    rw [hw3] at HO HC HD ⊢
    have hdi := HDi.out
    rw [← HEb.out, ← HBb.out] at hdi
    have hkl : k ≤ (shE l).length := by rw [shE_length, HL.out]; omega
    obtain ⟨c0, c1⟩ := HC.out
    clear hw3 HP HPt HDe HBc
    by_cases hz : z = 0
    ·subst hz
     obtain ⟨hlm, hgood, hbad⟩ := dec_good hn HA.out hkl hdi
     have hlb : lm.length = b := by rw [hlm, HBb.out]
     have hO := HO.out
     have hcc := HCc.out
     change lm.length ≤ c9 at hcc
     change Own w3 w.heap.size 5 (.slice A9 lm.length c9) (bv (bs lm)) at hO
     have hO' := hO
     rw [hlb] at hO'
     have HEn := Lib.hid (refEnc_good hn hk A9 lm b c9 hlb HBb.out.symm w3 (Own.bytes hO'))
     have HX : ∀ V, Below w3.heap.size w3 V → RepR w lm 0 (.returned (.tuple #[.slice A9 b c9, .int .i64 0])) V := fun V hV => ⟨A9, c9, by rw [hlb], hcc, hO.below hV, HD.out.bel.trans (hV.mono HD.out.bel.size)⟩
     have HGd := Lib.hid hgood
     have HBd := Lib.hid hbad
     have HXx := Lib.hid HX
     rw [hlb]
     clear hlm hgood hbad hlb hO hO' hcc hdi HX HO
     go_wp2_with fail
     refine HEn.out.mono ?_
     clear HEn
     rintro e w5 ⟨A5, c5, l5, rfl, hc5, hO5, hL5, hls, hb5⟩
     have hfw := (HF.out.below HD.out.bel).below hb5
     have hll : l5.length = n := by have := congrArg List.length hls; simpa using this
     have hEw := (HE.out.below HD.out.bel).below hb5
     have hnd : (l.map El.p).Nodup := by
      have := HA.out.2
      unfold shE at this
      rw [List.map_map] at this
      exact this
     have HWr := Lib.hid (refWrong9_calls g A5 l5 n c5 A l t c w5 hll (by omega) ⟨own_row (own1_of hO5).1, hL5.lst hfw⟩ HL.out (by omega) hEw hnd)
     have hsh : ∀ j, j < n → shF l5 j = shr n (word lm (pts (rs n n))) j := fun j hj => by
      have h6 : (l5.map El.s)[j]? = some (shr n (word lm (pts (rs n n))) j) := by rw [hls, List.getElem?_map, List.getElem?_range hj]; rfl
      rw [List.getElem?_map] at h6
      unfold shF
      rw [h6]; rfl
     have hrng : ∀ o ∈ shE l, 0 ≤ o.1 ∧ o.1 < (n : Int) := fun o ho => (HA.out.1 o ho).1
     have HIf : Hid (wrongs n (shF l5) (shE l) = [] ↔ ∀ o ∈ shE l, o.2 = shr n (word lm (pts (rs n n))) o.1.toNat) := Lib.hid (by
      constructor
      ·intro h o ho
       refine Classical.byContradiction fun hne => ?_
       have h1 := hrng o ho
       have h2 : o.1 ∈ wrongs n (shF l5) (shE l) := (mem_wr hrng).2 ⟨o, ho, rfl, by rw [hsh _ (by omega)]; exact hne⟩
       rw [h] at h2
       simp at h2
      ·intro h
       refine List.eq_nil_iff_forall_not_mem.2 fun z hz => ?_
       obtain ⟨o, ho, rfl, hne⟩ := (mem_wr hrng).1 hz
       have h1 := hrng o ho
       rw [hsh _ (by omega)] at hne
       exact hne (h o ho))
     have HB5 := Lib.hid hb5
     clear hc5 hO5 hL5 hls hb5 hfw hll hEw hnd hsh hrng
     go_wp2_with fail
     refine HWr.out.mono ?_
     clear HWr
     rintro e w6 ⟨P6, pn, cp6, rfl, hpn, -, -, hb6⟩
     have hbb := HB5.out.trans (hb6.mono HB5.out.size)
     rcases Nat.eq_zero_or_pos pn with hp0 | hp0
     ·have h1 := HGd.out (HIf.out.1 (List.eq_nil_of_length_eq_zero (hpn.trans hp0)))
      have HY : Hid (∃ ms z, TIs n k (pts (rs n n)) (shE l) ms z ∧ RepR w ms z (.returned (.tuple #[.slice A9 b c9, .int .i64 0])) w6) := Lib.hid ⟨lm, 0, h1, HXx.out w6 hbb⟩
      subst hp0
      clear h1 hpn hb6 hbb
      go_wp2_with fail
      go_ret2
      exact HY.out
     ·have h1 := HBd.out (fun h => by
       have h2 := HIf.out.2 h
       rw [h2] at hpn
       simp at hpn
       omega)
      have HY : Hid (∃ ms z, TIs n k (pts (rs n n)) (shE l) ms z ∧ RepR w ms z (.returned (.tuple #[.slice none 0 0, .int .i64 80])) w6) := Lib.hid ⟨[], 80, h1, none, 0, rfl, Nat.le_refl _, Own.nil _ _ _, HD.out.bel.trans (hbb.mono HD.out.bel.size)⟩
      clear h1 hpn hb6 hbb
      go_wp2_with fail
      go_ret2
      exact HY.out
    ·have hti := dec_lost hn HA.out hkl hz hdi
     have HX : Hid (∃ ms z, TIs n k (pts (rs n n)) (shE l) ms z ∧ RepR w ms z (.returned (.tuple #[.slice none 0 0, .int .i64 80])) w3) := Lib.hid ⟨[], 80, hti, none, 0, rfl, Nat.le_refl _, Own.nil _ _ _, HD.out.bel⟩
     have hzz : (z != 0) = true := by simp [hz]
     obtain ⟨q, hq⟩ : ∃ q, lm.length = q := ⟨_, rfl⟩
     first | rw [hq] | skip
     clear hti hdi hz hq HO
     go_wp2
     go_ret2
     exact HX.out
end Go.Proofs.YtjoghbmedfmioabGreat.Tr

namespace Go.Proofs.YtjoghbmedfmioabGreat.Ms
open Go.RowKit Go.Shelf F8 Poly GF Rd
attribute [local go_sem] Oper.semAt_some
def LiteOk (l : List El) (rows size : Int) : Prop := (l.length : Int) ≤ rows ∧ ∀ e ∈ l, (e.s.length : Int) ≤ size
instance (l : List El) (rows size : Int) : Decidable (LiteOk l rows size) := inferInstanceAs (Decidable (_ ∧ _))
set_option maxRecDepth 100000 in
set_option maxHeartbeats 2000000 in
theorem lite_calls (A : Option Addr) (l : List El) (m c : Nat) (rows size : Int) (w : World) (hl : l.length = m) (hm : m ≤ 140737488355328) (hr : Row w A (cells2 l)) :
  Calls Tryz.prog 6 #[.slice A m c, .int .i64 rows, .int .i64 size] w fun e w' => e = .returned (.bool (decide (LiteOk l rows size))) ∧ Below w.heap.size w w' := by
 have HR := Lib.hid hr
 have HM := Lib.hid hl
 clear hr hl
 by_cases hlong : rows < (m : Int)
 ·have HF : Hid (decide (LiteOk l rows size) = false) := Lib.hid (decide_eq_false fun h => by have := h.1; rw [HM.out] at this; omega)
  have d0 : decide (rows < (m : Int)) = true := decide_eq_true hlong
  go_enter Tryz.func6, Tryz.ntmps6
  go_wp2
  go_ret
  exact ⟨ret_bool HF.out.symm, Below.refl _ _⟩
 have d0 : decide (rows < (m : Int)) = false := decide_eq_false hlong
 go_enter Tryz.func6, Tryz.ntmps6
 go_wp2_with fail
 go_loopw [7] (fun iv wr => ∃ i : Nat, i ≤ m ∧ iv = .int .i64 i ∧ Hid (∀ e ∈ l.take i, (e.s.length : Int) ≤ size) ∧ Hid (Below w.heap.size w wr)) (fun iv _ => m - (intOf iv).toNat)
 case atStart => exact ⟨0, by omega, rfl, Lib.hid (by simp), Lib.hid (Below.refl _ _)⟩
 case round =>
  obtain ⟨i, hi, rfl, HN, HW⟩ := hrel
  by_cases him : i < m
  ·have hti : i < l.length := by rw [HM.out]; exact him
   obtain ⟨b, off, rfl, -, hc1⟩ := row2_at (HR.out.below HW.out) hti
   have HBad : Hid (size < ((l[i]).s.length : Int) → ¬ LiteOk l rows size) := Lib.hid fun h hh => by have := hh.2 _ (List.getElem_mem hti); omega
   have HGo : Hid (((l[i]).s.length : Int) ≤ size → ∀ e ∈ l.take (i + 1), (e.s.length : Int) ≤ size) := Lib.hid fun h e he => by
    rw [take_succ' l hti] at he
    rcases List.mem_append.1 he with he | he
    ·exact HN.out e he
    ·obtain rfl := List.mem_singleton.1 he
     exact h
   obtain ⟨eA, h2⟩ : ∃ a, (l[i]).A = a := ⟨_, rfl⟩
   obtain ⟨en, h3⟩ : ∃ a, (l[i]).s.length = a := ⟨_, rfl⟩
   obtain ⟨ec, h4⟩ : ∃ a, (l[i]).c = a := ⟨_, rfl⟩
   rw [h2, h3, h4] at hc1
   rw [h3] at HBad HGo
   have hlt : (i : Int) < (m : Int) := by omega
   clear h2 h3 h4
   by_cases hb : size < (en : Int)
   ·have HF : Hid (decide (LiteOk l rows size) = false) := Lib.hid (decide_eq_false (HBad.out hb))
    have d1 : decide (size < (en : Int)) = true := decide_eq_true hb
    clear HBad HGo
    go_wp2
    go_ret
    exact ⟨ret_bool HF.out.symm, HW.out⟩
   ·have HG := Lib.hid (HGo.out (by omega))
    have d1 : decide (size < (en : Int)) = false := decide_eq_false hb
    clear HBad HGo
    go_wp2
    go_roundw
    case rel => exact ⟨i + 1, by omega, by go_num, HG, HW⟩
    case measure => simp [intOf]; omega
  ·obtain rfl : i = m := by omega
   have HF : Hid (decide (LiteOk l rows size) = true) := Lib.hid (decide_eq_true ⟨by rw [HM.out]; omega, by
    have h := HN.out
    rwa [List.take_of_length_le (by rw [HM.out]; exact Nat.le_refl _)] at h⟩)
   go_wp2
   go_ret
   exact ⟨ret_bool HF.out.symm, HW.out⟩
set_option maxRecDepth 100000 in
set_option maxHeartbeats 2000000 in
theorem sameSym_calls (A B : Option Addr) (l k : List El) (m c d : Nat) (w : World) (hl : l.length = m) (hk : k.length = m) (hm : m ≤ 1000000) (hp : l.map El.p = k.map El.p) (hs : l.map El.s = k.map El.s) (hr : Row w A (cells2 l)) (hr2 : Row w B (cells2 k)) (hd : ∀ e ∈ l, Bytes w e.A (bs e.s)) (hd2 : ∀ e ∈ k, Bytes w e.A (bs e.s)) :
  Calls Tryz.prog 16 #[.slice A m c, .slice B m d] w fun e w' => e = .returned (.bool true) ∧ Below w.heap.size w w' := by
 have HR := Lib.hid hr
 have HR2 := Lib.hid hr2
 have HD := Lib.hid hd
 have HD2 := Lib.hid hd2
 have HM := Lib.hid hl
 have HK := Lib.hid hk
 have HP : Hid (∀ (i : Nat) (h : i < l.length) (h' : i < k.length), (l[i]).p = (k[i]).p) := Lib.hid fun i h h' => by
  have e : (l.map El.p)[i]'(by simpa using h) = (k.map El.p)[i]'(by simpa using h') := by simp only [hp]
  simpa using e
 have HS : Hid (∀ (i : Nat) (h : i < l.length) (h' : i < k.length), (l[i]).s = (k[i]).s) := Lib.hid fun i h h' => by
  have e : (l.map El.s)[i]'(by simpa using h) = (k.map El.s)[i]'(by simpa using h') := by simp only [hs]
  simpa using e
 have hmm : ((m : Int) != (m : Int)) = false := by simp
 clear hr hr2 hd hd2 hl hk hp hs
 go_enter Tryz.func16, Tryz.ntmps16
 go_wp2_with fail
 go_loopw [5] (fun iv wr => ∃ i : Nat, i ≤ m ∧ iv = .int .i64 i ∧ Hid (Below w.heap.size w wr)) (fun iv _ => m - (intOf iv).toNat)
 case atStart => exact ⟨0, by omega, rfl, Lib.hid (Below.refl _ _)⟩
 case round =>
  obtain ⟨i, hi, rfl, HW⟩ := hrel
  by_cases him : i < m
  ·have hti : i < l.length := by rw [HM.out]; exact him
   have hti2 : i < k.length := by rw [HK.out]; exact him
   obtain ⟨b, off, rfl, hc0, hc1⟩ := row2_at (HR.out.below HW.out) hti
   obtain ⟨b2, off2, rfl, hk0, hk1⟩ := row2_at (HR2.out.below HW.out) hti2
   have hpe := HP.out i hti hti2
   have hse := HS.out i hti hti2
   have hby := (HD.out _ (List.getElem_mem hti)).below HW.out
   have hby2 := (HD2.out _ (List.getElem_mem hti2)).below HW.out
   rw [← hpe] at hk0
   rw [← hse] at hk1 hby2
   obtain ⟨ep, h1⟩ : ∃ a, (l[i]).p = a := ⟨_, rfl⟩
   obtain ⟨eA, h2⟩ : ∃ a, (l[i]).A = a := ⟨_, rfl⟩
   obtain ⟨s, h3⟩ : ∃ a, (l[i]).s = a := ⟨_, rfl⟩
   obtain ⟨ec, h4⟩ : ∃ a, (l[i]).c = a := ⟨_, rfl⟩
   obtain ⟨eA2, h5⟩ : ∃ a, (k[i]).A = a := ⟨_, rfl⟩
   obtain ⟨ec2, h6⟩ : ∃ a, (k[i]).c = a := ⟨_, rfl⟩
   rw [h1] at hc0 hk0
   rw [h2, h3, h4] at hc1
   rw [h3, h5, h6] at hk1
   rw [h2, h3] at hby
   rw [h3, h5] at hby2
   obtain ⟨en, h7⟩ : ∃ a, s.length = a := ⟨_, rfl⟩
   rw [h7] at hc1 hk1
   have HSc : Hid (wr.drew.cell? ⟨b, off + i * 2, none⟩ = some (.int .i64 ep) ∧ wr.drew.cell? ⟨b, off + i * 2 + 1, none⟩ = some (.slice eA en ec) ∧ wr.drew.cell? ⟨b2, off2 + i * 2, none⟩ = some (.int .i64 ep) ∧ wr.drew.cell? ⟨b2, off2 + i * 2 + 1, none⟩ = some (.slice eA2 en ec2)) := Lib.hid ⟨hc0, hc1, hk0, hk1⟩
   have V0 := conv_f (hby.below (Below.refl _ wr).drew) en ec h7
   have V1 := conv_f (hby2.below (Below.refl _ wr).drew) en ec2 h7
   have hlt : (i : Int) < (m : Int) := by omega
   have d1 : (ep != ep) = false := by simp
   obtain ⟨S, hS⟩ : ∃ S, str (bs s) = S := ⟨_, rfl⟩
   rw [hS] at V0 V1
   have d2 : (S.toList != S.toList) = false := by simp
   clear h1 h2 h3 h4 h5 h6 h7 hpe hse hby hby2 hc0 hc1 hk0 hk1 hS
   go_wp2_with fail
   have HQ := Lib.hid HW.out.drew
   go_region_held (fun X => X.cell? ⟨b, off + i * 2, none⟩ = some (.int .i64 ep) ∧ X.cell? ⟨b, off + i * 2 + 1, none⟩ = some (.slice eA en ec) ∧ X.cell? ⟨b2, off2 + i * 2, none⟩ = some (.int .i64 ep) ∧ X.cell? ⟨b2, off2 + i * 2 + 1, none⟩ = some (.slice eA2 en ec2)) (with_reducible exact HSc.out) (fail)
   all_goals
    clear V0 V1
    go_wp2
    go_roundw
    case rel => exact ⟨i + 1, by omega, by go_num, HQ⟩
    case measure => simp [intOf]; omega
  ·obtain rfl : i = m := by omega
   go_wp2
   go_ret
   exact ⟨rfl, HW.out⟩
end Go.Proofs.YtjoghbmedfmioabGreat.Ms

namespace Go.Proofs.YtjoghbmedfmioabGreat.Ms
open Go.RowKit Go.Shelf F8 Poly GF Rd
attribute [local go_sem] Oper.semAt_some
attribute [-go_sem] Builtin.append_
def OsG (l : List El) (w : World) (e : Ending) (w' : World) : Prop :=
 ∃ A c E, e = .returned (.slice A l.length c) ∧ l.length ≤ c ∧ OwnK 2 w' w.heap.size 55 (.slice A l.length c) l.length (cells2 E) ∧ TE w.heap.size w' E ∧ shE E = shE l ∧ Below w.heap.size w w'
set_option maxRecDepth 100000 in
set_option maxHeartbeats 4000000 in
theorem ownS_calls (g : Nat) (A0 : Option Addr) (l : List El) (n c0 : Nat) (w : World) (hl : l.length = n) (hn : n ≤ 1000) (hE : Els g w A0 l) (hsz : ∀ e ∈ l, e.s.length ≤ 1000) :
  Calls Tryz.prog 10 #[.slice A0 n c0] w (OsG l w) := by
 have HE := Lib.hid hE
 have HL := Lib.hid hl
 have HSz := Lib.hid hsz
 clear hE hl hsz
 go_enter Tryz.func10, Tryz.ntmps10
 go_wp2
 go_loopw [3, 4] (fun ov iv wr => ∃ (i : Nat) (E : List El), i ≤ n ∧ iv = .int .i64 i ∧ Hid (OwnK 2 wr w.heap.size 55 ov i (cells2 E)) ∧ Hid (shE E = shE (l.take i)) ∧ Hid (TE w.heap.size wr E) ∧ Hid (Below w.heap.size w wr)) (fun _ iv _ => n - (intOf iv).toNat)
 case atStart => exact ⟨0, [], by omega, rfl, Lib.hid (OwnK.nil _ _ _ _), Lib.hid (by simp [shE]), Lib.hid (TE.nil _ _), Lib.hid (Below.refl _ _)⟩
 case round =>
  obtain ⟨i, E, hi, rfl, HOv, HP, HT, HW⟩ := hrel
  by_cases him : i < n
  ·have hti : i < l.length := by rw [HL.out]; exact him
   obtain ⟨b, off, rfl, hc0, hc1⟩ := (HE.out.below HW.out).at_ hti
   have HTk : Hid (shE (l.take (i + 1)) = shE (l.take i) ++ [((l[i]).p, (l[i]).s)]) := Lib.hid (by unfold shE; rw [take_succ' l hti, List.map_append]; rfl)
   have hmem : l[i] ∈ l := List.getElem_mem hti
   have hby := ((HE.out.below HW.out).lst _ hmem).1.by_
   have hfs := HSz.out _ hmem
   obtain ⟨e, he⟩ : ∃ e, l[i] = e := ⟨_, rfl⟩
   rw [he] at hc0 hc1 HTk hby hfs
   obtain ⟨ep, eA, es, ec⟩ := e
   obtain ⟨fl, hfl⟩ : ∃ a, es.length = a := ⟨_, rfl⟩
   replace hc0 : wr.cell? ⟨b, off + i * 2, none⟩ = some (.int .i64 ep) := hc0
   replace hc1 : wr.cell? ⟨b, off + i * 2 + 1, none⟩ = some (.slice eA es.length ec) := hc1
   replace hby : Bytes wr eA (bs es) := hby
   replace hfs : es.length ≤ 1000 := hfs
   replace HTk : Hid (shE (l.take (i + 1)) = shE (l.take i) ++ [(ep, es)]) := HTk
   rw [hfl] at hc1 hfs
   obtain ⟨X, hX⟩ : ∃ X, wr.drew = X := ⟨_, rfl⟩
   have hbX : Below wr.heap.size wr X := by rw [← hX]; exact (Below.refl _ _).drew
   have hzX : X.heap.size = wr.heap.size := by rw [← hX]; rfl
   have cv1 := conv_f (hby.below hbX) fl ec hfl
   have cv2 := Rd.conv_b es fl hfl X
   have hge := grownCap_ge X fl 0 5
   obtain ⟨cg, hcg⟩ : ∃ c, grownCap X fl 0 5 = c := ⟨_, rfl⟩
   rw [hcg] at cv2 hge
   have HBy := Lib.hid (Rd.bw_bytes X es)
   have HCv := Lib.hid (Conv.new X es hfl)
   have hbb := Rd.bw_below X es
   obtain ⟨wb, hwb⟩ : ∃ wb, Lib.bytesWorld X 5 (str (bs es)) = wb := ⟨_, rfl⟩
   have hwz : wb.heap.size = X.heap.size + 1 := by rw [← hwb]; exact Lib.bytesWorld_size _ _ _
   rw [hwb] at cv2 hbb
   rw [hwb] at HBy HCv
   have hx0 : X.cell? ⟨b, off + i * 2, none⟩ = some (.int .i64 ep) := by rw [← hX]; exact hc0
   have hx1 : X.cell? ⟨b, off + i * 2 + 1, none⟩ = some (.slice eA fl ec) := by rw [← hX]; exact hc1
   have hy0 : wb.cell? ⟨b, off + i * 2, none⟩ = some (.int .i64 ep) := (hbb.cell (cell_lt hx0)).trans hx0
   have hsz := HW.out.size
   have hzb := hbb.size
   have hbr : Below wr.heap.size wr wb := hbX.trans (hbb.mono (by omega))
   have HOb := Lib.hid ((HOv.out.below hbr).alloc (.cells #[.int .i64 ep, .slice (some ⟨X.heap.size, 0, none⟩) fl cg] 55))
   have HRw : Hid (Row (wb.alloc (.cells #[.int .i64 ep, .slice (some ⟨X.heap.size, 0, none⟩) fl cg] 55)) (some ⟨wb.heap.size, 0, none⟩) (cells2 [⟨ep, some ⟨X.heap.size, 0, none⟩, es, cg⟩])) := Lib.hid (by
    rw [← hfl]
    exact Row.new wb #[.int .i64 ep, .slice (some ⟨X.heap.size, 0, none⟩) es.length cg] 55 (0, 0))
   obtain ⟨v2, w3, hrun, hown, hg3, -⟩ := run_appK (P := Tryz.prog) (wb.alloc (.cells #[.int .i64 ep, .slice (some ⟨X.heap.size, 0, none⟩) fl cg] 55)) 2 w.heap.size 22 22 55 _ 32 Tryz.underlying22 info_sym rfl (by omega) _ i (cells2 E) HOb.out ⟨wb.heap.size, 0, none⟩ 1 1 _ rfl HRw.out (cells2_one _) (by omega) (by omega) (by rw [World.size_alloc]; omega)
   have hba : Below wr.heap.size wr (wb.alloc (.cells #[.int .i64 ep, .slice (some ⟨X.heap.size, 0, none⟩) fl cg] 55)) := hbr.alloc hbr.size _
   have HW3 : Hid (Below w.heap.size w w3) := Lib.hid ((HW.out.trans (hba.mono hsz)).trans (OwnK.grew HOb.out (Nat.le_trans hsz hba.size) hg3))
   have HT3 : Hid (TE w.heap.size w3 (E ++ [⟨ep, some ⟨X.heap.size, 0, none⟩, es, cg⟩])) := Lib.hid (by
    have h1 : TE w.heap.size wb (E ++ [⟨ep, some ⟨X.heap.size, 0, none⟩, es, cg⟩]) := HT.out.snoc rfl (by omega) (by omega) hbr (by omega) HBy.out (by show Conv wb X.heap.size es.length; rw [hfl]; exact HCv.out) (by show es.length ≤ cg; rw [hfl]; exact hge)
    exact (h1.below ((Below.refl _ _).alloc (Nat.le_refl _) _)).grown HOb.out hg3)
   have HP3 : Hid (shE (E ++ [(⟨ep, some ⟨X.heap.size, 0, none⟩, es, cg⟩ : El)]) = shE (l.take (i + 1))) := Lib.hid (by rw [HTk.out, ← HP.out]; simp [shE])
   rw [← cells2_append] at hown
   have HOw := Lib.hid hown
   clear hown hg3 hba hbr hby hmem he hcg hwb hbb hge hsz hzb hzX hwz hbX hc0 hc1 HOv HT HP HOb HRw
   go_wp2
   go_region
   all_goals
    clear hrun cv1 cv2 hx0 hx1 hy0
    go_wp2
    go_roundw
    case rel => exact ⟨i + 1, _, by omega, by go_num, HOw, HP3, HT3, HW3⟩
    case measure => simp [intOf]; omega
  ·obtain rfl : i = n := by omega
   obtain ⟨A9, c9, rfl, hc9, -⟩ := HOv.out.shape
   have ht : l.take i = l := List.take_of_length_le (by rw [HL.out]; exact Nat.le_refl _)
   rw [ht] at HP
   have HX : Hid (OsG l w (.returned (.slice A9 i c9)) wr) := Lib.hid ⟨A9, c9, E, by rw [HL.out], by rw [HL.out]; exact hc9, by rw [HL.out]; exact HOv.out, HT.out, HP.out, HW.out⟩
   clear ht HOv HT HP
   go_wp2
   go_ret
   exact HX.out
end Go.Proofs.YtjoghbmedfmioabGreat.Ms

namespace Go.Proofs.YtjoghbmedfmioabGreat
open Go.RowKit
section
variable {n : Int}
theorem wf_bounds_u8 (h : (Lit.int .u8 n).wf = true) : 0 ≤ n ∧ n ≤ 255 := by
 simp [Lit.wf, IntKind.min, IntKind.max, IntKind.signed, IntKind.bits] at h
 omega
theorem wf_bounds_u16 (h : (Lit.int .u16 n).wf = true) : 0 ≤ n ∧ n ≤ 65535 := by
 simp [Lit.wf, IntKind.min, IntKind.max, IntKind.signed, IntKind.bits] at h
 omega
theorem wf_bounds_u32 (h : (Lit.int .u32 n).wf = true) : 0 ≤ n ∧ n ≤ 4294967295 := by
 simp [Lit.wf, IntKind.min, IntKind.max, IntKind.signed, IntKind.bits] at h
 omega
theorem wf_bounds_u64 (h : (Lit.int .u64 n).wf = true) : 0 ≤ n ∧ n ≤ 18446744073709551615 := by
 simp [Lit.wf, IntKind.min, IntKind.max, IntKind.signed, IntKind.bits] at h
 omega
theorem wf_bounds_i8 (h : (Lit.int .i8 n).wf = true) : -128 ≤ n ∧ n < 128 := by
 simp [Lit.wf, IntKind.min, IntKind.max, IntKind.signed, IntKind.bits] at h
 omega
theorem wf_bounds_i16 (h : (Lit.int .i16 n).wf = true) : -32768 ≤ n ∧ n < 32768 := by
 simp [Lit.wf, IntKind.min, IntKind.max, IntKind.signed, IntKind.bits] at h
 omega
theorem wf_bounds_i32 (h : (Lit.int .i32 n).wf = true) : -2147483648 ≤ n ∧ n < 2147483648 := by
 simp [Lit.wf, IntKind.min, IntKind.max, IntKind.signed, IntKind.bits] at h
 omega
theorem wf_bounds_i64 (h : (Lit.int .i64 n).wf = true) : -9223372036854775808 ≤ n ∧ n < 9223372036854775808 := by
 simp [Lit.wf, IntKind.min, IntKind.max, IntKind.signed, IntKind.bits] at h
 omega
end
theorem bytes_of {W : World} {x : Addr} {len cap : Nat} {zs : List Int} (hl : len ≤ cap) (hz : zs.length = cap) (hcell : ∀ i, i < zs.length → W.cell? (x.add i) = some (.int .u8 (zs.getD i 0)))
  (hwz : ∀ n ∈ zs, (Lit.int .u8 n).wf = true) : Bytes W (some x) ((zs.take len).map Int.toNat) ∧ ((zs.take len).map Int.toNat).length = len := by
 have hw : ∀ n ∈ zs, 0 ≤ n ∧ n < 256 := fun n hn => by
  have := bounds_u8 (hwz n hn); omega
 have hlen : ((zs.take len).map Int.toNat).length = len := by rw [List.length_map, List.length_take]; omega
 refine ⟨⟨?_, ?_⟩, hlen⟩
 ·intro k u hu
  have hk : k < len := by have := (List.getElem?_eq_some_iff.1 hu).1; rw [bv_length, hlen] at this; exact this
  have hc := hcell k (by omega)
  have hs : (x.add k).spot = none := World.cell?_spot hc
  have hx : x.spot = none := by
   by_cases h0 : k = 0
   ·subst h0; simpa [Addr.add] using hs
   ·have h0 := hcell 0 (by omega); have := World.cell?_spot h0; simpa [Addr.add] using this
  obtain ⟨b, off, spot⟩ := x
  obtain rfl : spot = none := hx
  refine ⟨b, off, rfl, ?_⟩
  have e : (⟨b, off, none⟩ : Addr).add k = ⟨b, off + k, none⟩ := by unfold Addr.add; split <;> simp_all
  rw [e] at hc
  rw [hc]
  have hkz : k < zs.length := by omega
  simp only [bv, List.map_map, List.getElem?_map, List.getElem?_take, if_pos hk, List.getElem?_eq_getElem hkz, Option.map_some, Function.comp] at hu
  rw [← hu, List.getD_eq_getElem?_getD, List.getElem?_eq_getElem hkz]
  have := hw _ (List.getElem_mem hkz)
  simp [Int.toNat_of_nonneg this.1]
 ·intro c hc
  obtain ⟨n, hn, rfl⟩ := List.mem_map.1 hc
  have := hw n (List.mem_of_mem_take hn)
  omega
end Go.Proofs.YtjoghbmedfmioabGreat
