/- Of the program, joined: TrRefD, ElMath, KSome, ElTold, ElToldD, RefWrong9, ElHelp. -/
import Derived.Test.YtjoghbmedfmioabGreatPt12
import Derived.Test.YtjoghbmedfmioabGreatPt01
import Derived.Test.YtjoghbmedfmioabGreatPt09
import Derived.Test.YtjoghbmedfmioabGreatPt08
namespace Go.Proofs.YtjoghbmedfmioabGreat.Tr
open Go.RowKit Go.Shelf F8 Poly GF Rd Ms
attribute [local go_sem] Oper.semAt_some
theorem rows_vok {n s : Nat} {to : Int} {l : List El} : Lo.RowsOk (n : Int) to (s : Int) l ↔ Sy.VOk n s [to] (Sy.elsN l) := by
 unfold Lo.RowsOk Sy.VOk Sy.elsN
 rw [List.map_map]
 constructor
 ·rintro ⟨h1, h2⟩
  refine ⟨h2, fun o ho => ?_⟩
  obtain ⟨e, he, rfl⟩ := List.mem_map.1 ho
  have h3 := h1 e he
  exact ⟨⟨h3.1, h3.2.1⟩, by simpa using h3.2.2.1, by have := h3.2.2.2; show e.s.length = s; omega⟩
 ·rintro ⟨h2, h1⟩
  refine ⟨fun e he => ?_, h2⟩
  have h3 := h1 (e.p, e.s.length) (List.mem_map.2 ⟨e, he, rfl⟩)
  exact ⟨h3.1.1, h3.1.2, by simpa using h3.2.1, by have : e.s.length = s := h3.2.2; show ((e.s.length : Nat) : Int) = _; omega⟩
theorem rows_vok1 {n : Nat} {to : Int} {l : List El} : Lo.RowsOk (n : Int) to 1 l ↔ Sy.VOk n 1 [to] (Sy.elsN l) := by
 have h := rows_vok (n := n) (s := 1) (to := to) (l := l)
 exact h
theorem repL_succ (n : Nat) (l : List El) : repL (n + 1) l = repL n l ++ oneR l n := by unfold repL; rw [List.range_succ, List.flatMap_append]; simp
theorem oneR_le (l : List El) (j : Nat) : (oneR l j).length ≤ l.length := by unfold oneR; rw [List.length_map]; exact List.length_filter_le _ _
theorem repL_le (l : List El) : ∀ n, (repL n l).length ≤ n * l.length
 | 0 => by simp [repL]
 | n + 1 => by
  rw [repL_succ, List.length_append, Nat.succ_mul]
  have := repL_le l n
  have := oneR_le l n
  omega
theorem c2_grown {b : Nat} {n k : Int} {V V' : World} {row : Option Nat} (h : C2 b n k V) (hg : V.grownBy V' row) (hne : row ≠ some b) : C2 b n k V' := by
 have hlt : b < V.heap.size := cell_lt h.1
 have e := hg.block b hlt (fun e => hne e.symm)
 have hc : ∀ i : Nat, V'.cell? ⟨b, i, none⟩ = V.cell? ⟨b, i, none⟩ := fun i => by unfold World.cell?; simp only [e]
 exact ⟨(hc 0).trans h.1, (hc 1).trans h.2⟩
theorem own_c2 {w : World} {B b : Nat} {v : Value} {xs : List Nat} (h : Own w B 5 v (bv xs)) (hB : b < B) : v.ownBlock ≠ some b := fun e => by
 have := (h.lt b e).1
 omega
set_option maxRecDepth 100000 in
set_option maxHeartbeats 4000000 in
theorem refRep_bad {n : Nat} (k : Int) (to : Int) (A : Option Addr) (l : List El) (m c : Nat) (hl : l.length = m) (hm9 : m ≤ 1000) (w : World) (hr : Row w A (cells2 l)) (hno : ¬ RepOk n to l) :
  Calls Tryz.prog 12 #[.agg #[.int .i64 (n : Nat), .int .i64 k], .int .i64 to, .slice A m c] w fun e w' => e = .returned (.tuple #[.slice none 0 0, .int .i64 2]) ∧ Below w.heap.size w w' := by
 obtain ⟨w1, hw1⟩ : ∃ w1, w.alloc (.cells #[.int .i64 (n : Int), .int .i64 k] 33) = w1 := ⟨_, rfl⟩
 have hba : Below w.heap.size w w1 := by rw [← hw1]; exact (Below.refl _ _).alloc (Nat.le_refl _) _
 obtain ⟨c0, c1⟩ : C2 w.heap.size (n : Int) k w1 := by rw [← hw1]; exact C2.new w (n : Int) k
 have HBa := Lib.hid hba
 by_cases h1 : to < 0
 ·have f1 : decide (to < 0) = true := by simpa using h1
  clear hr hl hno hba
  go_enter Tryz.func12, Tryz.ntmps12
  go_wp2_with fail
  go_ret2
  exact ⟨rfl, HBa.out⟩
 by_cases h2 : (n : Int) ≤ to
 ·have f1 : decide (to < 0) = false := by simp; omega
  have f2 : decide (to ≥ (n : Int)) = true := by simp; omega
  clear hr hl hno hba
  go_enter Tryz.func12, Tryz.ntmps12
  go_wp2_with fail
  go_ret2
  exact ⟨rfl, HBa.out⟩
 have f1 : decide (to < 0) = false := by simp; omega
 have f2 : decide (to ≥ (n : Int)) = false := by simp; omega
 have hR := Lo.refRows_calls (n : Int) to 1 A l m c w1 hl (by omega) (hr.below hba)
 rw [decide_eq_false (fun h => hno ⟨by omega, rows_vok1.1 h⟩)] at hR
 have HR := Lib.hid hR
 clear hr hl hno hba hR h1 h2
 go_enter Tryz.func12, Tryz.ntmps12
 go_wp2_with (go_at_call 33; (with_reducible refine HR.out.mono ?_); rintro e w2 ⟨rfl, hb2⟩; have HB2 := Lib.hid (HBa.out.trans (hb2.mono HBa.out.size)); clear hb2)
 go_ret2
 exact ⟨rfl, HB2.out⟩
set_option maxRecDepth 100000 in
set_option maxHeartbeats 8000000 in
theorem refRep_ok {n : Nat} (k : Int) (hn : n < 24) (g : Nat) (to : Int) (A : Option Addr) (l : List El) (m c : Nat) (hl : l.length = m) (hm9 : m ≤ 1000) (w : World) (hE : Els g w A l) (hok : RepOk n to l) :
  Calls Tryz.prog 12 #[.agg #[.int .i64 (n : Nat), .int .i64 k], .int .i64 to, .slice A m c] w (RepR w (repV n to l) (repZ n to l)) := by
 obtain ⟨w1, hw1⟩ : ∃ w1, w.alloc (.cells #[.int .i64 (n : Int), .int .i64 k] 33) = w1 := ⟨_, rfl⟩
 have hba : Below w.heap.size w w1 := by rw [← hw1]; exact (Below.refl _ _).alloc (Nat.le_refl _) _
 have hc := C2.new w (n : Int) k
 rw [hw1] at hc
 have HC := Lib.hid hc
 obtain ⟨c0, c1⟩ := hc
 have HBa := Lib.hid hba
 have f1 : decide (to < 0) = false := by have := hok.1; simp; omega
 have f2 : decide (to ≥ (n : Int)) = false := by have := hok.1; simp; omega
 have hR := Lo.refRows_calls (n : Int) to 1 A l m c w1 hl (by omega) (hE.row.below hba)
 rw [decide_eq_true (rows_vok1.2 hok.2)] at hR
 have HR := Lib.hid hR
 have hn1 : 1 ≤ n := by have := hok.1; omega
 have hw2 : IntKind.i64.wrap ((n : Int) - 1) = (n : Int) - 1 := IntWalk.i64_in _ (by omega)
 have HOk := Lib.hid hok
 have HE := Lib.hid hE
 have HL := Lib.hid hl
 clear hE hok hba hR
 by_cases hm : m < n - 1
 ·have e1 : repV n to l = [] := if_neg fun h => by have := h.2; omega
  have e2 : repZ n to l = 70 := by unfold repZ; rw [if_pos HOk.out, if_neg (by omega)]
  rw [e1, e2]
  have f3 : decide ((m : Int) < (n : Int) - 1) = true := by simp; omega
  clear hl e1 e2
  go_enter Tryz.func12, Tryz.ntmps12
  go_wp2_with (go_at_call 33; (with_reducible refine HR.out.mono ?_); rintro e w2 ⟨rfl, hb2⟩; have HB2 := Lib.hid (HBa.out.trans (hb2.mono HBa.out.size)); obtain ⟨d0, d1⟩ := C2.below HC.out hb2; clear hb2)
  go_ret2
  exact ⟨none, 0, rfl, Nat.le_refl _, Own.nil _ _ _, HB2.out⟩
 ·have e1 : repV n to l = repL n l := if_pos ⟨HOk.out, by omega⟩
  have e2 : repZ n to l = 0 := by unfold repZ; rw [if_pos HOk.out, if_pos (by omega)]
  rw [e1, e2]
  have f3 : decide ((m : Int) < (n : Int) - 1) = false := by simp; omega
  clear hl e1 e2
  go_enter Tryz.func12, Tryz.ntmps12
  go_wp2_with (go_at_call 33; (with_reducible refine HR.out.mono ?_); rintro e w2 ⟨rfl, hb2⟩; have HB2 := Lib.hid (HBa.out.trans (hb2.mono HBa.out.size)); have HC2 := Lib.hid (C2.below HC.out hb2); obtain ⟨d0, d1⟩ := HC2.out; clear hb2)
  clear c0 c1 HR
  go_loopw [8, 9] (fun ov jv wr => ∃ j : Nat, j ≤ n ∧ jv = .int .i64 j ∧ Hid (Own wr (w.heap.size + 1) 5 ov (bv (bs (repL j l)))) ∧ Hid (Below w.heap.size w wr) ∧ Hid (C2 w.heap.size (n : Int) k wr)) (fun _ jv _ => n - (intOf jv).toNat)
  case atStart => exact ⟨0, by omega, rfl, Lib.hid (Own.nil _ _ _), HB2, HC2⟩
  case round =>
   clear d0 d1
   obtain ⟨j, hj, rfl, HO, HW, HCr⟩ := hrel
   obtain ⟨d0, d1⟩ := HCr.out
   by_cases hjn : j < n
   ·have hjn2 : (j : Int) < (n : Int) := by omega
    go_wp2_with fail
    go_loopw [8, 10] (fun ov iv wr => ∃ i : Nat, i ≤ m ∧ iv = .int .i64 i ∧ Hid (Own wr (w.heap.size + 1) 5 ov (bv (bs (repL j l ++ oneR (l.take i) j)))) ∧ Hid (Below w.heap.size w wr) ∧ Hid (C2 w.heap.size (n : Int) k wr)) (fun _ iv _ => m - (intOf iv).toNat)
    case atStart => exact ⟨0, by omega, rfl, Lib.hid (by simpa [oneR] using HO.out), HW, HCr⟩
    case round =>
     clear d0 d1 HO HW HCr
     obtain ⟨i, hi, rfl, HO, HW, HCr⟩ := hrel
     by_cases him : i < m
     ·have hil : i < l.length := by rw [HL.out]; exact him
      obtain ⟨b, off, rfl, q0, q1⟩ := row2_at (HE.out.below HW.out).row hil
      have hby := ((HE.out.below HW.out).lst _ (List.getElem_mem hil)).1.by_
      have hone : (l[i]).s.length = 1 := (HOk.out.2.2 ((l[i]).p, (l[i]).s.length) (List.mem_map.2 ⟨l[i], List.getElem_mem hil, rfl⟩)).2.2
      have htk : l.take (i + 1) = l.take i ++ [l[i]] := take_succ' l hil
      have hsn := oneR_snoc (l.take i) l[i] j
      rw [← htk] at hsn
      obtain ⟨b2, o2, hA2⟩ := where_ hby (by omega)
      have q2 := cellAt (hA2 ▸ hby) 0 (by omega)
      obtain ⟨y, hy⟩ : ∃ y, coef (l[i]).s 0 = y := ⟨_, rfl⟩
      rw [hA2, hone] at q1
      rw [hy] at q2 hsn
      replace q2 : wr.cell? ⟨b2, o2, none⟩ = some (.int .u8 (y.n : Nat)) := q2
      obtain ⟨ep, hep⟩ : ∃ p, (l[i]).p = p := ⟨_, rfl⟩
      obtain ⟨ec, hec⟩ : ∃ p, (l[i]).c = p := ⟨_, rfl⟩
      rw [hep] at q0 hsn
      rw [hec] at q1
      have him2 : (i : Int) < (m : Int) := by omega
      have HLe : Hid ((bv (bs (repL j l ++ oneR (l.take i) j))).length ≤ 100000) := Lib.hid (by
       rw [bvs_length, List.length_append]
       have h1 := repL_le l j
       have h2 := oneR_le (l.take i) j
       have h3 : j * l.length ≤ 24 * 1000 := Nat.mul_le_mul (by omega) (by rw [HL.out]; exact hm9)
       rw [List.length_take] at h2
       omega)
      have hsz := HW.out.size
      have hszc : w.heap.size < wr.heap.size := cell_lt HCr.out.1
      clear hby hone htk hA2 hy hep hec hil
      by_cases hpj : ep = (j : Int)
      ·rw [if_pos hpj] at hsn
       have HT : Hid (bv (bs (repL j l ++ oneR (l.take i) j)) ++ bv [y.n] = bv (bs (repL j l ++ oneR (l.take (i + 1)) j))) := Lib.hid (by rw [hsn, ← List.append_assoc, bvs_snoc])
       have f4 : (ep == (j : Int)) = true := by simpa using hpj
       clear hsn hpj
       go_wp2_with (at_builtin; refine wpList_app _ rfl _ _ _ rfl (w.heap.size + 1) 5 _ 1 Tryz.underlying35 info_u8 rfl (by omega) _ _ rfl (HO.out.alloc _) (some ⟨wr.heap.size, 0, none⟩) 1 1 (bv [y.n]) rfl rfl (Row.new _ _ _ _) (bv_one _) (by have := HLe.out; simp; omega) (by simp; omega) ?_; rintro v2 w3 hown hg3 -)
       rw [HT.out] at hown
       have HO3 := Lib.hid hown
       have hgr := ((HO.out.alloc (.cells #[.int .u8 (y.n : Int)] 5)).grew (by simp; omega) hg3)
       have HW3 := Lib.hid ((HW.out.alloc hsz (.cells #[.int .u8 (y.n : Int)] 5)).trans (hgr.mono (Nat.le_succ _)))
       have HC3 : Hid (C2 w.heap.size (n : Int) k w3) := Lib.hid (by
        have h1 := C2.below HCr.out ((Below.refl _ wr).alloc (Nat.le_refl _) (.cells #[.int .u8 (y.n : Int)] 5))
        have hne : Value.ownBlock _ ≠ some w.heap.size := own_c2 (HO.out.alloc (.cells #[.int .u8 (y.n : Int)] 5)) (Nat.lt_succ_self _)
        exact c2_grown h1 hg3 hne)
       clear hown hg3 hgr
       go_roundw
       case rel => exact ⟨i + 1, by omega, by go_num, HO3, HW3, HC3⟩
       case measure => first | (simp [intOf]; done) | (simp [intOf]; omega)
      ·rw [if_neg hpj, List.append_nil] at hsn
       have HO3 : Hid (Own wr (w.heap.size + 1) 5 u8 (bv (bs (repL j l ++ oneR (l.take (i + 1)) j)))) := Lib.hid (by rw [hsn]; exact HO.out)
       have f4 : (ep == (j : Int)) = false := by simpa using hpj
       clear hsn hpj
       go_wp2_with fail
       go_roundw
       case rel => exact ⟨i + 1, by omega, by go_num, HO3, HW, HCr⟩
       case measure => first | (simp [intOf]; done) | (simp [intOf]; omega)
     ·have hie : i = m := by omega
      have HO3 : Hid (Own wr (w.heap.size + 1) 5 u8 (bv (bs (repL (j + 1) l)))) := Lib.hid (by
       have := HO.out
       rwa [List.take_of_length_le (by rw [HL.out]; omega), ← repL_succ] at this)
      have him2 : ¬ ((i : Int) < (m : Int)) := by omega
      obtain ⟨d0, d1⟩ := HCr.out
      clear HO hie
      go_wp2_with fail
      go_roundw
      case rel => exact ⟨j + 1, by omega, by go_num, HO3, HW, HCr⟩
      case measure => first | (simp [intOf]; done) | (simp [intOf]; omega)
   ·obtain rfl : j = n := by omega
    obtain ⟨A3, c3, rfl, hc3⟩ := Own.shape HO.out
    have HX : Hid (RepR w (repL j l) 0 (.returned (.tuple #[.slice A3 (repL j l).length c3, .int .i64 0])) wr) := Lib.hid ⟨A3, c3, rfl, hc3, HO.out.more (Nat.le_succ _), HW.out⟩
    obtain ⟨q, hq⟩ : ∃ q, (repL j l).length = q := ⟨_, rfl⟩
    rw [hq] at HX ⊢
    have hjn2 : ¬ ((j : Int) < (j : Int)) := by omega
    clear hq hc3 HO HW
    go_wp2_with fail
    go_ret2
    exact HX.out
theorem refRepU {n : Nat} (k : Int) (hn : n < 24) (g : Nat) (to : Int) (A : Option Addr) (l : List El) (m c : Nat) (hl : l.length = m) (hm9 : m ≤ 1000) (w : World) (hE : Els g w A l) :
  Calls Tryz.prog 12 #[.agg #[.int .i64 (n : Nat), .int .i64 k], .int .i64 to, .slice A m c] w (RepR w (repV n to l) (repZ n to l)) := by
 by_cases hok : RepOk n to l
 ·exact refRep_ok k hn g to A l m c hl hm9 w hE hok
 ·have e1 : repV n to l = [] := if_neg fun h => hok h.1
  have e2 : repZ n to l = 2 := if_neg hok
  rw [e1, e2]
  refine (refRep_bad k to A l m c hl hm9 w hE.row hok).mono ?_
  rintro e w' ⟨rfl, hb⟩
  exact ⟨none, 0, rfl, Nat.le_refl _, Own.nil _ _ _, hb⟩
end Go.Proofs.YtjoghbmedfmioabGreat.Tr

namespace Go.Proofs.YtjoghbmedfmioabGreat.Ms
open F8
def wrongs (n : Nat) (S : Nat → List F8) (sh : List (Int × List F8)) : List Int := ((List.range n).filter fun j : Nat => sh.any fun o => decide (o.1 = (j : Int) ∧ o.2 ≠ S j)).map fun j : Nat => (j : Int)
def offB (S : Nat → List F8) (j : Nat) (o : Int × List F8) : Bool := decide (o.1 = (j : Int) ∧ o.2 ≠ S j)
def oth (S : Nat → List F8) (sh : List (Int × List F8)) (j : Nat) : List Int := wrongs j S sh
def oneO (S : Nat → List F8) (sh : List (Int × List F8)) (j i : Nat) : List Int := if (sh.take i).any (offB S j) then [(j : Int)] else []
theorem oth_succ (S : Nat → List F8) (sh : List (Int × List F8)) (j : Nat) : oth S sh (j + 1) = oth S sh j ++ oneO S sh j sh.length := by
 unfold oth oneO wrongs
 rw [List.range_succ, List.filter_append, List.map_append, List.take_length]
 congr 1
 by_cases h : sh.any (offB S j) = true
 ·have e : ([j].filter fun j : Nat => sh.any fun o => decide (o.1 = (j : Int) ∧ o.2 ≠ S j)) = [j] := List.filter_cons_of_pos h
  rw [if_pos h, e]
  rfl
 ·have e : ([j].filter fun j : Nat => sh.any fun o => decide (o.1 = (j : Int) ∧ o.2 ≠ S j)) = [] := List.filter_cons_of_neg h
  rw [if_neg h, e]
  rfl
theorem oneO_zero (S : Nat → List F8) (sh : List (Int × List F8)) (j : Nat) : oneO S sh j 0 = [] := rfl
theorem oneO_skip {S : Nat → List F8} {sh : List (Int × List F8)} {j i : Nat} (hi : i < sh.length) (h : offB S j sh[i] = false) : oneO S sh j (i + 1) = oneO S sh j i := by
 unfold oneO
 have e : (sh.take (i + 1)).any (offB S j) = (sh.take i).any (offB S j) := by
  rw [List.take_add_one, List.getElem?_eq_getElem hi, List.any_append]
  show ((sh.take i).any (offB S j) || (offB S j sh[i] || false)) = _
  rw [h]
  simp
 rw [e]
theorem oneO_hit {S : Nat → List F8} {sh : List (Int × List F8)} {j i : Nat} (hn : (sh.map Prod.fst).Nodup) (hi : i < sh.length) (h : offB S j sh[i] = true) : oneO S sh j i = [] ∧ oneO S sh j (i + 1) = [(j : Int)] := by
 have h1 : (sh[i]).1 = (j : Int) := (of_decide_eq_true h).1
 constructor
 ·unfold oneO
  refine if_neg fun hany => ?_
  obtain ⟨o, ho, hoj⟩ := List.any_eq_true.1 hany
  have h2 : o.1 = (j : Int) := (of_decide_eq_true hoj).1
  obtain ⟨q, hq, rfl⟩ := List.getElem_of_mem ho
  rw [List.length_take] at hq
  rw [List.getElem_take] at h2
  have hnd := List.pairwise_iff_getElem.1 hn q i (by simp; omega) (by simpa using hi) (by omega)
  simp only [List.getElem_map] at hnd
  exact hnd (by rw [h1, h2])
 ·unfold oneO
  refine if_pos ?_
  rw [List.take_add_one, List.getElem?_eq_getElem hi, List.any_append]
  show ((sh.take i).any (offB S j) || (offB S j sh[i] || false)) = _
  rw [h]
  simp
end Go.Proofs.YtjoghbmedfmioabGreat.Ms

namespace Go.Proofs.YtjoghbmedfmioabGreat.Ms
open Go.RowKit Go.Shelf F8 Poly GF Rd
attribute [local go_sem] Oper.semAt_some
theorem info_sym : (Tryz.prog.info? 55).map (fun i => (i.zero, i.size, i.bytes)) = some (some (.agg #[.int .i64 0, .slice none 0 0]), 2, 32) := by kernel_rfl
structure TE (B : Nat) (V : World) (E : List El) : Prop where
 own : ∀ e ∈ E, ∃ b, e.A = some ⟨b, 0, none⟩ ∧ B ≤ b ∧ b < V.heap.size ∧ Bytes V e.A (bs e.s) ∧ Conv V b e.s.length ∧ e.s.length ≤ e.c
 sep : (E.map El.A).Nodup
theorem TE.nil (B : Nat) (V : World) : TE B V [] := ⟨fun _ h => by simp at h, List.nodup_nil⟩
section
variable {B : Nat} {V V' : World} {E : List El}
theorem TE.below (h : TE B V E) (hb : Below V.heap.size V V') : TE B V' E := ⟨fun e he => by
 obtain ⟨b, e1, h1, h2, h3, h4, h5⟩ := h.own e he
 have := hb.size
 exact ⟨b, e1, h1, by omega, h3.below hb, h4.below hb, h5⟩, h.sep⟩
theorem TE.grown {n : Nat} {v : Value} {xs : List Value} {B2 : Nat} (h : TE B V E) (ho : OwnK 2 V B2 55 v n xs) (hg : V.grownBy V' v.ownBlock) : TE B V' E := ⟨fun e he => by
 obtain ⟨b, e1, h1, h2, h3, ⟨cs, hc1, hc2, hc3⟩, h5⟩ := h.own e he
 have hne : v.ownBlock ≠ some b := fun hv => by
  rcases ho.2 with ⟨rfl, -⟩ | ⟨g, cap, cur, rfl, -, hh, -⟩
  ·simp [Value.ownBlock] at hv
  ·simp only [Value.ownBlock, Option.some.injEq] at hv
   subst hv
   rw [hc1] at hh
   injection hh with hh
   injection hh with _ hh
   exact absurd hh (by decide)
 have hk := hg.5 b h2 (Ne.symm hne)
 refine ⟨b, e1, h1, Nat.lt_of_lt_of_le h2 hg.4, ⟨?_, h3.lt⟩, ⟨cs, hk.trans hc1, hc2, hc3⟩, h5⟩
 intro j u hu
 obtain ⟨b', off, e2, hc⟩ := h3.row j u hu
 refine ⟨b', off, e2, ?_⟩
 rw [e1] at e2
 cases e2
 simp only [World.cell?] at hc ⊢
 rw [hk]
 exact hc, h.sep⟩
theorem TE.snoc (h : TE B V E) {e : El} {b : Nat} (e1 : e.A = some ⟨b, 0, none⟩) (h1 : B ≤ b) (h2 : V.heap.size ≤ b) (hb : Below V.heap.size V V') (h3 : b < V'.heap.size) (h4 : Bytes V' e.A (bs e.s)) (h5 : Conv V' b e.s.length) (h6 : e.s.length ≤ e.c) : TE B V' (E ++ [e]) := by
 have hh := h.below hb
 refine ⟨fun f hf => ?_, by
  rw [List.map_append, List.nodup_append]
  refine ⟨h.sep, by simp, fun x hx y hy => ?_⟩
  obtain ⟨f, hf, rfl⟩ := List.mem_map.1 hx
  obtain rfl := List.mem_singleton.1 hy
  obtain ⟨b', e2, -, h2', -⟩ := h.own f hf
  rw [e1, e2]
  intro hh
  injection hh with hh
  injection hh with hh
  omega⟩
 ·rcases List.mem_append.1 hf with hf | hf
  ·exact hh.own f hf
  ·obtain rfl := List.mem_singleton.1 hf
   exact ⟨b, e1, h1, h3, h4, h5, h6⟩
end
end Go.Proofs.YtjoghbmedfmioabGreat.Ms

namespace Go.Proofs.YtjoghbmedfmioabGreat.Ms
open Go.RowKit Go.Shelf F8 Poly GF Rd
attribute [local go_sem] Oper.semAt_some
def shF (l : List El) (j : Nat) : List F8 := ((l[j]?).map El.s).getD []
end Go.Proofs.YtjoghbmedfmioabGreat.Ms

namespace Go.Proofs.YtjoghbmedfmioabGreat.Ms
open Go.RowKit Go.Shelf F8 Poly GF Rd
attribute [local go_sem] Oper.semAt_some
attribute [-go_sem] Builtin.append_
set_option maxRecDepth 100000 in
set_option maxHeartbeats 16000000 in
theorem refWrong9_calls (g : Nat) (A0 : Option Addr) (l : List El) (n c0 : Nat) (A : Option Addr) (E2 : List El) (i c : Nat) (w : World) (hl : l.length = n) (hn : n ≤ 300) (hS : Shs g w A0 l) (hE : E2.length = i) (hi : i ≤ 1000) (hEl : Els g w A E2) (hnd : (E2.map El.p).Nodup) :
  Calls Tryz.prog 42 #[.slice A0 n c0, .slice A i c] w fun e w' => ∃ P pn cp, e = .returned (.slice P pn cp) ∧ (wrongs n (shF l) (shE E2)).length = pn ∧ pn ≤ cp ∧ Own w' w.heap.size 3 (.slice P pn cp) (zs (wrongs n (shF l) (shE E2))) ∧ Below w.heap.size w w' := by
 have HL := Lib.hid hl
 have HS := Lib.hid hS
 have HEi := Lib.hid hE
 have HEls := Lib.hid hEl
 have HNd := Lib.hid hnd
 clear hl hS hE hEl hnd
 go_enter Tryz.func42, Tryz.ntmps42
 go_wp2_with fail
 go_loopw [5, 6] (fun ov jv wr => ∃ (q : Nat) (P : Option Addr) (cp : Nat), q ≤ n ∧ jv = .int .i64 q ∧ ov = .slice P (oth (shF l) (shE E2) q).length cp ∧ Hid (Own wr w.heap.size 3 ov (zs (oth (shF l) (shE E2) q))) ∧ Hid (Below w.heap.size w wr)) (fun _ jv _ => n - (intOf jv).toNat)
 case atStart => exact ⟨0, none, 0, by omega, rfl, rfl, Lib.hid (Own.nil _ _ _), Lib.hid (Below.refl _ _)⟩
 case round =>
  obtain ⟨q, P, cp, hq, rfl, rfl, HOt, HW7⟩ := hrel
  have hE2 : E2.length = i := HEi.out
  by_cases hqn : q < n
  ·have hqd : decide (q < n) = true := by simpa using hqn
   have hqd2 : decide ((q : Int) < (n : Int)) = true := by simp; omega
   go_wp2_with fail
   go_loopw [5, 7] (fun ov iv wr => ∃ (x : Nat) (P : Option Addr) (cp : Nat), x ≤ i ∧ iv = .int .i64 x ∧ ov = .slice P (oth (shF l) (shE E2) q ++ oneO (shF l) (shE E2) q x).length cp ∧ Hid (Own wr w.heap.size 3 ov (zs (oth (shF l) (shE E2) q ++ oneO (shF l) (shE E2) q x))) ∧ Hid (Below w.heap.size w wr)) (fun _ iv _ => i - (intOf iv).toNat)
   case atStart => exact ⟨0, P, cp, by omega, rfl, by rw [oneO_zero, List.append_nil], by rw [oneO_zero, List.append_nil]; exact HOt, HW7⟩
   case round =>
    clear HOt HW7
    obtain ⟨x, P2, cp2, hx, rfl, rfl, HO8, HW8⟩ := hrel
    by_cases hxi : x < i
    ·have hxl : x < E2.length := by rw [hE2]; exact hxi
     have hT8 := HEls.out.below HW8.out
     have hS8 := HS.out.below HW8.out
     obtain ⟨b9, o9, hA9, hc0, hc1⟩ := row2_at hT8.row hxl
     subst hA9
     have hby1 := (hT8.lst _ (List.getElem_mem hxl)).1.by_
     have hoff : offB (shF l) q ((shE E2)[x]'(by rw [shE_length]; exact hxl)) = decide ((E2[x]).p = (q : Int) ∧ (E2[x]).s ≠ shF l q) := by unfold offB; simp [shE]
     have hnd : ((shE E2).map Prod.fst).Nodup := by
      have e1 : (shE E2).map Prod.fst = E2.map El.p := by simp [shE]
      rw [e1]
      exact HNd.out
     have hskip := oneO_skip (S := shF l) (j := q) (i := x) (sh := shE E2) (by rw [shE_length]; exact hxl)
     have hhit := oneO_hit (S := shF l) (j := q) (i := x) (sh := shE E2) hnd (by rw [shE_length]; exact hxl)
     rw [hoff] at hskip hhit
     have hql : q < l.length := by rw [HL.out]; exact hqn
     have hsq : shF l q = (l[q]).s := by unfold shF; rw [List.getElem?_eq_getElem hql]; rfl
     obtain ⟨b0, o0, hA0, hc2⟩ := cells1_at hS8.row hql
     subst hA0
     have hby2 := (hS8.lst _ (List.getElem_mem hql)).1.by_
     rw [hsq] at hskip hhit
     obtain ⟨f, hf⟩ : ∃ f, l[q] = f := ⟨_, rfl⟩
     rw [hf] at hc2 hby2 hskip hhit
     obtain ⟨e, he⟩ : ∃ e, E2[x] = e := ⟨_, rfl⟩
     rw [he] at hc0 hc1 hby1 hskip hhit
     obtain ⟨ep, eA, es, ec⟩ := e
     obtain ⟨fp, fA, fs, fc⟩ := f
     obtain ⟨en, hen⟩ : ∃ en, es.length = en := ⟨_, rfl⟩
     obtain ⟨fn, hfn⟩ : ∃ fn, fs.length = fn := ⟨_, rfl⟩
     replace hc0 : wr.cell? ⟨b9, o9 + x * 2, none⟩ = some (.int .i64 ep) := hc0
     replace hc1 : wr.cell? ⟨b9, o9 + x * 2 + 1, none⟩ = some (.slice eA en ec) := by rw [← hen]; exact hc1
     replace hc2 : wr.cell? ⟨b0, o0 + q, none⟩ = some (.slice fA fn fc) := by rw [← hfn]; exact hc2
     replace hby1 : Bytes wr eA (bs es) := hby1
     replace hby2 : Bytes wr fA (bs fs) := hby2
     have HV0 : Hid (wr.drew.cell? ⟨b9, o9 + x * 2, none⟩ = some (.int .i64 ep) ∧ wr.drew.cell? ⟨b9, o9 + x * 2 + 1, none⟩ = some (.slice eA en ec) ∧ wr.drew.cell? ⟨b0, o0 + q, none⟩ = some (.slice fA fn fc) ∧ (convert 35 9 (.slice eA en ec)).run Tryz.prog wr.drew = .ok (.string (str (bs es))) wr.drew ∧ (convert 35 9 (.slice fA fn fc)).run Tryz.prog wr.drew = .ok (.string (str (bs fs))) wr.drew) := Lib.hid ⟨hc0, hc1, hc2, conv_f hby1.drew en ec hen, conv_f hby2.drew fn fc hfn⟩
     have hskip' : decide (ep = (q : Int) ∧ es ≠ fs) = false → oneO (shF l) (shE E2) q (x + 1) = oneO (shF l) (shE E2) q x := hskip
     have hhit' : decide (ep = (q : Int) ∧ es ≠ fs) = true → oneO (shF l) (shE E2) q x = [] ∧ oneO (shF l) (shE E2) q (x + 1) = [(q : Int)] := hhit
     have HE : Hid (((str (bs es)).toList == (str (bs fs)).toList) = decide (es = fs)) := Lib.hid (by
      rw [Bool.eq_iff_iff, beq_iff_eq, decide_eq_true_iff, ByteArray.toList_eq, ByteArray.toList_eq, str_data, str_data]
      constructor
      ·intro h
       refine bs_inj.1 (str_inj (bs_lt es) (bs_lt fs) ?_)
       unfold str; rw [h]
      ·intro h; rw [h])
     have hs7 := HW8.out.size
     have hxi2 : (x : Int) < (i : Int) := by omega
     clear hT8 hS8 hoff hnd hskip hhit hsq hby1 hby2 hen hfn he hf hql hE2
     clear hc0 hc1 hc2
     have hcase : (ep = (q : Int) ∧ es ≠ fs) ∨ (ep = (q : Int) ∧ es = fs) ∨ ¬ ep = (q : Int) := by
      by_cases h1 : ep = (q : Int)
      ·by_cases h2 : es = fs
       ·exact .inr (.inl ⟨h1, h2⟩)
       ·exact .inl ⟨h1, h2⟩
      ·exact .inr (.inr h1)
     rcases hcase with ⟨hnode, hsame⟩ | ⟨hnode, hsame⟩ | hnode
     ·have hE1 := HE.out
      rw [decide_eq_false hsame] at hE1
      have hE2 : ((str (bs es)).toList != (str (bs fs)).toList) = true := by rw [bne, hE1]; rfl
      have hn1 : (ep == (q : Int)) = true := by simpa using hnode
      obtain ⟨ho1, ho2⟩ := hhit' (decide_eq_true ⟨hnode, hsame⟩)
      have hOx := HO8.out
      rw [ho1, List.append_nil] at hOx ⊢
      have HE2 : Hid (zs (oth (shF l) (shE E2) q) ++ zs [(q : Int)] = zs (oth (shF l) (shE E2) q ++ oneO (shF l) (shE E2) q (x + 1))) := Lib.hid (by rw [ho2, ← zs_append])
      obtain ⟨N, hN⟩ : ∃ N, (oth (shF l) (shE E2) q).length = N := ⟨_, rfl⟩
      have HNl : Hid ((zs (oth (shF l) (shE E2) q)).length = N) := Lib.hid (by rw [zs_length, hN])
      have hN9 : N ≤ 300 := by
       rw [← hN]
       unfold oth wrongs
       rw [List.length_map]
       have := List.length_filter_le (fun j : Nat => (shE E2).any fun o => decide (o.1 = (j : Int) ∧ o.2 ≠ shF l j)) (List.range q)
       rw [List.length_range] at this
       omega
      rw [hN] at hOx ⊢
      have HOx := Lib.hid hOx
      clear hhit' hskip' hnode hsame ho1 ho2 hOx HO8 HE hN
      go_wp2_with fail
      go_region_held (fun V => V.cell? ⟨b9, o9 + x * 2, none⟩ = some (.int .i64 ep) ∧ V.cell? ⟨b9, o9 + x * 2 + 1, none⟩ = some (.slice eA en ec) ∧ V.cell? ⟨b0, o0 + q, none⟩ = some (.slice fA fn fc) ∧ (convert 35 9 (.slice eA en ec)).run Tryz.prog V = .ok (.string (str (bs es))) V ∧ (convert 35 9 (.slice fA fn fc)).run Tryz.prog V = .ok (.string (str (bs fs))) V) (with_reducible exact HV0.out) (fail)
      all_goals
       have HO9 := Lib.hid HOx.out.drew
       have HW9 := Lib.hid HW8.out.drew
       obtain ⟨w9, hw9⟩ : ∃ w9, wr.drew = w9 := ⟨_, rfl⟩
       rw [hw9] at HO9 HW9 ⊢
       have hz9 : w.heap.size ≤ w9.heap.size := HW9.out.size
       clear hw9
       have hK : OwnK 1 (w9.alloc (.cells #[.int .i64 (q : Int)] 3)) w.heap.size 3 (.slice P2 N cp2) N (zs (oth (shF l) (shE E2) q)) := by
        have := HO9.out.alloc (.cells #[.int .i64 (q : Int)] 3)
        unfold Own at this
        rw [HNl.out] at this
        exact this
       obtain ⟨v2, w10, hrun, hown, hg10, -⟩ := run_appK (P := Tryz.prog) (w9.alloc (.cells #[.int .i64 (q : Int)] 3)) 1 w.heap.size 51 51 3 _ 8 Tryz.underlying51 info_i rfl (by omega) _ N _ hK ⟨w9.heap.size, 0, none⟩ 1 1 (zs [(q : Int)]) rfl (Row.new _ _ _ _) (zs_one _) (by omega) (by omega) (by rw [World.size_alloc]; omega)
       have hB10 := (HW9.out.alloc hz9 (.cells #[.int .i64 (q : Int)] 3)).trans (hK.grew (by rw [World.size_alloc]; omega) hg10)
       rw [HE2.out] at hown
       have hown := (own1_of hown).1
       obtain ⟨P3, cp3, rfl, -, -⟩ := hown.form
       have HO10 := Lib.hid hown
       have HW10 := Lib.hid hB10
       rw [zs_length] at hrun HO10
       obtain ⟨N2, hN2⟩ : ∃ N2, (oth (shF l) (shE E2) q ++ oneO (shF l) (shE E2) q (x + 1)).length = N2 := ⟨_, rfl⟩
       rw [hN2] at hrun HO10
       have HN2 := Lib.hid hN2
       clear hN2
       clear hown hg10 hB10 hK
       go_wp2
       go_roundw
       case rel => exact ⟨x + 1, P3, cp3, by omega, by go_num, by rw [HN2.out], HO10, HW10⟩
       case measure => first | (simp [intOf]; done) | (simp [intOf]; omega)
     ·have hE1 := HE.out
      rw [decide_eq_true hsame] at hE1
      have hE2 : ((str (bs es)).toList != (str (bs fs)).toList) = false := by rw [bne, hE1]; rfl
      have hn1 : (ep == (q : Int)) = true := by simpa using hnode
      have HEq := Lib.hid (hskip' (decide_eq_false fun h => h.2 hsame))
      have HO9 := Lib.hid HO8.out.drew
      have HW9 := Lib.hid HW8.out.drew
      obtain ⟨N, hN⟩ : ∃ N, (oth (shF l) (shE E2) q ++ oneO (shF l) (shE E2) q x).length = N := ⟨_, rfl⟩
      rw [hN] at HO9 ⊢
      have HN := Lib.hid hN
      clear hhit' hskip' hnode hsame HO8 HE hN
      go_wp2_with fail
      go_region_held (fun V => V.cell? ⟨b9, o9 + x * 2, none⟩ = some (.int .i64 ep) ∧ V.cell? ⟨b9, o9 + x * 2 + 1, none⟩ = some (.slice eA en ec) ∧ V.cell? ⟨b0, o0 + q, none⟩ = some (.slice fA fn fc) ∧ (convert 35 9 (.slice eA en ec)).run Tryz.prog V = .ok (.string (str (bs es))) V ∧ (convert 35 9 (.slice fA fn fc)).run Tryz.prog V = .ok (.string (str (bs fs))) V) (with_reducible exact HV0.out) (fail)
      all_goals
       obtain ⟨w9, hw9⟩ : ∃ w9, wr.drew = w9 := ⟨_, rfl⟩
       rw [hw9] at HO9 HW9 ⊢
       clear hw9
       go_wp2
       go_roundw
       case rel => exact ⟨x + 1, P2, cp2, by omega, by go_num, by rw [HEq.out, HN.out], by rw [HEq.out]; exact HO9, HW9⟩
       case measure => first | (simp [intOf]; done) | (simp [intOf]; omega)
     ·have hn1 : (ep == (q : Int)) = false := by simpa using hnode
      have hn2 : decide (ep = (q : Int)) = false := by simpa using hnode
      have HEq := Lib.hid (hskip' (decide_eq_false fun h => hnode h.1))
      have HO9 := Lib.hid HO8.out.drew
      have HW9 := Lib.hid HW8.out.drew
      obtain ⟨N, hN⟩ : ∃ N, (oth (shF l) (shE E2) q ++ oneO (shF l) (shE E2) q x).length = N := ⟨_, rfl⟩
      rw [hN] at HO9 ⊢
      have HN := Lib.hid hN
      clear hhit' hskip' hnode HO8 HE hN
      go_wp2_with fail
      obtain ⟨hv0, -, -, -, -⟩ := HV0.out
      go_region
      all_goals
       obtain ⟨w9, hw9⟩ : ∃ w9, wr.drew = w9 := ⟨_, rfl⟩
       rw [hw9] at HO9 HW9 ⊢
       clear hw9
       go_wp2
       go_roundw
       case rel => exact ⟨x + 1, P2, cp2, by omega, by go_num, by rw [HEq.out, HN.out], by rw [HEq.out]; exact HO9, HW9⟩
       case measure => first | (simp [intOf]; done) | (simp [intOf]; omega)
    ·have hxe : x = i := by omega
     have HOn : Hid (oth (shF l) (shE E2) q ++ oneO (shF l) (shE E2) q x = oth (shF l) (shE E2) (q + 1)) := Lib.hid (by rw [oth_succ, shE_length, hE2, hxe])
     have HO9 := HO8.out
     rw [HOn.out] at HO9 ⊢
     have HO9 := Lib.hid HO9
     have hxi2 : ¬ ((x : Int) < (i : Int)) := by omega
     clear HO8 hE2 hxe
     go_wp2_with fail
     go_roundw
     case rel => exact ⟨q + 1, P2, cp2, by omega, by go_num, rfl, HO9, HW8⟩
     case measure => first | (simp [intOf]; done) | (simp [intOf]; omega)
  ·have hqe : q = n := by omega
   have hO := HOt.out
   rw [hqe] at hO ⊢
   have hcp := own_cap2 (n := (oth (shF l) (shE E2) n).length) hO (zs_length _)
   have hX : ∃ P' pn cp', (Ending.returned (.slice P (oth (shF l) (shE E2) n).length cp) : Ending) = .returned (.slice P' pn cp') ∧ (wrongs n (shF l) (shE E2)).length = pn ∧ pn ≤ cp' ∧ Own wr w.heap.size 3 (.slice P' pn cp') (zs (wrongs n (shF l) (shE E2))) ∧ Below w.heap.size w wr := ⟨P, _, cp, rfl, rfl, hcp, hO, HW7.out⟩
   have HX := Lib.hid hX
   obtain ⟨N, hN⟩ : ∃ N, (oth (shF l) (shE E2) n).length = N := ⟨_, rfl⟩
   rw [hN] at HX ⊢
   have hqn2 : ¬ ((q : Int) < (n : Int)) := by omega
   clear hO hcp hX hN HOt hqe hE2
   go_wp2_with fail
   go_ret
   exact HX.out
end Go.Proofs.YtjoghbmedfmioabGreat.Ms

namespace Go.Proofs.YtjoghbmedfmioabGreat.Ms
open Go.RowKit Go.Shelf F8 Poly GF Rd
attribute [local go_sem] Oper.semAt_some
section
variable {j a n s : Nat} {F : Nat → F8} {E E2 : List El}
theorem mem_wr {S : Nat → List F8} {sh : List (Int × List F8)} (h : ∀ o ∈ sh, 0 ≤ o.1 ∧ o.1 < (n : Int)) {z : Int} : z ∈ wrongs n S sh ↔ ∃ o ∈ sh, o.1 = z ∧ o.2 ≠ S z.toNat := by
 unfold wrongs
 rw [List.mem_map]
 constructor
 ·rintro ⟨j, hj, rfl⟩
  obtain ⟨o, ho, h2⟩ := List.any_eq_true.1 (List.mem_filter.1 hj).2
  have h3 := of_decide_eq_true h2
  exact ⟨o, ho, h3.1, by rw [Int.toNat_natCast]; exact h3.2⟩
 ·rintro ⟨o, ho, rfl, hne⟩
  obtain ⟨h1, h2⟩ := h o ho
  refine ⟨o.1.toNat, List.mem_filter.2 ⟨List.mem_range.2 (by omega), List.any_eq_true.2 ⟨o, ho, decide_eq_true ⟨by omega, hne⟩⟩⟩, by omega⟩
end
end Go.Proofs.YtjoghbmedfmioabGreat.Ms
