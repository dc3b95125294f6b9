/- The walk of PolyOnly. -/
import Derived.Test.YtkchofhdhkgbnaaPolyRefSt
import Derived.Deep.RegionWith
import Derived.BigQuiet
namespace Go.Proofs.Ytkchofhdhkgbnaa.polyOnly
open Go.RowKit F8 GF Poly

theorem vals_thru {q : List F8} {p : List F8} (h : len p ≤ q.length) : Thru q (q.map (eval p)) (trim p) :=
  ⟨trim_trim p, (bdd_iff.2 h).congr (trim_eqv p).symm, fun i h1 h2 => by rw [eval_trim]; simp⟩
theorem thru_same {q ow ys r1 r2 : List F8} (hn : q.Nodup) (h1 : Thru q ow r1) (h2 : Thru q ys r2) (l1 : q.length = ow.length) (l2 : q.length = ys.length) : r1 = r2 ↔ ow = ys := by
  constructor
  · intro e
    subst e
    apply List.ext_getElem (by omega)
    intro i hi hi'
    rw [← h1.val i (by omega) hi, h2.val i (by omega) hi']
  · intro e; subst e; exact h1.only hn l1 h2

set_option maxRecDepth 100000 in
set_option maxHeartbeats 4000000 in
theorem core (S : Poly.Spec) (w : World) (A : Option Addr) (p : List F8) (m c : Nat) (B : Option Addr) (q : List F8) (n d : Nat) (C : Option Addr) (r : List F8) (o b : Nat) (hm : p.length = m) (hbp : Bytes w A (bs p)) (hc : m ≤ c) (hm9 : m ≤ 9223372036854775807) (hn : q.length = n) (hbq : Bytes w B (bs q)) (hd : n ≤ d) (hn9 : n ≤ 9223372036854775807) (ho : r.length = o) (hbr : Bytes w C (bs r)) (hb : o ≤ b) (ho9 : o ≤ 9223372036854775807) :
    Calls Try.prog 7 #[.slice A m c, .slice B n d, .slice C o b] w fun e w' => e = .returned (.bool true) ∧ Below w.heap.size w w' := by
  by_cases g0 : 16 < m
  · go_enter Try.func7, Try.ntmps7
    go_wp2_with (go_at_call 12; (with_reducible refine (works_calls S _).mono ?_); rintro e w1 ⟨rfl, HN⟩)
    go_ret
    exact ⟨rfl, HN⟩
  have k0 : m ≤ 16 := by omega
  clear g0
  by_cases g1 : 16 < n
  · go_enter Try.func7, Try.ntmps7
    go_wp2_with (go_at_call 12; (with_reducible refine (works_calls S _).mono ?_); rintro e w1 ⟨rfl, HN⟩)
    go_ret
    exact ⟨rfl, HN⟩
  have k1 : n ≤ 16 := by omega
  clear g1
  by_cases g2 : 16 < o
  · go_enter Try.func7, Try.ntmps7
    go_wp2_with (go_at_call 12; (with_reducible refine (works_calls S _).mono ?_); rintro e w1 ⟨rfl, HN⟩)
    go_ret
    exact ⟨rfl, HN⟩
  have k2 : o ≤ 16 := by omega
  clear g2
  have HB := Lib.hid hbp
  have HB2 := Lib.hid hbq
  have HB3 := Lib.hid hbr
  have HM := Lib.hid hm
  have HNl := Lib.hid hn
  have HO := Lib.hid ho
  have HS := St.refl w
  clear hbp hbq hbr hm hn ho
  go_enter Try.func7, Try.ntmps7
  go_wp2_with fail
  refine (newS _ HS).mono ?_
  rintro e w1 ⟨rfl, HN⟩
  have HW := Lib.hid (((((W.start HN).arg HB.out)).arg HB2.out).arg HB3.out)
  have hg1 : w.heap.size < w1.heap.size := HW.out.glt
  clear HS HN
  go_wp2_with fail
  go_loopw [8, 9] (fun out i wr => ∃ k : Nat, k ≤ n ∧ i = .int .i64 k ∧ Hid (Own wr w1.heap.size 5 out (bv (bs ((q.take k).map (eval p))))) ∧ Hid (FldP wr (some ⟨w.heap.size, 0, none⟩)) ∧ Past w1.heap.size w.heap.size w1 wr) (fun _ i _ => n - (intOf i).toNat)
  case atStart => exact ⟨0, by omega, rfl, Lib.hid (Own.nil _ _ _), Lib.hid HW.out.fld, Past.refl _ _ _⟩
  case round =>
    obtain ⟨k, hk, rfl, HOw, HF, HP⟩ := hrel
    have hsz := HP.size
    by_cases hlt : k < n
    · have hlq : k < q.length := by rw [HNl.out]; exact hlt
      have HWr := Lib.hid (HW.out.past HF.out HP)
      obtain ⟨b2, o2, rfl⟩ := where_ (HWr.out.bytes (A := B) (p := q) (by simp)) (by omega)
      have hcell := cellAt (HWr.out.bytes (A := some ⟨b2, o2, none⟩) (p := q) (by simp)) k hlq
      obtain ⟨y, hy⟩ : ∃ y, eval p (coef q k) = y := ⟨_, rfl⟩
      have HT : Hid (bv (bs ((q.take k).map (eval p))) ++ bv [y.n] = bv (bs ((q.take (k + 1)).map (eval p)))) := Lib.hid (by
        rw [take_succ' q hlq, ← coef_of_lt hlq, List.map_append, List.map_cons, List.map_nil, hy, bvs_snoc])
      have HL : Hid ((bv (bs ((q.take k).map (eval p)))).length = k) := Lib.hid (by rw [bvs_length, List.length_map, List.length_take]; omega)
      have HY := Lib.hid hy
      clear hy
      go_wp2_with fail
      refine (S.atP A p m c _ HM.out (HWr.out.bytes (A := A) (p := p) (by simp)) hc (by omega) _ HF.out (HWr.out.far (A := A) (p := p) (by simp)) (coef q k)).mono ?_
      rintro e w2 ⟨rfl, hf2, hp2⟩
      rw [HY.out]
      have HOw2 := Lib.hid (own_keep HOw.out HF.out hp2)
      have HF2 := Lib.hid hf2
      have HP2 : Past w1.heap.size w.heap.size w1 w2 := HP.trans (hp2.mono hsz)
      have hsz2 := HP2.size
      clear hf2 hp2 hcell HWr
      go_wp2_with (at_builtin; refine wpList_app _ rfl (.tmp 36) (.tmp 44) _ rfl w1.heap.size 5 _ 1 Try.underlying22 info_u8 rfl (by omega) _ _ rfl (HOw2.out.alloc _) (some ⟨w2.heap.size, 0, none⟩) 1 1 (bv [y.n]) rfl rfl (Row.byte (by rw [cell_new]; simp)) (bv_one _) (by rw [HL.out]; omega) (by simp; omega) ?_; intro v3 w3 hown hg3 _)
      rw [HT.out] at hown
      have HOw3 := Lib.hid hown
      have hrow : ∀ k, Value.ownBlock _ = some k → w1.heap.size ≤ k := fun k hk => ((HOw2.out.alloc (.cells #[.int .u8 y.n] 5)).lt k hk).1
      have HP3 := (HP2.alloc hsz2 (.cells #[.int .u8 y.n] 5)).grown hg3 (by simp; omega) hrow
      have HF3 := Lib.hid (FldP.of ((HF2.out.fld.alloc (.cells #[.int .u8 y.n] 5)).kept_grown hg3 hg1 hrow))
      clear hown hg3 hrow
      go_wp2
      go_roundw
      case rel => exact ⟨k + 1, by omega, by go_num, HOw3, HF3, HP3⟩
      case measure => simp [intOf]; omega
    · obtain rfl : k = n := by omega
      have HWr := Lib.hid (HW.out.past HF.out HP)
      obtain ⟨ow, how⟩ : ∃ ow, q.map (eval p) = ow := ⟨_, rfl⟩
      have HTk : Hid ((q.take k).map (eval p) = ow) := Lib.hid (by rw [List.take_of_length_le (by rw [HNl.out]; exact Nat.le_refl _), how])
      rw [HTk.out] at HOw
      have hol : ow.length = k := by rw [← how, List.length_map, HNl.out]
      have HOL := Lib.hid hol
      obtain ⟨A1, c1, rfl, hc1⟩ := Own.shape HOw.out
      rw [hol] at hc1 ⊢
      have HW2 := Lib.hid (HWr.out.own HOw.out hg1)
      have HHow := Lib.hid how
      obtain ⟨dp, hdp⟩ : ∃ dp : Int, (len p : Int) - 1 = dp := ⟨_, rfl⟩
      have lp := len_le p
      have hpm : p.length = m := HM.out
      have hdp1 : -1 ≤ dp ∧ dp ≤ 16 := by omega
      have HDP := Lib.hid hdp
      clear HOw HF HP HTk HWr HW hsz hlt hk hol how hdp hpm
      by_cases hnd : q.Nodup
      · have HND := Lib.hid hnd
        clear hnd
        go_wp2_with fail
        refine (throughW S B A1 q ow k k d c1 _ HW2.out (by simp) (by simp) HNl.out HOL.out hd hc1 (by omega) (by omega) rfl HND.out).mono ?_
        rintro e w4 ⟨r1, hr1, A2, c2, rfl, hc2, HN⟩
        have HW := Lib.hid HN
        have hrl := hr1.len
        have HR1 := Lib.hid hr1
        have hql : q.length = k := HNl.out
        have hr16 : r1.length ≤ 16 := by omega
        clear HN hr1 HW2 hql hrl
        by_cases hdk : dp < (k : Int)
        · have hsame : trim p = r1 := (HR1.out.only HND.out (by rw [HNl.out, HOL.out]) (HHow.out ▸ vals_thru (by have := HDP.out; have := HNl.out; omega))).symm
          have HSm := Lib.hid hsame
          clear hsame
          go_wp2_with fail
          refine (degreeW S A p m c _ HW.out (by simp) HM.out hc (by omega) dp HDP.out).mono ?_
          rintro e w5 ⟨rfl, HN⟩
          have HW := Lib.hid HN
          clear HN
          go_wp2_with fail
          refine (trimW S A p m c _ HW.out (by simp) HM.out hc (by omega) r1 HSm.out).mono ?_
          rintro e w6 ⟨A3, c3, rfl, hc3, HN⟩
          have HW := Lib.hid HN
          clear HN
          go_wp2_with fail
          refine (sameW A2 A3 r1 r1 r1.length r1.length c2 c3 _ HW.out (by simp) (by simp) rfl rfl true (by simp)).mono ?_
          rintro e w7 ⟨rfl, rfl⟩
          have HW := Lib.hid (HW.out.sub (ls' := [(A2, r1), (A1, ow), (C, r), (B, q), (A, p)]) (by simp))
          by_cases hko : k = o
          · have HKO := Lib.hid hko
            have HOO : Hid (r.length = k) := Lib.hid (by rw [HO.out, hko])
            clear hko
            go_wp2_with fail
            refine (throughW S B C q r k o d b _ HW.out (by simp) (by simp) HNl.out HO.out hd hb (by omega) (by omega) HKO.out HND.out).mono ?_
            rintro e w8 ⟨r2, hr2, A4, c4, rfl, hc4, HN⟩
            have HW := Lib.hid HN
            have hrl2 := hr2.len
            have HR2 := Lib.hid hr2
            have hql : q.length = k := HNl.out
            have hr216 : r2.length ≤ 16 := by omega
            clear HN hr2 hql hrl2
            obtain ⟨d2, hd2⟩ : ∃ d2 : Int, (len r2 : Int) - 1 = d2 := ⟨_, rfl⟩
            have hd2k : d2 < (k : Int) := by have := len_le_of_bdd HR2.out.bdd; have := HNl.out; omega
            have hd21 : -1 ≤ d2 := by omega
            have HD2 := Lib.hid hd2
            obtain ⟨b1, hb1⟩ : ∃ b1, decide (r1 = r2) = b1 := ⟨_, rfl⟩
            have hb2 : decide (ow = r) = b1 := by
              rw [← hb1, decide_eq_decide]
              exact (thru_same HND.out HR1.out HR2.out (by rw [HNl.out, HOL.out]) (by rw [HNl.out, HOO.out])).symm
            have HB1 := Lib.hid hb1
            have HB2' := Lib.hid hb2
            clear hd2 hb1 hb2
            go_wp2_with fail
            go_loopw [14] (fun i wr => ∃ j : Nat, j ≤ k ∧ i = .int .i64 j ∧ Hid (W w w.heap.size [(A4, r2), (A2, r1), (A1, ow), (C, r), (B, q), (A, p)] wr)) (fun i _ => k - (intOf i).toNat)
            case atStart => exact ⟨0, by omega, rfl, HW⟩
            case round =>
              clear HW
              obtain ⟨j, hj, rfl, HW⟩ := hrel
              by_cases hjk : j < k
              · have hjq : j < q.length := by rw [HNl.out]; exact hjk
                have hjr : j < r.length := by rw [HOO.out]; exact hjk
                obtain ⟨bq, oq, rfl⟩ := where_ (HW.out.bytes (A := B) (p := q) (by simp)) (by omega)
                obtain ⟨br, or', rfl⟩ := where_ (HW.out.bytes (A := C) (p := r) (by simp)) (by omega)
                have hcx := cellAt (HW.out.bytes (A := some ⟨bq, oq, none⟩) (p := q) (by simp)) j hjq
                have hcy := cellAt (HW.out.bytes (A := some ⟨br, or', none⟩) (p := r) (by simp)) j hjr
                have hv : eval r2 (coef q j) = coef r j := by rw [coef_of_lt hjq, coef_of_lt hjr]; exact HR2.out.val j hjq hjr
                have HV := Lib.hid hv
                have hkq : (j : Int) < (k : Int) := by omega
                have hko2 : (j : Int) < (o : Int) := by have := HKO.out; omega
                clear hv
                have HK := HKO
                go_wp2_with fail
                go_region_with ((go_at_call 26; refine (atW S A4 r2 r2.length c4 _ (HW.out.drewN 1) (by simp) rfl hc4 (by omega) (coef q j) (coef r j) HV.out).mono ?_; rintro e w9 ⟨rfl, HN⟩; clear hcy; have hcy := cellAt (HN.bytes (A := some ⟨br, or', none⟩) (p := r) (by simp)) j hjr; have HWn := Lib.hid HN; clear HN))
                all_goals
                  go_wp2
                  go_roundw
                  case rel => exact ⟨j + 1, by omega, by go_num, by first | exact HWn | exact Lib.hid (HWn.out.drewN 1)⟩
                  case measure => simp [intOf]; omega
              · obtain rfl : j = k := by omega
                go_wp2_with fail
                refine (degreeW S A4 r2 r2.length c4 _ HW.out (by simp) rfl hc4 (by omega) d2 HD2.out).mono ?_
                rintro e w10 ⟨rfl, HN⟩
                have HW := Lib.hid HN
                clear HN hjk hj
                by_cases hk0 : j = 0
                · have hk0' : ((j : Int) == 0) = true := by simp; omega
                  clear hk0
                  go_wp2_with (go_at_call 12; (with_reducible refine (works_calls S _).mono ?_); rintro e wz ⟨rfl, HZ⟩)
                  go_ret
                  exact ⟨rfl, (HW.out.below HZ).bel⟩
                · have hk0' : ((j : Int) == 0) = false := by simp; omega
                  clear hk0
                  go_wp2_with fail
                  refine (sameW A2 A4 r1 r2 r1.length r2.length c2 c4 _ HW.out (by simp) (by simp) rfl rfl b1 HB1.out).mono ?_
                  rintro e w11 ⟨rfl, rfl⟩
                  go_wp2_with fail
                  refine (sameW A1 C ow r j o c1 b _ HW.out (by simp) (by simp) HOL.out HO.out b1 HB2'.out).mono ?_
                  rintro e w11 ⟨rfl, rfl⟩
                  go_wp2_with (go_at_call 12; (with_reducible refine (works_calls S _).mono ?_); rintro e wz ⟨rfl, HZ⟩)
                  go_ret
                  exact ⟨rfl, (HW.out.below HZ).bel⟩
          · have HBad2 : Hid (k ≠ o ∨ ¬ q.Nodup) := Lib.hid (.inl hko)
            clear hko
            go_wp2_with fail
            refine (throughW_bad S B C q r k o d b _ HW.out (by simp) (by simp) HNl.out HO.out hd hb (by omega) (by omega) HBad2.out).mono ?_
            rintro e w8 ⟨A3', c3', rfl, hc3', HN⟩
            have HW := Lib.hid HN
            clear HN
            go_wp2_with (go_at_call 12; (with_reducible refine (works_calls S _).mono ?_); rintro e wz ⟨rfl, HZ⟩)
            go_ret
            exact ⟨rfl, (HW.out.below HZ).bel⟩
        · go_wp2_with fail
          refine (degreeW S A p m c _ HW.out (by simp) HM.out hc (by omega) dp HDP.out).mono ?_
          rintro e w5 ⟨rfl, HN⟩
          have HW := Lib.hid HN
          clear HN
          by_cases hko : k = o
          · have HKO := Lib.hid hko
            have HOO : Hid (r.length = k) := Lib.hid (by rw [HO.out, hko])
            clear hko
            go_wp2_with fail
            refine (throughW S B C q r k o d b _ HW.out (by simp) (by simp) HNl.out HO.out hd hb (by omega) (by omega) HKO.out HND.out).mono ?_
            rintro e w8 ⟨r2, hr2, A4, c4, rfl, hc4, HN⟩
            have HW := Lib.hid HN
            have hrl2 := hr2.len
            have HR2 := Lib.hid hr2
            have hql : q.length = k := HNl.out
            have hr216 : r2.length ≤ 16 := by omega
            clear HN hr2 hql hrl2
            obtain ⟨d2, hd2⟩ : ∃ d2 : Int, (len r2 : Int) - 1 = d2 := ⟨_, rfl⟩
            have hd2k : d2 < (k : Int) := by have := len_le_of_bdd HR2.out.bdd; have := HNl.out; omega
            have hd21 : -1 ≤ d2 := by omega
            have HD2 := Lib.hid hd2
            obtain ⟨b1, hb1⟩ : ∃ b1, decide (r1 = r2) = b1 := ⟨_, rfl⟩
            have hb2 : decide (ow = r) = b1 := by
              rw [← hb1, decide_eq_decide]
              exact (thru_same HND.out HR1.out HR2.out (by rw [HNl.out, HOL.out]) (by rw [HNl.out, HOO.out])).symm
            have HB1 := Lib.hid hb1
            have HB2' := Lib.hid hb2
            clear hd2 hb1 hb2
            go_wp2_with fail
            go_loopw [14] (fun i wr => ∃ j : Nat, j ≤ k ∧ i = .int .i64 j ∧ Hid (W w w.heap.size [(A4, r2), (A2, r1), (A1, ow), (C, r), (B, q), (A, p)] wr)) (fun i _ => k - (intOf i).toNat)
            case atStart => exact ⟨0, by omega, rfl, HW⟩
            case round =>
              clear HW
              obtain ⟨j, hj, rfl, HW⟩ := hrel
              by_cases hjk : j < k
              · have hjq : j < q.length := by rw [HNl.out]; exact hjk
                have hjr : j < r.length := by rw [HOO.out]; exact hjk
                obtain ⟨bq, oq, rfl⟩ := where_ (HW.out.bytes (A := B) (p := q) (by simp)) (by omega)
                obtain ⟨br, or', rfl⟩ := where_ (HW.out.bytes (A := C) (p := r) (by simp)) (by omega)
                have hcx := cellAt (HW.out.bytes (A := some ⟨bq, oq, none⟩) (p := q) (by simp)) j hjq
                have hcy := cellAt (HW.out.bytes (A := some ⟨br, or', none⟩) (p := r) (by simp)) j hjr
                have hv : eval r2 (coef q j) = coef r j := by rw [coef_of_lt hjq, coef_of_lt hjr]; exact HR2.out.val j hjq hjr
                have HV := Lib.hid hv
                have hkq : (j : Int) < (k : Int) := by omega
                have hko2 : (j : Int) < (o : Int) := by have := HKO.out; omega
                clear hv
                have HK := HKO
                go_wp2_with fail
                go_region_with ((go_at_call 26; refine (atW S A4 r2 r2.length c4 _ (HW.out.drewN 1) (by simp) rfl hc4 (by omega) (coef q j) (coef r j) HV.out).mono ?_; rintro e w9 ⟨rfl, HN⟩; clear hcy; have hcy := cellAt (HN.bytes (A := some ⟨br, or', none⟩) (p := r) (by simp)) j hjr; have HWn := Lib.hid HN; clear HN))
                all_goals
                  go_wp2
                  go_roundw
                  case rel => exact ⟨j + 1, by omega, by go_num, by first | exact HWn | exact Lib.hid (HWn.out.drewN 1)⟩
                  case measure => simp [intOf]; omega
              · obtain rfl : j = k := by omega
                go_wp2_with fail
                refine (degreeW S A4 r2 r2.length c4 _ HW.out (by simp) rfl hc4 (by omega) d2 HD2.out).mono ?_
                rintro e w10 ⟨rfl, HN⟩
                have HW := Lib.hid HN
                clear HN hjk hj
                by_cases hk0 : j = 0
                · have hk0' : ((j : Int) == 0) = true := by simp; omega
                  clear hk0
                  go_wp2_with (go_at_call 12; (with_reducible refine (works_calls S _).mono ?_); rintro e wz ⟨rfl, HZ⟩)
                  go_ret
                  exact ⟨rfl, (HW.out.below HZ).bel⟩
                · have hk0' : ((j : Int) == 0) = false := by simp; omega
                  clear hk0
                  go_wp2_with fail
                  refine (sameW A2 A4 r1 r2 r1.length r2.length c2 c4 _ HW.out (by simp) (by simp) rfl rfl b1 HB1.out).mono ?_
                  rintro e w11 ⟨rfl, rfl⟩
                  go_wp2_with fail
                  refine (sameW A1 C ow r j o c1 b _ HW.out (by simp) (by simp) HOL.out HO.out b1 HB2'.out).mono ?_
                  rintro e w11 ⟨rfl, rfl⟩
                  go_wp2_with (go_at_call 12; (with_reducible refine (works_calls S _).mono ?_); rintro e wz ⟨rfl, HZ⟩)
                  go_ret
                  exact ⟨rfl, (HW.out.below HZ).bel⟩
          · have HBad2 : Hid (k ≠ o ∨ ¬ q.Nodup) := Lib.hid (.inl hko)
            clear hko
            go_wp2_with fail
            refine (throughW_bad S B C q r k o d b _ HW.out (by simp) (by simp) HNl.out HO.out hd hb (by omega) (by omega) HBad2.out).mono ?_
            rintro e w8 ⟨A3', c3', rfl, hc3', HN⟩
            have HW := Lib.hid HN
            clear HN
            go_wp2_with (go_at_call 12; (with_reducible refine (works_calls S _).mono ?_); rintro e wz ⟨rfl, HZ⟩)
            go_ret
            exact ⟨rfl, (HW.out.below HZ).bel⟩
      · have HBad : Hid (k ≠ k ∨ ¬ q.Nodup) := Lib.hid (.inr hnd)
        have HBad2 : Hid (k ≠ o ∨ ¬ q.Nodup) := Lib.hid (.inr hnd)
        clear hnd
        go_wp2_with fail
        refine (throughW_bad S B A1 q ow k k d c1 _ HW2.out (by simp) (by simp) HNl.out HOL.out hd hc1 (by omega) (by omega) HBad.out).mono ?_
        rintro e w4 ⟨A2, c2, rfl, hc2, HN⟩
        have HW := Lib.hid HN
        clear HN HW2
        go_wp2_with fail
        refine (throughW_bad S B C q r k o d b _ HW.out (by simp) (by simp) HNl.out HO.out hd hb (by omega) (by omega) HBad2.out).mono ?_
        rintro e w5 ⟨A3, c3, rfl, hc3, HN⟩
        have HW := Lib.hid HN
        clear HN
        go_wp2_with (go_at_call 12; (with_reducible refine (works_calls S _).mono ?_); rintro e wz ⟨rfl, HZ⟩)
        go_ret
        exact ⟨rfl, (HW.out.below HZ).bel⟩
theorem walk (S : Poly.Spec) (w : World) (A0 : Option Addr) (l0 : List Nat) (c0 : Nat) (hb0 : Bytes w A0 l0) (hc0 : l0.length ≤ c0) (hm0 : c0 ≤ 9223372036854775807) (A1 : Option Addr) (l1 : List Nat) (c1 : Nat) (hb1 : Bytes w A1 l1) (hc1 : l1.length ≤ c1) (hm1 : c1 ≤ 9223372036854775807) (A2 : Option Addr) (l2 : List Nat) (c2 : Nat) (hb2 : Bytes w A2 l2) (hc2 : l2.length ≤ c2) (hm2 : c2 ≤ 9223372036854775807) :
    Calls Try.prog 7 #[.slice A0 l0.length c0, .slice A1 l1.length c1, .slice A2 l2.length c2] w fun e w' => e = .returned (.bool true) ∧ Below w.heap.size w w' := by
  obtain ⟨p0, rfl⟩ := of_bytes l0 hb0.lt
  obtain ⟨p1, rfl⟩ := of_bytes l1 hb1.lt
  obtain ⟨p2, rfl⟩ := of_bytes l2 hb2.lt
  exact core S w A0 p0 _ c0 A1 p1 _ c1 A2 p2 _ c2 (bs_length p0).symm hb0 hc0 (by omega) (bs_length p1).symm hb1 hc1 (by omega) (bs_length p2).symm hb2 hc2 (by omega)
end Go.Proofs.Ytkchofhdhkgbnaa.polyOnly
