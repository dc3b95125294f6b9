/- LocalTells, for every input: the frame round the walk; the argument lists are opened, the walk's contract is met, what was read reads as it did. -/
import Derived.Test.YtofihklinkpbiaaGreatPl15
import Derived.Deep.CutRange
import Derived.Test.YtofihklinkpbiaaGreatRows
import Derived.Test.YtofihklinkpbiaaGreatPl26
import Derived.Test.YtofihklinkpbiaaGreatPl25
import Derived.WalkKit
import Derived.ProofKit
import Derived.OpenShut
import Derived.ShutString
import Derived.ChangeOld
import Derived.Below
import Derived.Deep.DeepHandedRow
import Derived.SizedLaws
namespace Go.Proofs.YtofihklinkpbiaaGreat.Ms
open Go.RowKit Go.Shelf F8 Poly GF Rd
attribute [local go_sem] Oper.semAt_some
attribute [-go_sem] Builtin.append_
set_option maxRecDepth 100000 in
set_option maxHeartbeats 8000000 in
theorem told_calls (g : Nat) (A0 : Option Addr) (l : List El) (n c0 x : Nat) (tu : Bool) (A1 : Option Addr) (at_ : List F8) (na ca : Nat) (A2 : Option Addr) (by_ : List F8) (nby cb t : Nat) (w : World) (hl : l.length = n) (hn : n ≤ 255) (hS : Shs g w A0 l) (hsz : ∀ e ∈ l, e.s.length ≤ 1000) (ha : at_.length = na) (hna : na ≤ 1000) (hA1 : Bytes w A1 (bs at_)) (hb : by_.length = nby) (hA2 : Bytes w A2 (bs by_)) (ht : t ≤ 3) :
  Calls Tryz.prog 19 #[.slice A0 n c0, .int .u64 x, .bool tu, .slice A1 na ca, .slice A2 nby cb, .int .i64 t] w (ToldG l n t tu w) := by
 have HS := Lib.hid hS
 have HL := Lib.hid hl
 have HA1 := Lib.hid hA1
 have HA2 := Lib.hid hA2
 have HAn := Lib.hid ha
 have HBn := Lib.hid hb
 have HSz := Lib.hid hsz
 have HSo := Lib.hid (Wl.somer_calls x n n (by omega) (by omega) w)
 clear hl hS hsz ha hA1 hb hA2
 go_enter Tryz.func19, Tryz.ntmps19
 go_wp2_with fail
 refine HSo.out.mono ?_
 clear HSo
 rintro e w1 ⟨L, A, c, hok, hpw, hle, rfl, hc, hown, hbel⟩
 obtain ⟨m, hm⟩ : ∃ m, L.length = m := ⟨_, rfl⟩
 rw [hm] at hle hc hown ⊢
 have HOk := Lib.hid hok
 have HPw := Lib.hid hpw
 have HM := Lib.hid hm
 have HO := Lib.hid hown
 have HB1 := Lib.hid hbel
 clear hok hpw hm hown hbel
 go_wp2_with fail
 go_loopw [15, 16] (fun ov iv wr => ∃ (i : Nat) (E : List El), i ≤ m ∧ iv = .int .i64 i ∧ Hid (OwnK 2 wr w1.heap.size 49 ov i (cells2 E)) ∧ Hid (E.map El.p = (ordO tu L).take i) ∧ Hid (∀ e ∈ E, ∃ f, l[e.p.toNat]? = some f ∧ f.s = e.s) ∧ Hid (TE w1.heap.size wr E) ∧ Hid (Below w1.heap.size w1 wr)) (fun _ iv _ => m - (intOf iv).toNat)
 case atStart => exact ⟨0, [], by omega, rfl, Lib.hid (OwnK.nil _ _ _ _), Lib.hid rfl, Lib.hid (by simp), Lib.hid (TE.nil _ _), Lib.hid (Below.refl _ _)⟩
 case round =>
  obtain ⟨i, E, hi, rfl, HOv, HP, HF, HT, HW⟩ := hrel
  by_cases him : i < m
  ·have hti : i < L.length := by rw [HM.out]; exact him
   obtain ⟨q, hq⟩ : ∃ q, m - 1 - i = q := ⟨_, rfl⟩
   have hq9 : (m : Int) - 1 - (i : Int) = (q : Int) := by omega
   have hqm : q < m := by omega
   have htq : q < L.length := by rw [HM.out]; exact hqm
   have hat := ordO_at tu L hti
   have hlq : L.length - 1 - i = q := by rw [HM.out]; exact hq
   have HTk : Hid ((ordO tu L).take (i + 1) = (ordO tu L).take i ++ [if tu then L[q] else L[i]]) := Lib.hid (by
    rw [take_succ' _ (by rw [ordO_length]; exact hti), hat]
    simp only [hlq])
   obtain ⟨A', c', e1, hr, -⟩ := Own.form (HO.out.below HW.out)
   obtain rfl := (Value.slice.inj e1).1
   clear e1
   obtain ⟨b, off, rfl, hc1⟩ := hr i (.int .i64 L[i]) (by simp [zs, hti])
   obtain ⟨b', off', e1, hc2⟩ := hr q (.int .i64 L[q]) (by simp [zs, htq])
   cases e1
   obtain ⟨z1, hz1⟩ : ∃ z, L[i] = z := ⟨_, rfl⟩
   obtain ⟨z2, hz2⟩ : ∃ z, L[q] = z := ⟨_, rfl⟩
   obtain ⟨kk, hkk⟩ : ∃ z, (if tu then L[q] else L[i]) = z := ⟨_, rfl⟩
   have hkL : kk ∈ L := by rw [← hkk]; split <;> exact List.getElem_mem _
   have hk1 := HOk.out.1 kk hkL
   obtain ⟨k, hk⟩ : ∃ k : Nat, kk = (k : Int) := ⟨kk.toNat, by omega⟩
   rw [hz1] at hc1
   rw [hz2] at hc2
   rw [hkk, hk] at HTk
   rw [hz1, hz2, hk] at hkk
   have hkn : k < n := by omega
   have hkl : k < l.length := by rw [HL.out]; exact hkn
   obtain ⟨f, hf⟩ : ∃ f, l[k] = f := ⟨_, rfl⟩
   have hS' := HS.out.below (HB1.out.trans (HW.out.mono HB1.out.size))
   obtain ⟨b0, o0, rfl, hc3⟩ := cells1_at hS'.row hkl
   have hfl := hS'.lst f (hf ▸ List.getElem_mem _)
   have hfs := HSz.out f (hf ▸ List.getElem_mem _)
   rw [hf] at hc3
   obtain ⟨fl, hfl1⟩ : ∃ a, f.s.length = a := ⟨_, rfl⟩
   rw [hfl1] at hc3 hfs
   have cv1 := conv_f hfl.1.by_ fl f.c hfl1
   have cv2 := Rd.conv_b f.s fl hfl1 wr
   have hge := grownCap_ge wr fl 0 5
   obtain ⟨cg, hcg⟩ : ∃ c, grownCap wr fl 0 5 = c := ⟨_, rfl⟩
   rw [hcg] at cv2 hge
   have HBy := Lib.hid (Rd.bw_bytes wr f.s)
   have HCv := Lib.hid (Conv.new wr f.s hfl1)
   have hbb := Rd.bw_below wr f.s
   obtain ⟨wb, hwb⟩ : ∃ wb, Lib.bytesWorld wr 5 (str (bs f.s)) = wb := ⟨_, rfl⟩
   have hwz : wb.heap.size = wr.heap.size + 1 := by rw [← hwb]; exact Lib.bytesWorld_size _ _ _
   rw [hwb] at cv2 hbb
   rw [hwb] at HBy HCv
   obtain ⟨fA, hfA⟩ : ∃ a, f.A = a := ⟨_, rfl⟩
   obtain ⟨fs, hfs0⟩ : ∃ a, f.s = a := ⟨_, rfl⟩
   obtain ⟨fc, hfc⟩ : ∃ a, f.c = a := ⟨_, rfl⟩
   rw [hfA, hfc] at hc3
   rw [hfA, hfs0, hfc] at cv1
   rw [hfs0] at cv2 HBy
   have HWb := Lib.hid hbb
   have HWz := Lib.hid hwz
   have HFs := Lib.hid (show l[k]? = some f by rw [List.getElem?_eq_getElem hkl, hf])
   have HFs0 := Lib.hid hfs0
   have HFl1 := Lib.hid hfl1
   have HGe := Lib.hid hge
   have HOb := Lib.hid ((HOv.out.below hbb).alloc (.cells #[.int .i64 (k : Int), .slice (some ⟨wr.heap.size, 0, none⟩) fl cg] 49))
   have HRw : Hid (Row (wb.alloc (.cells #[.int .i64 (k : Int), .slice (some ⟨wr.heap.size, 0, none⟩) fl cg] 49)) (some ⟨wb.heap.size, 0, none⟩) (cells2 [⟨(k : Int), some ⟨wr.heap.size, 0, none⟩, fs, cg⟩])) := Lib.hid (by
    rw [show fl = fs.length by rw [← HFs0.out]; exact HFl1.out.symm]
    exact Row.new wb #[.int .i64 (k : Int), .slice (some ⟨wr.heap.size, 0, none⟩) fs.length cg] 49 (0, 0))
   obtain ⟨A9, c9, rfl, hcc9, -⟩ := OwnK.shape HOv.out
   obtain ⟨v2, w3, hrun, hown, hg3, -⟩ := run_appK (P := Tryz.prog) (wb.alloc (.cells #[.int .i64 (k : Int), .slice (some ⟨wr.heap.size, 0, none⟩) fl cg] 49)) 2 w1.heap.size 37 37 49 _ 32 Tryz.underlying37 info_sym rfl (by omega) _ i (cells2 E) HOb.out ⟨wb.heap.size, 0, none⟩ 1 1 _ rfl HRw.out (cells2_one _) (by omega) (by omega) (by have := HW.out.size; have := HWb.out.size; rw [World.size_alloc]; omega)
   have hz8 := HW.out.size
   have hba : Below wr.heap.size wr (wb.alloc (.cells #[.int .i64 (k : Int), .slice (some ⟨wr.heap.size, 0, none⟩) fl cg] 49)) := HWb.out.alloc HWb.out.size _
   have HW3 : Hid (Below w1.heap.size w1 w3) := Lib.hid ((HW.out.trans (hba.mono hz8)).trans (OwnK.grew HOb.out (Nat.le_trans hz8 hba.size) hg3))
   have HT3 : Hid (TE w1.heap.size w3 (E ++ [⟨(k : Int), some ⟨wr.heap.size, 0, none⟩, fs, cg⟩])) := Lib.hid (by
    have h1 : TE w1.heap.size wb (E ++ [⟨(k : Int), some ⟨wr.heap.size, 0, none⟩, fs, cg⟩]) := HT.out.snoc rfl hz8 (Nat.le_refl _) HWb.out (by have := HWz.out; omega) HBy.out (by show Conv wb wr.heap.size fs.length; rw [← HFs0.out, HFl1.out]; exact HCv.out) (by show fs.length ≤ cg; rw [← HFs0.out, HFl1.out]; exact HGe.out)
    exact (h1.below ((Below.refl _ _).alloc (Nat.le_refl _) _)).grown HOb.out hg3)
   have HP3 : Hid ((E ++ [(⟨(k : Int), some ⟨wr.heap.size, 0, none⟩, fs, cg⟩ : El)]).map El.p = (ordO tu L).take (i + 1)) := Lib.hid (by rw [List.map_append, HP.out, HTk.out]; rfl)
   have HF3 : Hid (∀ e ∈ E ++ [(⟨(k : Int), some ⟨wr.heap.size, 0, none⟩, fs, cg⟩ : El)], ∃ f, l[e.p.toNat]? = some f ∧ f.s = e.s) := Lib.hid (fun e he => by
    rcases List.mem_append.1 he with he | he
    ·exact HF.out e he
    ·obtain rfl := List.mem_singleton.1 he
     exact ⟨f, by simpa using HFs.out, HFs0.out⟩)
   rw [← cells2_append] at hown
   have HOw := Lib.hid hown
   clear hown hg3 hba
   have hz9 := HB1.out.size
   clear hfl hfs hfl1 hge hcg hwb hwz hbb hf hfA hfs0 hfc hr hS' hat hlq hq hkL hk1
   cases tu with
   | false =>
    obtain rfl : z1 = (k : Int) := by simpa using hkk
    clear hkk
    go_wp2_with fail
    go_roundw
    case rel => exact ⟨i + 1, _, by omega, by go_num, HOw, HP3, HF3, HT3, HW3⟩
    case measure => simp [intOf]; omega
   | true =>
    obtain rfl : z2 = (k : Int) := by simpa using hkk
    clear hkk
    go_wp2_with fail
    go_roundw
    case rel => exact ⟨i + 1, _, by omega, by go_num, HOw, HP3, HF3, HT3, HW3⟩
    case measure => simp [intOf]; omega
  ·obtain rfl : i = m := by omega
   have hlen : E.length = i := by
    have := congrArg List.length HP.out
    rw [List.length_map, List.length_take, ordO_length, HM.out] at this
    omega
   have HEl := Lib.hid hlen
   have HFs := Lib.hid HF.out
   have HN0 := Lib.hid (nb_start HF.out)
   have HLe0 : Hid (∀ e ∈ E, e.s.length ≤ 1000) := Lib.hid fun e he => by
    obtain ⟨f, h1, h2⟩ := HF.out e he
    rw [← h2]
    exact HSz.out f (List.mem_of_getElem? h1)
   obtain ⟨A9, c9, rfl, hcc9, -⟩ := OwnK.shape HOv.out
   clear hlen
   go_wp2_with fail
   go_loopw [18] (fun iv wr2 => ∃ (j : Nat) (E2 : List El), j ≤ t ∧ iv = .int .i64 j ∧ Hid (cells2 E2 = cells2 E) ∧ Hid (E2.map El.p = E.map El.p) ∧ Hid (nb (shF l) (shE E2) ≤ j) ∧ Hid (∀ e ∈ E2, e.s.length ≤ 1000) ∧ Hid (TE w1.heap.size wr2 E2) ∧ Hid (OwnK 2 wr2 w1.heap.size 49 (.slice A9 i c9) i (cells2 E)) ∧ Hid (Below w1.heap.size w1 wr2)) (fun iv _ => t - (intOf iv).toNat)
   case atStart => exact ⟨0, E, by omega, rfl, Lib.hid rfl, Lib.hid rfl, Lib.hid (Nat.le_of_eq HN0.out), HLe0, HT, HOv, HW⟩
   case round =>
    clear HOv HT HW HN0 HLe0
    obtain ⟨j, E2, hj, rfl, HC, HP2, HN, HLe, HT, HOv, HW⟩ := hrel
    go_upto_region 11 with fail
    go_cut [79] from 60 to 111 (fun c wx => c = .bool (decide (j < na ∧ j < nby ∧ j < t ∧ 0 < i)) ∧ wr = wx)
    case first =>
     rcases (by omega : ¬ j < na ∨ (j < na ∧ ¬ j < nby) ∨ (j < na ∧ j < nby ∧ ¬ j < t) ∨ (j < na ∧ j < nby ∧ j < t ∧ ¬ 0 < i) ∨ (j < na ∧ j < nby ∧ j < t ∧ 0 < i)) with h1 | ⟨h1, h2⟩ | ⟨h1, h2, h3⟩ | ⟨h1, h2, h3, h4⟩ | ⟨h1, h2, h3, h4⟩
     ·go_wp2_with fail
      go_meet
      exact ⟨congrArg Value.bool (decide_eq_false (by omega)).symm, rfl⟩
     ·go_wp2_with fail
      go_meet
      exact ⟨congrArg Value.bool (decide_eq_false (by omega)).symm, rfl⟩
     ·go_wp2_with fail
      go_meet
      exact ⟨congrArg Value.bool (decide_eq_false (by omega)).symm, rfl⟩
     ·go_wp2_with fail
      go_meet
      exact ⟨congrArg Value.bool (decide_eq_false (by omega)).symm, rfl⟩
     ·go_wp2_with fail
      go_meet
      exact ⟨congrArg Value.bool (decide_eq_true ⟨h1, h2, h3, h4⟩).symm, rfl⟩
    case rest =>
     obtain ⟨rfl, rfl⟩ := hcut
     rcases (by omega : (j < na ∧ j < nby ∧ j < t ∧ 0 < i) ∨ ¬ (j < na ∧ j < nby ∧ j < t ∧ 0 < i)) with ⟨hj1, hj2, hj3, hj4⟩ | hno
     ·have hE2 : E2.length = i := by
       have := congrArg List.length HP2.out
       rw [List.length_map, List.length_map, HEl.out] at this
       exact this
      have hbl := HB1.out.trans (HW.out.mono HB1.out.size)
      have hb1 := HA1.out.below hbl
      have hb2 := HA2.out.below hbl
      obtain ⟨b1, f1, rfl⟩ := where_ hb1 (by rw [HAn.out]; omega)
      obtain ⟨b2, f2, rfl⟩ := where_ hb2 (by rw [HBn.out]; omega)
      have hc1 := cellAt hb1 j (by rw [HAn.out]; exact hj1)
      have hc2 := cellAt hb2 j (by rw [HBn.out]; exact hj2)
      obtain ⟨a, ha⟩ : ∃ a, coef at_ j = a := ⟨_, rfl⟩
      obtain ⟨y, hy⟩ : ∃ y, coef by_ j = y := ⟨_, rfl⟩
      rw [ha] at hc1
      rw [hy] at hc2
      have ha256 := a.h
      obtain ⟨p, hp⟩ : ∃ p : Nat, a.n % i = p := ⟨_, rfl⟩
      have hpi : p < i := by rw [← hp]; exact Nat.mod_lt _ hj4
      have ex : (a.n : Int) % (i : Int) = (p : Int) := by rw [← hp]; simp
      have ex2 : (a.n : Int).tmod (i : Int) = (p : Int) := by rw [Int.tmod_eq_emod_of_nonneg (by omega)]; exact ex
      have hi0 : ((i : Int) == 0) = false := by simp; omega
      have hpl : p < E2.length := by rw [hE2]; exact hpi
      obtain ⟨b, eA, hbB⟩ := HT.out.at_ hpl
      obtain ⟨A9', c9', e9, hcc9', hr9, -⟩ := OwnK.shape HOv.out
      obtain rfl := (Value.slice.inj e9).1
      clear e9 hcc9'
      rw [← HC.out] at hr9
      obtain ⟨b9, o9, rfl, hc3⟩ := hr9 _ _ (cells2_get (List.getElem?_eq_getElem hpl)).2
      have hmem : E2[p] ∈ E2 := List.getElem_mem hpl
      have hap := HT.out.apart HOv.out hmem eA
      have hsz := HT.out.own _ hmem
      obtain ⟨e, he⟩ : ∃ e, E2[p] = e := ⟨_, rfl⟩
      rw [he] at hc3 eA
      obtain ⟨eq, eA', es, ec⟩ := e
      obtain rfl : eA' = some ⟨b, 0, none⟩ := eA
      obtain ⟨en, hen⟩ : ∃ en, es.length = en := ⟨_, rfl⟩
      have HEn := Lib.hid hen
      have hen1 : en ≤ 1000 := by have h := HLe.out _ (List.getElem_mem hpl); rw [he] at h; rw [← hen]; exact h
      have hc3' : wr.cell? ⟨b9, o9 + p * 2 + 1, none⟩ = some (.slice (some ⟨b, 0, none⟩) en ec) := by rw [← hen, Nat.add_assoc]; exact hc3
      have HT0 : Hid (TE w1.heap.size wr (E2.set p ⟨eq, some ⟨b, 0, none⟩, es, ec⟩)) := Lib.hid (by rw [← he, List.set_getElem_self]; exact HT.out)
      have HSet : Hid (∀ F : List F8, F.length = en → cells2 (E2.set p ⟨eq, some ⟨b, 0, none⟩, F, ec⟩) = cells2 E ∧ (E2.set p ⟨eq, some ⟨b, 0, none⟩, F, ec⟩).map El.p = E.map El.p ∧ nb (shF l) (shE (E2.set p ⟨eq, some ⟨b, 0, none⟩, F, ec⟩)) ≤ j + 1 ∧ ∀ e ∈ E2.set p ⟨eq, some ⟨b, 0, none⟩, F, ec⟩, e.s.length ≤ 1000) := Lib.hid fun F hF => by
       have h1 := cells2_put hpl (F := F) (by rw [he, hF]; exact hen.symm)
       have h2 := ps_set hpl F
       rw [he] at h1 h2
       refine ⟨h1.trans HC.out, h2.trans HP2.out, ?_, fun e' he' => ?_⟩
       ·rw [shE_set]
        exact Nat.le_trans (nb_set (shF l) (shE E2) p (eq, F)) (Nat.succ_le_succ HN.out)
       ·rcases List.mem_or_eq_of_mem_set he' with h | rfl
        ·exact HLe.out e' h
        ·show F.length ≤ 1000
         rw [hF]; exact hen1
      have HAp := Lib.hid hap
      have HPl := Lib.hid hpl
      have HBB := Lib.hid hbB
      clear hb1 hb2 ha hy hp hc3 hr9 hmem hap hsz he hen hE2 hbl hbB
      go_wp2_with fail
      go_loopw [20] (fun kv wr3 => ∃ (k : Nat) (F : List F8), k ≤ en ∧ kv = .int .i64 k ∧ Hid (F.length = en) ∧ Hid (TE w1.heap.size wr3 (E2.set p ⟨eq, some ⟨b, 0, none⟩, F, ec⟩)) ∧ Hid (OwnK 2 wr3 w1.heap.size 49 (.slice (some ⟨b9, o9, none⟩) i c9) i (cells2 E)) ∧ Hid (Below w1.heap.size w1 wr3)) (fun kv _ => en - (intOf kv).toNat)
      case atStart => exact ⟨0, es, by omega, rfl, HEn, HT0, HOv, HW⟩
      case round =>
       clear HT0 HOv HW hc1 hc2 hc3'
       obtain ⟨k, F, hk, rfl, HFn, HT3, HOv, HW⟩ := hrel
       by_cases hke : k < en
       ·have hpl' : p < (E2.set p ⟨eq, some ⟨b, 0, none⟩, F, ec⟩).length := by rw [List.length_set]; exact HPl.out
        obtain ⟨b', e1, -, -, hby, hcv, -⟩ := HT3.out.own _ (List.getElem_mem hpl')
        rw [List.getElem_set_self] at e1 hby hcv
        cases e1
        have hkF : k < F.length := by rw [HFn.out]; exact hke
        have hcY := cellAt hby k hkF
        rw [Nat.zero_add] at hcY
        obtain ⟨-, hfr⟩ := hcv.cell hkF
        obtain ⟨xv, hxv⟩ : ∃ xv, coef F k = xv := ⟨_, rfl⟩
        rw [hxv] at hcY
        have hb2 := HA2.out.below (HB1.out.trans (HW.out.mono HB1.out.size))
        have hc2 := cellAt hb2 j (by rw [HBn.out]; exact hj2)
        have exor := Rd.f8_xor xv (coef by_ j)
        obtain ⟨y', hy'⟩ : ∃ y, coef by_ j = y := ⟨_, rfl⟩
        rw [hy'] at hc2 exor
        have hT4 := HT3.out.put2 HPl.out hkF (xv + y')
        have hO4 := HOv.out.far (b := b) (j := k) HAp.out (.int .u8 (((xv + y').n : Nat) : Int))
        have hW4 := HW.out.setCell (p := ⟨b, k, none⟩) HBB.out (.int .u8 (((xv + y').n : Nat) : Int))
        have HT4 := Lib.hid (hT4.below (Below.refl _ _).drew)
        have HO4 := Lib.hid hO4.drew
        have HW4 := Lib.hid hW4.drew
        have HF4 : Hid ((F.set k (xv + y')).length = en) := Lib.hid (by rw [List.length_set]; exact HFn.out)
        clear hpl' hby hcv hkF hxv hb2 hy' hT4 hO4 hW4 HT3 HOv HW
        go_wp2
        go_region
        generalize (wr.setCell ⟨b, k, none⟩ (.int .u8 (((xv + y').n : Nat) : Int))).drew = w6 at *
        go_wp2
        go_roundw
        case rel => exact ⟨k + 1, _, by omega, by go_num, HF4, HT4, HO4, HW4⟩
        case measure => simp [intOf]; omega
       ·obtain rfl : k = en := by omega
        obtain ⟨hs1, hs2, hs3, hs4⟩ := HSet.out F HFn.out
        have HS4 := Lib.hid hs4
        have HS1 := Lib.hid hs1
        have HS2 := Lib.hid hs2
        have HS3 := Lib.hid hs3
        clear hs1 hs2 hs3 hs4
        go_wp2_with fail
        go_roundw
        case rel => exact ⟨j + 1, _, by omega, by go_num, HS1, HS2, HS3, HS4, HT3, HOv, HW⟩
        case measure => simp [intOf]; omega
     ·rw [decide_eq_false hno]
      obtain ⟨w7, hw7⟩ : ∃ w7, wr = w7 := ⟨_, rfl⟩
      rw [hw7] at HT HOv HW ⊢
      all_goals
       go_wp2_with fail
       go_loopw [21, 22] (fun ov jv wr => ∃ (q : Nat) (P : Option Addr) (cp : Nat), q ≤ n ∧ jv = .int .i64 q ∧ ov = .slice P (oth (shF l) (shE E2) q).length cp ∧ Hid (Own wr w7.heap.size 3 ov (zs (oth (shF l) (shE E2) q))) ∧ Hid (Below w7.heap.size w7 wr)) (fun _ jv _ => n - (intOf jv).toNat)
       case atStart => exact ⟨0, none, 0, by omega, rfl, rfl, Lib.hid (Own.nil _ _ _), Lib.hid (Below.refl _ _)⟩
       case round =>
        obtain ⟨q, P, cp, hq, rfl, rfl, HOt, HW7⟩ := hrel
        have hE2 : E2.length = i := by
         have := congrArg List.length HP2.out
         rw [List.length_map, List.length_map, HEl.out] at this
         exact this
        by_cases hqn : q < n
        ·have hqd : decide (q < n) = true := by simpa using hqn
         have hqd2 : decide ((q : Int) < (n : Int)) = true := by simp; omega
         go_wp2_with fail
         go_loopw [21, 23] (fun ov iv wr => ∃ (x : Nat) (P : Option Addr) (cp : Nat), x ≤ i ∧ iv = .int .i64 x ∧ ov = .slice P (oth (shF l) (shE E2) q ++ oneO (shF l) (shE E2) q x).length cp ∧ Hid (Own wr w7.heap.size 3 ov (zs (oth (shF l) (shE E2) q ++ oneO (shF l) (shE E2) q x))) ∧ Hid (Below w7.heap.size w7 wr)) (fun _ iv _ => i - (intOf iv).toNat)
         case atStart => exact ⟨0, P, cp, by omega, rfl, by rw [oneO_zero, List.append_nil], by rw [oneO_zero, List.append_nil]; exact HOt, HW7⟩
         case round =>
          clear HOt HW7
          obtain ⟨x, P2, cp2, hx, rfl, rfl, HO8, HW8⟩ := hrel
          by_cases hxi : x < i
          ·have hxl : x < E2.length := by rw [hE2]; exact hxi
           have hOv := HOv.out.below HW8.out
           have hT8 := HT.out.below HW8.out
           have hbl : Below w.heap.size w wr := (HB1.out.trans (HW.out.mono HB1.out.size)).trans (HW8.out.mono (Nat.le_trans HB1.out.size HW.out.size))
           have hS8 := HS.out.below hbl
           obtain ⟨A9', c9', e9, -, hr9, -⟩ := OwnK.shape hOv
           obtain rfl := (Value.slice.inj e9).1
           rw [← HC.out] at hr9
           obtain ⟨b9, o9, hA9, hc0⟩ := hr9 _ _ (cells2_get (List.getElem?_eq_getElem hxl)).1
           obtain ⟨b9', o9', hA9', hc1⟩ := hr9 _ _ (cells2_get (List.getElem?_eq_getElem hxl)).2
           subst hA9
           cases hA9'
           have hel := hT8.own _ (List.getElem_mem hxl)
           have hLx := HLe.out _ (List.getElem_mem hxl)
           have hoff : offB (shF l) q ((shE E2)[x]'(by rw [shE_length]; exact hxl)) = decide ((E2[x]).p = (q : Int) ∧ (E2[x]).s ≠ shF l q) := by unfold offB; simp [shE]
           have hnd : ((shE E2).map Prod.fst).Nodup := by
            have e1 : (shE E2).map Prod.fst = E2.map El.p := by simp [shE]
            rw [e1, HP2.out, HP.out]
            refine (List.Nodup.sublist (List.take_sublist _ _) ?_)
            unfold ordO
            split
            ·exact (List.reverse_perm L).nodup_iff.2 HOk.out.2
            ·exact HOk.out.2
           have hskip := oneO_skip (S := shF l) (j := q) (i := x) (sh := shE E2) (by rw [shE_length]; exact hxl)
           have hhit := oneO_hit (S := shF l) (j := q) (i := x) (sh := shE E2) hnd (by rw [shE_length]; exact hxl)
           rw [hoff] at hskip hhit
           have hql : q < l.length := by rw [HL.out]; exact hqn
           have hsq : shF l q = (l[q]).s := by unfold shF; rw [List.getElem?_eq_getElem hql]; rfl
           obtain ⟨b0, o0, hA0, hc2⟩ := cells1_at hS8.row hql
           subst hA0
           have hby2 := (hS8.lst _ (List.getElem_mem hql)).1.by_
           rw [hsq] at hskip hhit
           obtain ⟨f, hf⟩ : ∃ f, l[q] = f := ⟨_, rfl⟩
           rw [hf] at hc2 hby2 hskip hhit
           obtain ⟨e, he⟩ : ∃ e, E2[x] = e := ⟨_, rfl⟩
           rw [he] at hc0 hc1 hel hskip hhit hLx
           obtain ⟨bb, -, -, -, hby1, -, -⟩ := hel
           obtain ⟨ep, eA, es, ec⟩ := e
           obtain ⟨fp, fA, fs, fc⟩ := f
           obtain ⟨en, hen⟩ : ∃ en, es.length = en := ⟨_, rfl⟩
           obtain ⟨fn, hfn⟩ : ∃ fn, fs.length = fn := ⟨_, rfl⟩
           replace hc0 : wr.cell? ⟨b9, o9 + x * 2, none⟩ = some (.int .i64 ep) := hc0
           replace hc1 : wr.cell? ⟨b9, o9 + x * 2 + 1, none⟩ = some (.slice eA en ec) := by rw [← hen, Nat.add_assoc]; exact hc1
           replace hc2 : wr.cell? ⟨b0, o0 + q, none⟩ = some (.slice fA fn fc) := by rw [← hfn]; exact hc2
           replace hby1 : Bytes wr eA (bs es) := hby1
           replace hby2 : Bytes wr fA (bs fs) := hby2
           have HV0 : Hid (wr.drew.cell? ⟨b9, o9 + x * 2, none⟩ = some (.int .i64 ep) ∧ wr.drew.cell? ⟨b9, o9 + x * 2 + 1, none⟩ = some (.slice eA en ec) ∧ wr.drew.cell? ⟨b0, o0 + q, none⟩ = some (.slice fA fn fc) ∧ (convert 22 9 (.slice eA en ec)).run Tryz.prog wr.drew = .ok (.string (str (bs es))) wr.drew ∧ (convert 22 9 (.slice fA fn fc)).run Tryz.prog wr.drew = .ok (.string (str (bs fs))) wr.drew) := Lib.hid ⟨hc0, hc1, hc2, conv_f hby1.drew en ec hen, conv_f hby2.drew fn fc hfn⟩
           have hskip' : decide (ep = (q : Int) ∧ es ≠ fs) = false → oneO (shF l) (shE E2) q (x + 1) = oneO (shF l) (shE E2) q x := hskip
           have hhit' : decide (ep = (q : Int) ∧ es ≠ fs) = true → oneO (shF l) (shE E2) q x = [] ∧ oneO (shF l) (shE E2) q (x + 1) = [(q : Int)] := hhit
           have HE : Hid (((str (bs es)).toList == (str (bs fs)).toList) = decide (es = fs)) := Lib.hid (by
            rw [Bool.eq_iff_iff, beq_iff_eq, decide_eq_true_iff, ByteArray.toList_eq, ByteArray.toList_eq, str_data, str_data]
            constructor
            ·intro h
             refine bs_inj.1 (str_inj (bs_lt es) (bs_lt fs) ?_)
             unfold str; rw [h]
            ·intro h; rw [h])
           have hs7 := HW8.out.size
           have hxi2 : (x : Int) < (i : Int) := by omega
           clear hOv hT8 hbl hS8 e9 hr9 hoff hnd hskip hhit hsq hby1 hby2 hen hfn he hf hql hE2
           clear hc0 hc1 hc2
           have hcase : (ep = (q : Int) ∧ es ≠ fs) ∨ (ep = (q : Int) ∧ es = fs) ∨ ¬ ep = (q : Int) := by
            by_cases h1 : ep = (q : Int)
            ·by_cases h2 : es = fs
             ·exact .inr (.inl ⟨h1, h2⟩)
             ·exact .inl ⟨h1, h2⟩
            ·exact .inr (.inr h1)
           rcases hcase with ⟨hnode, hsame⟩ | ⟨hnode, hsame⟩ | hnode
           ·have hE1 := HE.out
            rw [decide_eq_false hsame] at hE1
            have hE2 : ((str (bs es)).toList != (str (bs fs)).toList) = true := by rw [bne, hE1]; rfl
            have hn1 : (ep == (q : Int)) = true := by simpa using hnode
            obtain ⟨ho1, ho2⟩ := hhit' (decide_eq_true ⟨hnode, hsame⟩)
            have hOx := HO8.out
            rw [ho1, List.append_nil] at hOx ⊢
            have HE2 : Hid (zs (oth (shF l) (shE E2) q) ++ zs [(q : Int)] = zs (oth (shF l) (shE E2) q ++ oneO (shF l) (shE E2) q (x + 1))) := Lib.hid (by rw [ho2, ← zs_append])
            obtain ⟨N, hN⟩ : ∃ N, (oth (shF l) (shE E2) q).length = N := ⟨_, rfl⟩
            have HNl : Hid ((zs (oth (shF l) (shE E2) q)).length = N) := Lib.hid (by rw [zs_length, hN])
            have hN9 : N ≤ 300 := by
             rw [← hN]
             unfold oth wrongs
             rw [List.length_map]
             have := List.length_filter_le (fun j : Nat => (shE E2).any fun o => decide (o.1 = (j : Int) ∧ o.2 ≠ shF l j)) (List.range q)
             rw [List.length_range] at this
             omega
            rw [hN] at hOx ⊢
            have HOx := Lib.hid hOx
            clear hhit' hskip' hnode hsame ho1 ho2 hOx HO8 HE hN
            go_wp2_with fail
            go_region_held (fun V => V.cell? ⟨b9, o9 + x * 2, none⟩ = some (.int .i64 ep) ∧ V.cell? ⟨b9, o9 + x * 2 + 1, none⟩ = some (.slice eA en ec) ∧ V.cell? ⟨b0, o0 + q, none⟩ = some (.slice fA fn fc) ∧ (convert 22 9 (.slice eA en ec)).run Tryz.prog V = .ok (.string (str (bs es))) V ∧ (convert 22 9 (.slice fA fn fc)).run Tryz.prog V = .ok (.string (str (bs fs))) V) (with_reducible exact HV0.out) (fail)
            all_goals
             have HO9 := Lib.hid HOx.out.drew
             have HW9 := Lib.hid HW8.out.drew
             obtain ⟨w9, hw9⟩ : ∃ w9, wr.drew = w9 := ⟨_, rfl⟩
             rw [hw9] at HO9 HW9 ⊢
             have hz9 : w7.heap.size ≤ w9.heap.size := HW9.out.size
             clear hw9
             have hK : OwnK 1 (w9.alloc (.cells #[.int .i64 (q : Int)] 3)) w7.heap.size 3 (.slice P2 N cp2) N (zs (oth (shF l) (shE E2) q)) := by
              have := HO9.out.alloc (.cells #[.int .i64 (q : Int)] 3)
              unfold Own at this
              rw [HNl.out] at this
              exact this
             obtain ⟨v2, w10, hrun, hown, hg10, -⟩ := run_appK (P := Tryz.prog) (w9.alloc (.cells #[.int .i64 (q : Int)] 3)) 1 w7.heap.size 38 38 3 _ 8 Tryz.underlying38 info_i rfl (by omega) _ N _ hK ⟨w9.heap.size, 0, none⟩ 1 1 (zs [(q : Int)]) rfl (Row.new _ _ _ _) (zs_one _) (by omega) (by omega) (by rw [World.size_alloc]; omega)
             have hB10 := (HW9.out.alloc hz9 (.cells #[.int .i64 (q : Int)] 3)).trans (hK.grew (by rw [World.size_alloc]; omega) hg10)
             rw [HE2.out] at hown
             have hown := (own1_of hown).1
             obtain ⟨P3, cp3, rfl, -, -⟩ := hown.form
             have HO10 := Lib.hid hown
             have HW10 := Lib.hid hB10
             rw [zs_length] at hrun HO10
             obtain ⟨N2, hN2⟩ : ∃ N2, (oth (shF l) (shE E2) q ++ oneO (shF l) (shE E2) q (x + 1)).length = N2 := ⟨_, rfl⟩
             rw [hN2] at hrun HO10
             have HN2 := Lib.hid hN2
             clear hN2
             clear hown hg10 hB10 hK
             go_wp2
             go_roundw
             case rel => exact ⟨x + 1, P3, cp3, by omega, by go_num, by rw [HN2.out], HO10, HW10⟩
             case measure => first | (simp [intOf]; done) | (simp [intOf]; omega)
           ·have hE1 := HE.out
            rw [decide_eq_true hsame] at hE1
            have hE2 : ((str (bs es)).toList != (str (bs fs)).toList) = false := by rw [bne, hE1]; rfl
            have hn1 : (ep == (q : Int)) = true := by simpa using hnode
            have HEq := Lib.hid (hskip' (decide_eq_false fun h => h.2 hsame))
            have HO9 := Lib.hid HO8.out.drew
            have HW9 := Lib.hid HW8.out.drew
            obtain ⟨N, hN⟩ : ∃ N, (oth (shF l) (shE E2) q ++ oneO (shF l) (shE E2) q x).length = N := ⟨_, rfl⟩
            rw [hN] at HO9 ⊢
            have HN := Lib.hid hN
            clear hhit' hskip' hnode hsame HO8 HE hN
            go_wp2_with fail
            go_region_held (fun V => V.cell? ⟨b9, o9 + x * 2, none⟩ = some (.int .i64 ep) ∧ V.cell? ⟨b9, o9 + x * 2 + 1, none⟩ = some (.slice eA en ec) ∧ V.cell? ⟨b0, o0 + q, none⟩ = some (.slice fA fn fc) ∧ (convert 22 9 (.slice eA en ec)).run Tryz.prog V = .ok (.string (str (bs es))) V ∧ (convert 22 9 (.slice fA fn fc)).run Tryz.prog V = .ok (.string (str (bs fs))) V) (with_reducible exact HV0.out) (fail)
            all_goals
             obtain ⟨w9, hw9⟩ : ∃ w9, wr.drew = w9 := ⟨_, rfl⟩
             rw [hw9] at HO9 HW9 ⊢
             clear hw9
             go_wp2
             go_roundw
             case rel => exact ⟨x + 1, P2, cp2, by omega, by go_num, by rw [HEq.out, HN.out], by rw [HEq.out]; exact HO9, HW9⟩
             case measure => first | (simp [intOf]; done) | (simp [intOf]; omega)
           ·have hn1 : (ep == (q : Int)) = false := by simpa using hnode
            have hn2 : decide (ep = (q : Int)) = false := by simpa using hnode
            have HEq := Lib.hid (hskip' (decide_eq_false fun h => hnode h.1))
            have HO9 := Lib.hid HO8.out.drew
            have HW9 := Lib.hid HW8.out.drew
            obtain ⟨N, hN⟩ : ∃ N, (oth (shF l) (shE E2) q ++ oneO (shF l) (shE E2) q x).length = N := ⟨_, rfl⟩
            rw [hN] at HO9 ⊢
            have HN := Lib.hid hN
            clear hhit' hskip' hnode HO8 HE hN
            go_wp2_with fail
            obtain ⟨hv0, -, -, -, -⟩ := HV0.out
            go_region
            all_goals
             obtain ⟨w9, hw9⟩ : ∃ w9, wr.drew = w9 := ⟨_, rfl⟩
             rw [hw9] at HO9 HW9 ⊢
             clear hw9
             go_wp2
             go_roundw
             case rel => exact ⟨x + 1, P2, cp2, by omega, by go_num, by rw [HEq.out, HN.out], by rw [HEq.out]; exact HO9, HW9⟩
             case measure => first | (simp [intOf]; done) | (simp [intOf]; omega)
          ·have hxe : x = i := by omega
           have HOn : Hid (oth (shF l) (shE E2) q ++ oneO (shF l) (shE E2) q x = oth (shF l) (shE E2) (q + 1)) := Lib.hid (by rw [oth_succ, shE_length, hE2, hxe])
           have HO9 := HO8.out
           rw [HOn.out] at HO9 ⊢
           have HO9 := Lib.hid HO9
           have hxi2 : ¬ ((x : Int) < (i : Int)) := by omega
           clear HO8 hE2 hxe
           go_wp2_with fail
           go_roundw
           case rel => exact ⟨q + 1, P2, cp2, by omega, by go_num, rfl, HO9, HW8⟩
           case measure => first | (simp [intOf]; done) | (simp [intOf]; omega)
        ·have hqe : q = n := by omega
         have hO := HOt.out
         rw [hqe] at hO ⊢
         have hcp := own_cap2 (n := (oth (shF l) (shE E2) n).length) hO (zs_length _)
         have hw1s : w.heap.size ≤ w1.heap.size := HB1.out.size
         have hW71 := HW.out.size
         have HX : Hid (ToldG l n t tu w (.returned (.tuple #[.slice A9 i c9, .slice P (oth (shF l) (shE E2) n).length cp])) wr) := Lib.hid ⟨L, A9, i, c9, E2, P, _, cp, HOk.out, HM.out, hle, rfl, rfl, rfl, hcc9, hcp, (by rw [HC.out]; exact (HOv.out.below HW7.out).more hw1s), ⟨fun e he => by
          obtain ⟨b, h1, h2, h3⟩ := (HT.out.below HW7.out).own e he
          exact ⟨b, h1, by omega, h3⟩, (HT.out.below HW7.out).sep⟩, by rw [HP2.out, HP.out, List.take_of_length_le (by rw [ordO_length, HM.out]; exact Nat.le_refl _)], Nat.le_trans HN.out hj, lens_of HFs.out HP2.out HC.out, hO.more (by omega), (HB1.out.trans (HW.out.mono hw1s)).trans (HW7.out.mono (by omega))⟩
         obtain ⟨N, hN⟩ : ∃ N, (oth (shF l) (shE E2) n).length = N := ⟨_, rfl⟩
         rw [hN] at HX ⊢
         have hqn2 : ¬ ((q : Int) < (n : Int)) := by omega
         clear hO hcp hN HOt hqe hE2
         go_wp2_with fail
         go_ret2
         exact HX.out
end Go.Proofs.YtofihklinkpbiaaGreat.Ms

namespace Go.Proofs.YtofihklinkpbiaaGreat.localTells
open Go.RowKit Go.Shelf F8 GF Poly Rd Ms Lo
attribute [local go_sem] Oper.semAt_some


theorem own_keepI {w w' : World} {g B n c : Nat} {A : Option Addr} {l : List Int} (h : Own w B 3 (.slice A n c) (zs l)) (hf : Fld w g) (hp : Past w.heap.size g w w') : OwnK 1 w' B 3 (.slice A n c) (zs l).length (zs l) :=
 OwnK.grown (show OwnK 1 w B _ _ _ _ from h) (row := some g) ⟨hp.os, hp.tape, hp.output, hp.size, fun i hi hn => hp.block i hi (fun e => hn (by rw [e]))⟩ (.inr fun hv => by
  rcases hf with hf | hf
  ·exact own_nb h hf (by decide) hv
  ·exact own_nb h hf (by decide) hv)

structure LS (S : Lc) (w : World) (A5 : Option Addr) (wd : List F8) (A6 : Option Addr) (E : List El) (V : World) : Prop where
 lw : Lw S w V
 wd_ : BF S.g V A5 wd
 els : Els S.g V A6 E
theorem LS.go {S : Lc} {w V V' : World} {A5 A6 : Option Addr} {wd : List F8} {E : List El} (h : LS S w A5 wd A6 E V) (hf : FldP V' (some ⟨S.g, 0, none⟩)) (hp : Past V.heap.size S.g V V') : LS S w A5 wd A6 E V' :=
 ⟨h.lw.go hf hp, h.wd_.past hp, h.els.past h.lw.ok.fld.fld hp⟩
theorem LS.below {S : Lc} {w V V' : World} {A5 A6 : Option Addr} {wd : List F8} {E : List El} (h : LS S w A5 wd A6 E V) (hb : Below V.heap.size V V') : LS S w A5 wd A6 E V' := h.go (h.lw.ok.fld.below hb) (Past.of_below hb _)
set_option maxRecDepth 100000 in
set_option maxHeartbeats 8000000 in
theorem core (PS : Poly.Spec) (Z : Wl.Spec) (w : World) (n k r : Int) (hl0 : -9223372036854775808 ≤ n) (hn2 : r < 9223372036854775808) (B : Option Addr) (q : List F8) (o c : Nat) (ho : q.length = o) (hbq : Bytes w B (bs q)) (bits : Nat) (tu : Bool) (D : Option Addr) (a1 : List F8) (p f : Nat) (hp : a1.length = p) (hbr : Bytes w D (bs a1)) (D2 : Option Addr) (a2 : List F8) (p2 f2 : Nat) (hp2 : a2.length = p2) (hbr2 : Bytes w D2 (bs a2)) (tt : Nat) (htt : tt < 256) :
  Calls Tryz.prog 8 #[.int .i64 n, .int .i64 k, .int .i64 r, .slice B o c, .int .u64 bits, .bool tu, .slice D p f, .slice D2 p2 f2, .int .u8 tt] w fun e w' => e = .returned (.bool true) ∧ Below w.heap.size w w' := by
 have HB := Lib.hid hbq
 have HO := Lib.hid ho
 have HD := Lib.hid hbr
 have HP := Lib.hid hp
 have HD2 := Lib.hid hbr2
 have HP2 := Lib.hid hp2
 clear hbq ho hbr hp hbr2 hp2
 have hcase : n > 51 ∨ (¬ n > 51 ∧ k > 51) ∨ (¬ n > 51 ∧ ¬ k > 51 ∧ r > 51) ∨ (¬ n > 51 ∧ ¬ k > 51 ∧ ¬ r > 51 ∧ p > 6) ∨ (¬ n > 51 ∧ ¬ k > 51 ∧ ¬ r > 51 ∧ ¬ p > 6) := by omega
 rcases hcase with h1 | ⟨h1, h2⟩ | ⟨h1, h2, h3⟩ | ⟨h1, h2, h3, h4⟩ | ⟨h1, h2, h3, h4⟩
 ·clear HB HO HD HP HD2 HP2
  go_enter Tryz.func8, Tryz.ntmps8
  go_wp2_with (go_at_call 27; (with_reducible refine (works_calls PS Z _).mono ?_); rintro e wz ⟨rfl, HZ⟩)
  go_ret
  exact ⟨rfl, HZ⟩
 ·clear HB HO HD HP HD2 HP2
  go_enter Tryz.func8, Tryz.ntmps8
  go_wp2_with (go_at_call 27; (with_reducible refine (works_calls PS Z _).mono ?_); rintro e wz ⟨rfl, HZ⟩)
  go_ret
  exact ⟨rfl, HZ⟩
 ·clear HB HO HD HP HD2 HP2
  go_enter Tryz.func8, Tryz.ntmps8
  go_wp2_with (go_at_call 27; (with_reducible refine (works_calls PS Z _).mono ?_); rintro e wz ⟨rfl, HZ⟩)
  go_ret
  exact ⟨rfl, HZ⟩
 ·have hp6i : decide ((p : Int) > 6) = true := by simp; omega
  clear HB HO HD HP HD2 HP2 h4
  go_enter Tryz.func8, Tryz.ntmps8
  go_wp2_with (go_at_call 27; (with_reducible refine (works_calls PS Z _).mono ?_); rintro e wz ⟨rfl, HZ⟩)
  go_ret
  exact ⟨rfl, HZ⟩
 have hp6i : decide ((p : Int) > 6) = false := by simp; omega
 have HBnd := Lib.hid (And.intro h1 (And.intro h2 (And.intro h3 h4)))
 go_enter Tryz.func8, Tryz.ntmps8
 go_wp2_with fail
 refine (GF.new_calls w).mono ?_
 rintro e w1 ⟨rfl, hw1⟩
 have HMd := Lib.hid (made n k r w w1 hw1 hl0 hn2)
 clear hw1
 go_wp2_with fail
 refine HMd.out.mono ?_
 clear HMd
 rintro e w2 (⟨hgood, S, hL, -, rfl⟩ | ⟨-, rfl, HBz⟩)
 rotate_left
 ·go_wp2_with (go_at_call 27; (with_reducible refine (works_calls PS Z _).mono ?_); rintro e wz ⟨rfl, HZ⟩)
  go_ret
  exact ⟨rfl, HBz.trans (HZ.mono HBz.size)⟩
 have HL := Lib.hid hL.lw
 have hnums := hL.lw.ok.par.nums
 obtain ⟨kn, hkn⟩ : ∃ kn, S.k = kn := ⟨_, rfl⟩
 obtain ⟨sn, hsn⟩ : ∃ sn, S.n = sn := ⟨_, rfl⟩
 obtain ⟨tl, htl⟩ : ∃ tl, S.T = tl := ⟨_, rfl⟩
 obtain rfl : n = (sn : Int) := by rw [← hsn]; exact hL.en.symm
 obtain rfl : k = (kn : Int) := by rw [← hkn]; exact hL.ek.symm
 have hsn9 : sn ≤ 255 := by omega
 have hkn9 : kn ≤ 255 := by omega
 have htl9 : tl ≤ 255 := by rw [← htl]; unfold Lc.T; omega
 have hKq : kn = S.q * S.r := by rw [← hkn]; exact hL.lw.ok.par.ek
 have HKq := Lib.hid hKq
 have HSn := Lib.hid hsn
 have HKn := Lib.hid hkn
 have HTl := Lib.hid htl
 have HXl : Hid (S.xs.length = sn) := Lib.hid (by rw [hL.lw.ok.len, hsn])
 have HXn := Lib.hid hL.lw.ok.nd
 have HR1 := Lib.hid hL.lw.ok.par.r1
 clear hL hnums hkn hsn htl hKq hgood hl0 hn2
 have HFu := Lib.hid (kfull_calls B q o c kn w2 HO.out (HB.out.below HL.out.bel) (by omega))
 go_wp2_with fail
 refine HFu.out.mono ?_
 rintro e w4 ⟨A4, c4, rfl, hc4, hO4, hb4⟩
 obtain ⟨mx, hm⟩ : ∃ m, full q kn = m := ⟨_, rfl⟩
 have hml : mx.length = kn := by rw [← hm, full_length]
 rw [hm] at hO4
 have HL4 := Lib.hid (HL.out.below hb4)
 have HM4 := Lib.hid (BF.own HL4.out.ok.fld hO4)
 have HMl := Lib.hid hml
 clear hO4 hb4 hm hml HFu HL
 have hEn := encode_calls PS HL4.out.ok A4 mx kn c4 HMl.out HM4.out
 rw [show encZ S.xs S.q S.r mx = (word (pol S.q S.r mx) S.xs, 0) from if_pos (by rw [HMl.out, HKq.out])] at hEn
 have HEn := Lib.hid hEn
 clear hEn
 go_wp2_with fail
 refine HEn.out.mono ?_
 clear HEn
 rintro e w5 ⟨A5, c5, rfl, hc5, hO5, hf5, hp5⟩
 obtain ⟨wd, hwd⟩ : ∃ wd, word (pol S.q S.r mx) S.xs = wd := ⟨_, rfl⟩
 have hwl : wd.length = sn := by rw [← hwd, word_length, HXl.out]
 rw [hwd] at hc5 hO5
 rw [hwd, hwl]
 rw [hwl] at hc5 hO5
 have hp5' : Past w4.heap.size S.g w4 w5 := hp5
 have HL5 := Lib.hid (HL4.out.go hf5 hp5')
 have HM5 := Lib.hid (HM4.out.past hp5')
 have HW5 := Lib.hid (BF.own hf5 hO5)
 have HWd := Lib.hid hwd
 have HWl := Lib.hid hwl
 clear hO5 hf5 hp5 hp5' hwd hwl HL4 HM4
 obtain ⟨s, hs⟩ : ∃ s : Nat, tt % 4 = s := ⟨_, rfl⟩
 have hs3 : s ≤ 3 := by omega
 have es1 : (tt : Int) % 4 = (s : Int) := by omega
 have es2 : (tt : Int).tmod 4 = (s : Int) := by rw [Int.tmod_eq_emod_of_nonneg (by omega)]; exact es1
 have es3 : IntKind.u8.wrap (s : Int) = (s : Int) := by rw [IntKind.wrap_u8']; omega
 have es4 : IntKind.i64.wrap (s : Int) = (s : Int) := IntWalk.i64_in _ (by omega)
 have es5 : IntKind.i64.wrap (2 * (s : Int)) = 2 * (s : Int) := IntWalk.i64_in _ (by omega)
 have es6 : IntKind.i64.wrap ((tl : Int) + 2 * (s : Int)) = (tl : Int) + 2 * (s : Int) := IntWalk.i64_in _ (by omega)
 have hnn : ((sn : Int) != (sn : Int)) = false := by simp
 have HRw := Lib.hid (rows_calls A5 wd sn c5 w5 HWl.out (by omega) HW5.out hc5)
 clear hs
 go_wp2_with fail
 refine HRw.out.mono ?_
 rintro e w6 ⟨A6, c6, l6, rfl, hc6, hO6, hL6, hl6, hb6⟩
 rw [HWl.out] at hc6 hO6 ⊢
 have HL6 := Lib.hid (HL5.out.below hb6)
 have HM6 := Lib.hid (HM5.out.below hb6)
 have HW6 := Lib.hid (HW5.out.below hb6)
 have HS6 : Hid (Shs S.g w6 A6 l6) := Lib.hid ⟨own_row (own1_of hO6).1, hL6⟩
 have HLs := Lib.hid hl6
 have hln : l6.length = sn := by have := congrArg List.length hl6; simpa [HWl.out] using this
 have hsz : ∀ e ∈ l6, e.s.length ≤ 1000 := fun e he => by
  have h1 : e.s ∈ l6.map El.s := List.mem_map_of_mem he
  rw [hl6] at h1
  obtain ⟨x, -, h2⟩ := List.mem_map.1 h1
  rw [← h2]; show 1 ≤ 1000; omega
 have hbl := HL6.out.bel
 have HTo := Lib.hid (told_calls S.g A6 l6 sn c6 bits tu D a1 p f D2 a2 p2 f2 s w6 hln hsn9 HS6.out hsz HP.out (by omega) (HD.out.below hbl) HP2.out (HD2.out.below hbl) hs3)
 clear hO6 hL6 hl6 hb6 hln hsz hbl HRw HL5 HM5 HW5
 go_wp2_with fail
 refine HTo.out.mono ?_
 rintro e w7 ⟨L, A7, m7, c7, E, P7, pn, cp, hL, hLm, hm7, -, hpn, rfl, hc7, hcp, hO7, hT7, hP7, hnb, hlen, hOp, hb7⟩
 have hEl : E.length = m7 := by have := congrArg List.length hP7; rw [List.length_map, ordO_length] at this; omega
 have hok : LOk S.xs.length (shE E) := by
  have h := told_lok HLs.out (by rw [HWl.out]; exact hL) hP7 hlen
  rw [HWl.out] at h
  rw [HXl.out]; exact h
 have hcg : ∀ j, j < sn → shF l6 j = valF S.xs (pol S.q S.r mx) j := fun j hj => by
  rw [shF_cut HLs.out (by rw [HWl.out]; exact hj), val_word _ _ (by rw [HXl.out]; exact hj), HWd.out]
 have hnb2 : nb (valF S.xs (pol S.q S.r mx)) (shE E) ≤ s := by
  rw [← nb_congr (n := sn) (by rw [← HXl.out]; exact hok) hcg]; exact hnb
 have hwr : wrongs sn (shF l6) (shE E) = wrongs S.xs.length (valF S.xs (pol S.q S.r mx)) (shE E) := by
  rw [HXl.out]; exact wrongs_congr hcg
 rw [hwr] at hOp hpn
 have hg6 := HL6.out.ok.fld.fld.lt
 have hm79 : m7 ≤ 1000 := by omega
 have HL7 := Lib.hid (HL6.out.below hb7)
 have HM7 := Lib.hid (HM6.out.below hb7)
 have HW7 := Lib.hid (HW6.out.below hb7)
 have HE7 : Hid (Els S.g w7 A7 E) := Lib.hid (hO7.els (te_lst hT7 hg6))
 have HDe := Lib.hid (decode_calls Z HL7.out.ok A7 E m7 c7 (s : Int) (by omega) (by omega) hEl hm79 HE7.out)
 have HOk := Lib.hid hok
 have HNb := Lib.hid hnb2
 have HPn := Lib.hid hpn
 have HOp := Lib.hid hOp
 have HEl := Lib.hid hEl
 have hpn9 : pn ≤ 1000000 := by
  have h1 := wrongs_le S.xs.length (valF S.xs (pol S.q S.r mx)) (shE E)
  omega
 have HTd : Hid ((shE E).length = m7) := Lib.hid (by rw [shE_length, hEl])
 clear hL hLm hP7 hnb hlen hO7 hT7 hb7 hOp hok hcg hnb2 hwr hpn hEl HTo hcp hg6 HS6 HLs HL6 HM6 HW6
 go_wp2_with fail
 refine HDe.out.mono ?_
 clear HDe
 rintro e w8 ⟨ms, wl, z, hDI, A8, c8, B8, d8, rfl, hc8, hd8, hO8, hO8b, hf8, hp8⟩
 have HL8 := Lib.hid (HL7.out.go hf8 hp8)
 have HM8 := Lib.hid (HM7.out.past hp8)
 have HW8 := Lib.hid (HW7.out.past hp8)
 have HE8 := Lib.hid (HE7.out.past HL7.out.ok.fld.fld hp8)
 have hOp8 := (own1_of (own_keepI HOp.out HL7.out.ok.fld.fld hp8)).1
 have HTe := tells_calls HL8.out.ok
 rw [HTl.out] at HTe
 have HTe := Lib.hid HTe
 by_cases hfew : (m7 : Int) < (tl : Int) + 2 * (s : Int)
 ·obtain ⟨-, -, rfl⟩ := hDI.only HR1.out HXn.out (lis_few HOk.out (by omega) (by rw [HTd.out]; show (m7 : Int) < (S.T : Int) + _; rw [HTl.out]; exact hfew))
  obtain ⟨ml, hml⟩ : ∃ ml, ms.length = ml := ⟨_, rfl⟩
  obtain ⟨wn, hwn⟩ : ∃ wn, wl.length = wn := ⟨_, rfl⟩
  rw [hml, hwn]
  clear hDI hO8 hO8b hf8 hp8 hml hwn hc8 hd8 hOp8
  go_wp2_with (first
   | (go_at_call 29; (with_reducible refine HTe.out.mono ?_); rintro e wq ⟨rfl, rfl⟩)
   | (go_at_call 27; (with_reducible refine (works_calls PS Z _).mono ?_); rintro e wz ⟨rfl, HZ⟩))
  go_ret
  exact ⟨rfl, HL8.out.bel.trans (HZ.mono HL8.out.bel.size)⟩
 obtain ⟨rfl, e2, rfl⟩ := hDI.only HR1.out HXn.out (lis_ok (m := mx) HOk.out (by omega) (by rw [HTd.out]; show (S.T : Int) + _ ≤ (m7 : Int); rw [HTl.out]; omega) (by rw [HMl.out, HKq.out]) (Int.ofNat_le.2 HNb.out))
 have hwn : wl.length = pn := by rw [e2]; exact HPn.out
 rw [HMl.out] at hO8 hc8 ⊢
 rw [hwn] at hO8b hd8 ⊢
 have hSa := same_calls A8 A4 ms ms kn kn c8 c4 w8 HMl.out HMl.out (Own.bytes hO8) HM8.out.by_
 rw [decide_eq_true rfl] at hSa
 have HSa := Lib.hid hSa
 rw [← e2] at hOp8
 have HSz := Lib.hid (Wl.samez_calls B8 P7 wl wl pn pn d8 cp w8 hwn hwn hpn9 (own_row hO8b) (own_row hOp8) true (decide_eq_true rfl))
 have HGood : Hid (∀ j : Nat, j < sn → (j : Int) ∉ E.map El.p → RepIs S.xs S.q S.r (j : Int) (shE E) (s : Int) (coef wd j) 0) := Lib.hid fun j hj hno => by
  refine .inr ⟨⟨⟨by omega, by rw [HXl.out]; omega⟩, by rw [plS_shE]; exact hno⟩, ms, wl, hDI, .inl ⟨rfl, ?_⟩⟩
  rw [Int.toNat_natCast, ← HWd.out, word_get (by rw [HXl.out]; exact hj)]
 have HBadR : Hid (∀ j : Nat, (j : Int) ∈ E.map El.p → RepIs S.xs S.q S.r (j : Int) (shE E) (s : Int) 0 2) := Lib.hid fun j hj => .inl ⟨fun h => h.2 (by rw [plS_shE]; exact hj), rfl, rfl⟩
 have HS8 : Hid (LS S w A5 wd A7 E w8) := Lib.hid ⟨HL8.out, HW8.out, HE8.out⟩
 clear hDI hO8 hO8b hf8 hp8 hwn hc8 hd8 hOp8 hSa e2 HOp HNb HPn HL7 HM7 HW7 HE7 HL8 HM8 HW8 HE8
 go_wp2_with (first
  | (go_at_call 29; (with_reducible refine HTe.out.mono ?_); rintro e wq ⟨rfl, rfl⟩)
  | (go_at_call 21; (with_reducible refine HSa.out.mono ?_); rintro e wq ⟨rfl, rfl⟩)
  | (go_at_call 22; (with_reducible refine HSz.out.mono ?_); rintro e w9 ⟨rfl, hb9⟩; have HS9 := Lib.hid (HS8.out.below hb9); clear hb9))
 go_loopw [30] (fun iv wr => ∃ j : Nat, j ≤ sn ∧ iv = .int .i64 j ∧ Hid (LS S w A5 wd A7 E wr)) (fun iv _ => sn - (intOf iv).toNat)
 case atStart => exact ⟨0, by omega, rfl, HS9⟩
 case round =>
  clear HS8 HS9 HSa HSz HTe
  obtain ⟨j, hj, rfl, HS⟩ := hrel
  by_cases hjn : j < sn
  ·have HRe := Lib.hid (repair_calls PS Z HS.out.lw.ok (j : Int) A7 E m7 c7 (s : Int) (by omega) (by omega) HEl.out hm79 HS.out.els)
   go_wp2_with fail
   refine HRe.out.mono ?_
   rintro e wa ⟨v, z, hR, rfl, hfa, hpa⟩
   have HSa := Lib.hid (HS.out.go hfa hpa)
   clear hfa hpa HRe HS
   go_wp2_with fail
   go_loopw [33, 34] (fun bv iv wr => ∃ x : Nat, x ≤ m7 ∧ iv = .int .i64 x ∧ bv = .bool (decide ((j : Int) ∈ (E.take x).map El.p)) ∧ wr = wa) (fun _ iv _ => m7 - (intOf iv).toNat)
   case atStart => exact ⟨0, by omega, rfl, by simp, rfl⟩
   case round =>
    obtain ⟨x, hx, rfl, hbv, hww⟩ := hrel
    subst hww
    by_cases hxm : x < m7
    ·have hxE : x < E.length := by rw [HEl.out]; exact hxm
     obtain ⟨b, off, hA, hc0, -⟩ := HSa.out.els.at_ hxE
     subst hA
     have HTk : Hid (E.take (x + 1) = E.take x ++ [E[x]]) := Lib.hid (take_succ' E hxE)
     have HPx : Hid (∀ P, (E[x]).p = P → (((j : Int) ∈ (E.take (x + 1)).map El.p) ↔ ((j : Int) ∈ (E.take x).map El.p ∨ P = (j : Int)))) := Lib.hid fun P hP => by
      rw [HTk.out, List.map_append, List.mem_append]
      simp only [List.map_cons, List.map_nil, List.mem_singleton]
      rw [hP]
      exact or_congr Iff.rfl eq_comm
     obtain ⟨P, hP⟩ : ∃ P, (E[x]).p = P := ⟨_, rfl⟩
     rw [hP] at hc0
     have HIff := Lib.hid (HPx.out P hP)
     clear hP HPx HTk hxE
     by_cases hin : (j : Int) ∈ (E.take x).map El.p
     ·rw [decide_eq_true hin] at hbv
      subst hbv
      have HD2 : Hid (decide ((j : Int) ∈ (E.take (x + 1)).map El.p) = true) := Lib.hid (decide_eq_true (HIff.out.2 (.inl hin)))
      clear hin HIff
      go_wp2
      go_roundw
      case rel => exact ⟨x + 1, by omega, by go_num, by rw [HD2.out], trivial⟩
      case measure => first | (simp [intOf]; done) | (simp [intOf]; omega)
     ·rw [decide_eq_false hin] at hbv
      subst hbv
      by_cases hPj : P = (j : Int)
      ·have HD2 : Hid (decide ((j : Int) ∈ (E.take (x + 1)).map El.p) = true) := Lib.hid (decide_eq_true (HIff.out.2 (.inr hPj)))
       have hpj : (P == (j : Int)) = true := by simpa using hPj
       clear hin HIff hPj
       go_wp2
       go_roundw
       case rel => exact ⟨x + 1, by omega, by go_num, by rw [HD2.out], trivial⟩
       case measure => first | (simp [intOf]; done) | (simp [intOf]; omega)
      ·have HD2 : Hid (decide ((j : Int) ∈ (E.take (x + 1)).map El.p) = false) := Lib.hid (decide_eq_false fun h => by
        rcases HIff.out.1 h with h | h
        ·exact hin h
        ·exact hPj h)
       have hpj : (P == (j : Int)) = false := by simpa using hPj
       have hpj2 : decide (P = (j : Int)) = false := decide_eq_false hPj
       clear hin HIff hPj
       go_wp2
       go_roundw
       case rel => exact ⟨x + 1, by omega, by go_num, by rw [HD2.out], trivial⟩
       case measure => first | (simp [intOf]; done) | (simp [intOf]; omega)
    ·obtain rfl : x = m7 := by omega
     rw [List.take_of_length_le (by rw [HEl.out]; exact Nat.le_refl _)] at hbv
     have hxx : ¬ ((x : Int) < (x : Int)) := by omega
     by_cases hin : (j : Int) ∈ E.map El.p
     ·rw [decide_eq_true hin] at hbv
      subst hbv
      obtain ⟨rfl, rfl⟩ := hR.only HR1.out HXn.out (HBadR.out j hin)
      clear hR hin
      go_wp2
      go_roundw
      case rel => exact ⟨j + 1, by omega, by go_num, HSa⟩
      case measure => first | (simp [intOf]; done) | (simp [intOf]; omega)
     ·rw [decide_eq_false hin] at hbv
      subst hbv
      obtain ⟨rfl, rfl⟩ := hR.only HR1.out HXn.out (HGood.out j hjn hin)
      obtain ⟨bw, ow, hA⟩ := where_ HSa.out.wd_.by_ (by rw [HWl.out]; omega)
      subst hA
      have hcw := cellAt HSa.out.wd_.by_ j (by rw [HWl.out]; exact hjn)
      obtain ⟨y, hy⟩ : ∃ y, coef wd j = y := ⟨_, rfl⟩
      rw [hy] at hcw ⊢
      have hyy : ((y.n : Int) != (y.n : Int)) = false := by simp
      clear hR hin hy
      go_wp2
      go_roundw
      case rel => exact ⟨j + 1, by omega, by go_num, HSa⟩
      case measure => first | (simp [intOf]; done) | (simp [intOf]; omega)
  ·obtain rfl : j = sn := by omega
   go_wp2_with (go_at_call 27; (with_reducible refine (works_calls PS Z _).mono ?_); rintro e wz ⟨rfl, HZ⟩)
   go_ret
   exact ⟨rfl, HS.out.lw.bel.trans (HZ.mono HS.out.lw.bel.size)⟩
theorem walk (PS : Poly.Spec) (Z : Wl.Spec) (w : World) (n0 : Int) (hl0 : -9223372036854775808 ≤ n0) (_hn0 : n0 < 9223372036854775808) (n1 : Int) (_hl1 : -9223372036854775808 ≤ n1) (_hn1 : n1 < 9223372036854775808) (n2 : Int) (_hl2 : -9223372036854775808 ≤ n2) (hn2 : n2 < 9223372036854775808) (A3 : Option Addr) (l3 : List Nat) (c3 : Nat) (hb3 : Bytes w A3 l3) (_ : l3.length ≤ c3) (_ : c3 ≤ 9223372036854775807) (n4 : Nat) (_ : n4 < 18446744073709551616) (n5 : Bool) (A6 : Option Addr) (l6 : List Nat) (c6 : Nat) (hb6 : Bytes w A6 l6) (_ : l6.length ≤ c6) (_ : c6 ≤ 9223372036854775807) (A7 : Option Addr) (l7 : List Nat) (c7 : Nat) (hb7 : Bytes w A7 l7) (_ : l7.length ≤ c7) (_ : c7 ≤ 9223372036854775807) (n8 : Nat) (hn8 : n8 < 256) :
  Calls Tryz.prog 8 #[.int .i64 n0, .int .i64 n1, .int .i64 n2, .slice A3 l3.length c3, .int .u64 (n4 : Nat), .bool n5, .slice A6 l6.length c6, .slice A7 l7.length c7, .int .u8 (n8 : Nat)] w fun e w' => e = .returned (.bool true) ∧ Below w.heap.size w w' := by
 obtain ⟨q, rfl⟩ := F8.of_bytes l3 hb3.lt
 obtain ⟨a1, rfl⟩ := F8.of_bytes l6 hb6.lt
 obtain ⟨a2, rfl⟩ := F8.of_bytes l7 hb7.lt
 exact core PS Z w n0 n1 n2 hl0 hn2 A3 q _ c3 (bs_length q).symm hb3 n4 n5 A6 a1 _ c6 (bs_length a1).symm hb6 A7 a2 _ c7 (bs_length a2).symm hb7 n8 hn8
end Go.Proofs.YtofihklinkpbiaaGreat.localTells

namespace Go.Proofs.YtofihklinkpbiaaGreat.localTells
open Go.ChangeShapes Go.WideShapes Go.ChangeAt Go.RowKit
open Go.ChangeMaps (open_string shut_string)
set_option linter.unusedVariables false
theorem own : ownKnob Tryz.prog.godebug = none := by kernel_rfl
theorem laidOut : laidOutB Tryz.prog = true := by kernel_rfl

set_option maxRecDepth 100000 in
theorem contract (H : Type) (enc : TypeId × Value → H) (W : World) (base : Nat) (args : Array Value) (ds gs : List (DataW H)) (before : List MemPlace)
  (hval : ∀ (j : Nat) t v, Tryz.f8.params[j]? = some t → args[j]? = some v → Value.okWide Tryz.prog W .any base t v)
  (hW : DataW.Whole enc Tryz.prog Tryz.f8.params.toList Rows.localTellsSpec.vars false W args.toList ds gs before)
  (hsz : (DataW.weightsEach Tryz.prog (Tryz.f8.params.toList ++ Rows.localTellsSpec.plain.varTypes Tryz.prog) (ds ++ gs)).all (· ≤ reachBytes) = true) :
  Calls Tryz.prog 8 args W fun e W' => ∃ v, e = .returned v ∧ Rows.localTellsSpec.post enc Tryz.prog Tryz.f8 false true false false W args v W' := by
 have hW' := hW
 obtain ⟨p, q, hA0, hV, rfl, hfz, hnd⟩ := hW
 have hA : DataW.TrodAll enc Tryz.prog W 0 (fun _ => true) true Tryz.f8.params.toList args.toList ds p := hA0
 rw [Tryz.params8] at hA hval hsz
 obtain ⟨v0, vs0, d0, ds0, p0, q0, hargs, rfl, rfl, h0, r0⟩ := trodAll_cons hA
 obtain ⟨v1, vs1, d1, ds1, p1, q1, rfl, rfl, rfl, h1, r1⟩ := trodAll_cons r0
 obtain ⟨v2, vs2, d2, ds2, p2, q2, rfl, rfl, rfl, h2, r2⟩ := trodAll_cons r1
 obtain ⟨v3, vs3, d3, ds3, p3, q3, rfl, rfl, rfl, h3, r3⟩ := trodAll_cons r2
 obtain ⟨v4, vs4, d4, ds4, p4, q4, rfl, rfl, rfl, h4, r4⟩ := trodAll_cons r3
 obtain ⟨v5, vs5, d5, ds5, p5, q5, rfl, rfl, rfl, h5, r5⟩ := trodAll_cons r4
 obtain ⟨v6, vs6, d6, ds6, p6, q6, rfl, rfl, rfl, h6, r6⟩ := trodAll_cons r5
 obtain ⟨v7, vs7, d7, ds7, p7, q7, rfl, rfl, rfl, h7, r7⟩ := trodAll_cons r6
 obtain ⟨v8, vs8, d8, ds8, p8, q8, rfl, rfl, rfl, h8, r8⟩ := trodAll_cons r7
 obtain ⟨rfl, rfl, rfl⟩ := trodAll_nil r8
 obtain rfl : args = #[v0, v1, v2, v3, v4, v5, v6, v7, v8] := by cases args; simp_all
 obtain ⟨rfl, rfl⟩ := trodVars_none hV
 obtain ⟨n0, rfl, rfl, rfl, w0⟩ := open_int Tryz.underlying3 (hval 0 3 v0 rfl rfl) h0
 have b0 := wf_bounds_i64 w0
 obtain ⟨n1, rfl, rfl, rfl, w1⟩ := open_int Tryz.underlying3 (hval 1 3 v1 rfl rfl) h1
 have b1 := wf_bounds_i64 w1
 obtain ⟨n2, rfl, rfl, rfl, w2⟩ := open_int Tryz.underlying3 (hval 2 3 v2 rfl rfl) h2
 have b2 := wf_bounds_i64 w2
 obtain ⟨A3, len3, c3, rfl⟩ := okWide_slice Tryz.underlying22 (hval 3 22 v3 rfl rfl)
 have k3 := h3
 have lt3 : ∀ x ∈ p3, x.block < W.heap.size := by obtain ⟨m, hm⟩ := k3; exact DataW.trod_lt m _ _ _ hm
 obtain ⟨l3, rfl, hb3, hc3, hm3⟩ : ∃ l : List Nat, len3 = l.length ∧ Bytes W A3 l ∧ l.length ≤ c3 ∧ c3 ≤ 9223372036854775807 := by
  obtain ⟨fuel, hf⟩ := h3
  rcases open_ints Tryz.underlying22 Tryz.underlying5 (by kernel_rfl) hf with ⟨hcs, _⟩ | ⟨x, l, c, zs, hcs, _, hl, hm, hz, _, hcell, hwz⟩
  ·simp [Value.cells] at hcs
   obtain ⟨rfl, rfl, rfl⟩ := hcs
   exact ⟨[], rfl, Bytes.nil _ _, by simp, by simp⟩
  ·simp [Value.cells] at hcs
   obtain ⟨rfl, rfl, rfl⟩ := hcs
   obtain ⟨h1, h2⟩ := bytes_of hl (by simpa using hz) hcell hwz
   exact ⟨_, h2.symm, h1, by rw [h2]; exact hl, by have h := hm; simp only [maxLen] at h; omega⟩
 obtain ⟨a4, rfl, rfl, rfl, w4⟩ := open_int Tryz.underlying23 (hval 4 23 v4 rfl rfl) h4
 have b4 := wf_bounds_u64 w4
 obtain ⟨n4, rfl⟩ := Int.eq_ofNat_of_zero_le b4.1
 have hn4 : n4 < 18446744073709551616 := by omega
 obtain ⟨n5, rfl, rfl, rfl⟩ := open_bool Tryz.underlying4 (hval 5 4 v5 rfl rfl) h5
 obtain ⟨A6, len6, c6, rfl⟩ := okWide_slice Tryz.underlying22 (hval 6 22 v6 rfl rfl)
 have k6 := h6
 have lt6 : ∀ x ∈ p6, x.block < W.heap.size := by obtain ⟨m, hm⟩ := k6; exact DataW.trod_lt m _ _ _ hm
 obtain ⟨l6, rfl, hb6, hc6, hm6⟩ : ∃ l : List Nat, len6 = l.length ∧ Bytes W A6 l ∧ l.length ≤ c6 ∧ c6 ≤ 9223372036854775807 := by
  obtain ⟨fuel, hf⟩ := h6
  rcases open_ints Tryz.underlying22 Tryz.underlying5 (by kernel_rfl) hf with ⟨hcs, _⟩ | ⟨x, l, c, zs, hcs, _, hl, hm, hz, _, hcell, hwz⟩
  ·simp [Value.cells] at hcs
   obtain ⟨rfl, rfl, rfl⟩ := hcs
   exact ⟨[], rfl, Bytes.nil _ _, by simp, by simp⟩
  ·simp [Value.cells] at hcs
   obtain ⟨rfl, rfl, rfl⟩ := hcs
   obtain ⟨h1, h2⟩ := bytes_of hl (by simpa using hz) hcell hwz
   exact ⟨_, h2.symm, h1, by rw [h2]; exact hl, by have h := hm; simp only [maxLen] at h; omega⟩
 obtain ⟨A7, len7, c7, rfl⟩ := okWide_slice Tryz.underlying22 (hval 7 22 v7 rfl rfl)
 have k7 := h7
 have lt7 : ∀ x ∈ p7, x.block < W.heap.size := by obtain ⟨m, hm⟩ := k7; exact DataW.trod_lt m _ _ _ hm
 obtain ⟨l7, rfl, hb7, hc7, hm7⟩ : ∃ l : List Nat, len7 = l.length ∧ Bytes W A7 l ∧ l.length ≤ c7 ∧ c7 ≤ 9223372036854775807 := by
  obtain ⟨fuel, hf⟩ := h7
  rcases open_ints Tryz.underlying22 Tryz.underlying5 (by kernel_rfl) hf with ⟨hcs, _⟩ | ⟨x, l, c, zs, hcs, _, hl, hm, hz, _, hcell, hwz⟩
  ·simp [Value.cells] at hcs
   obtain ⟨rfl, rfl, rfl⟩ := hcs
   exact ⟨[], rfl, Bytes.nil _ _, by simp, by simp⟩
  ·simp [Value.cells] at hcs
   obtain ⟨rfl, rfl, rfl⟩ := hcs
   obtain ⟨h1, h2⟩ := bytes_of hl (by simpa using hz) hcell hwz
   exact ⟨_, h2.symm, h1, by rw [h2]; exact hl, by have h := hm; simp only [maxLen] at h; omega⟩
 obtain ⟨a8, rfl, rfl, rfl, w8⟩ := open_int Tryz.underlying5 (hval 8 5 v8 rfl rfl) h8
 have b8 := wf_bounds_u8 w8
 obtain ⟨n8, rfl⟩ := Int.eq_ofNat_of_zero_le b8.1
 have hn8 : n8 < 256 := by omega
 clear hA0
 refine (walk Poly.spec (Wl.spec Poly.spec) W n0 b0.1 b0.2 n1 b1.1 b1.2 n2 b2.1 b2.2 A3 l3 c3 hb3 hc3 hm3 n4 hn4 n5 A6 l6 c6 hb6 hc6 hm6 A7 l7 c7 hb7 hc7 hm7 n8 hn8 ).mono fun e W' ⟨he, bel⟩ => ?_
 subst he
 exact ⟨_, rfl, _, _, _, [], _, [], hW', trodAll_mk1 (shut_bool Tryz.underlying4 _), (trodAll_cons_mk (shut_int Tryz.underlying3 w0) (trodAll_cons_mk (shut_int Tryz.underlying3 w1) (trodAll_cons_mk (shut_int Tryz.underlying3 w2) (trodAll_cons_mk (Below.trod laidOut (by kernel_rfl) (of_decide_eq_true (by kernel_rfl)) k3 bel lt3) (trodAll_cons_mk (shut_int Tryz.underlying23 w4) (trodAll_cons_mk (shut_bool Tryz.underlying4 _) (trodAll_cons_mk (Below.trod laidOut (by kernel_rfl) (of_decide_eq_true (by kernel_rfl)) k6 bel lt6) (trodAll_cons_mk (Below.trod laidOut (by kernel_rfl) (of_decide_eq_true (by kernel_rfl)) k7 bel lt7) (trodAll_cons_mk (shut_int Tryz.underlying5 w8) trodAll_mk0))))))))), rfl, bel.frame _, fun h => by cases h⟩

set_option maxRecDepth 100000 in
theorem lifted (os : Os) (started : os.Started) (H : Type) (enc : TypeId × Value → H) :
  ReturnsInHanded {} Tryz.checked os 8 .any (Rows.localTellsSpec.pre6 enc Tryz.prog Tryz.f8 Rows.localTellsRow.domain false) (Rows.localTellsSpec.post enc Tryz.prog Tryz.f8 false true false false) := by
 refine returnsInHanded_of_change_sized (C := Tryz.checked) own started (by kernel_rfl) Tryz.func8
  (ChangeSpec.witness6 (enc := enc) (C := Tryz.checked) false ⟨#[], #[.int .i64 0, .int .i64 0, .int .i64 0, .slice none 0 0, .int .u64 0, .bool false, .slice none 0 0, .slice none 0 0, .int .u8 0], []⟩ 8 (by kernel_rfl) (by kernel_rfl) (by kernel_rfl) (by kernel_rfl)) ?_
 intro W base args ds gs before hval hW _ hsz _
 exact contract H enc W base args ds gs before hval hW hsz


theorem proved : Rows.LocalTellsSaid :=
 OpenClaim.holds_of_wide 8 Tryz.f8 rfl rfl rfl rfl rfl rfl rfl ⟨rfl, rfl, rfl, rfl, rfl⟩ rfl rfl rfl rfl rfl (by kernel_rfl) Tryz.func8 (by kernel_rfl)
  (of_decide_eq_true (by kernel_rfl)) (by unfold Func.isWrapper; first | (rw [if_pos (by decide +kernel)]; kernel_rfl) | (rw [if_neg (by decide +kernel)]; exact ⟨rfl, rfl⟩))
  (fun os started H enc _ => lifted os started H enc)
end Go.Proofs.YtofihklinkpbiaaGreat.localTells
