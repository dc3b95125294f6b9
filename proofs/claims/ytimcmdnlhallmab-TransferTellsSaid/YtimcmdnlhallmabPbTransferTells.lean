/- TransferTells, for every input: the frame round the walk; the argument lists are opened, the walk's contract is met, what was read reads as it did. -/
import Derived.Test.YtimcmdnlhallmabPb11
import Derived.Test.YtimcmdnlhallmabPb10
import Derived.Test.YtimcmdnlhallmabRows
import Derived.WalkKit
import Derived.ProofKit
import Derived.OpenShut
import Derived.ShutString
import Derived.ChangeOld
import Derived.Below
import Derived.Deep.DeepHandedRow
import Derived.SizedLaws
namespace Go.Proofs.Ytimcmdnlhallmab.Ms
open Go.RowKit Go.Shelf F8 Poly GF Rd
attribute [local go_sem] Oper.semAt_some
theorem OwnK.far {k n B : Nat} {w : World} {e : TypeId} {v : Value} {xs : List Value} (h : OwnK k w B e v n xs) {b j : Nat} (hne : v.ownBlock ≠ some b) (u : Value) : OwnK k (w.setCell ⟨b, j, none⟩ u) B e v n xs := by
 refine ⟨h.1, ?_⟩
 rcases h.2 with h2 | ⟨g, cap, cur, rfl, h2, h3, h4⟩
 ·exact .inl h2
 ·refine .inr ⟨g, cap, cur, rfl, h2, ?_, h4⟩
  have hbg : b ≠ g := fun e => hne (by rw [e]; rfl)
  rw [← h3]
  simp [World.setCell, Array.getElem?_modify, hbg]
theorem TE.apart {B B2 n b : Nat} {V : World} {E : List El} {v : Value} {xs : List Value} (h : TE B V E) (ho : OwnK 2 V B2 52 v n xs) {e : El} (he : e ∈ E) (e1 : e.A = some ⟨b, 0, none⟩) : v.ownBlock ≠ some b := fun hv => by
 obtain ⟨b', e2, -, -, -, ⟨cs, hc1, -⟩, -⟩ := h.own e he
 rw [e1] at e2
 cases e2
 rcases ho.2 with ⟨rfl, -⟩ | ⟨g, cap, cur, rfl, -, hh, -⟩
 ·simp [Value.ownBlock] at hv
 ·simp only [Value.ownBlock, Option.some.injEq] at hv
  subst hv
  rw [hc1] at hh
  injection hh with hh
  injection hh with _ hh
  exact absurd hh (by decide)
def shF (l : List El) (j : Nat) : List F8 := ((l[j]?).map El.s).getD []
theorem nb_start {l E : List El} (h : ∀ e ∈ E, ∃ f, l[e.p.toNat]? = some f ∧ f.s = e.s) : nb (shF l) (shE E) = 0 := nb_nil fun o ho => by
 obtain ⟨e, he, rfl⟩ := List.mem_map.1 ho
 obtain ⟨f, h1, h2⟩ := h e he
 show e.s = shF l e.p.toNat
 unfold shF
 rw [h1]
 exact h2.symm
theorem cells2_put {E : List El} {p : Nat} (hp : p < E.length) {F : List F8} (hF : F.length = (E[p]).s.length) : cells2 (E.set p ⟨(E[p]).p, (E[p]).A, F, (E[p]).c⟩) = cells2 E := by
 unfold cells2
 rw [List.flatMap_def, List.flatMap_def, List.map_set]
 have e : El.cs ⟨(E[p]).p, (E[p]).A, F, (E[p]).c⟩ = (E.map El.cs)[p]'(by simpa using hp) := by simp [El.cs, hF]
 rw [e, List.set_getElem_self]
theorem shE_set (E : List El) (p : Nat) (e : El) : shE (E.set p e) = (shE E).set p (e.p, e.s) := by
 unfold shE
 rw [List.map_set]
theorem cells2_lens : ∀ {E E2 : List El}, cells2 E2 = cells2 E → E2.map (fun e => e.s.length) = E.map fun e => e.s.length
 | [], [], _ => rfl
 | [], x :: E2, h => by simp [cells2, El.cs] at h
 | x :: E, [], h => by simp [cells2, El.cs] at h
 | x :: E, y :: E2, h => by
  have h1 : El.cs y ++ cells2 E2 = El.cs x ++ cells2 E := h
  simp only [El.cs, List.cons_append, List.nil_append, List.cons.injEq] at h1
  obtain ⟨-, h2, h3⟩ := h1
  rw [List.map_cons, List.map_cons, cells2_lens h3]
  injection h2 with _ h4 _
  rw [h4]
theorem nb_zero {S : Nat → List F8} {sh : List (Int × List F8)} (h : nb S sh = 0) : ∀ o ∈ sh, o.2 = S o.1.toNat := fun o ho => by
 unfold nb at h
 have h1 := List.eq_nil_of_length_eq_zero h
 by_cases e : o.2 = S o.1.toNat
 ·exact e
 ·have : o ∈ sh.filter fun o => decide (o.2 ≠ S o.1.toNat) := List.mem_filter.2 ⟨ho, by simpa using e⟩
  rw [h1] at this
  simp at this
def ToldG (l : List El) (n t : Nat) (tu : Bool) (w : World) (e : Ending) (w' : World) : Prop :=
 ∃ (L : List Int) (A : Option Addr) (m c : Nat) (E : List El) (P : Option Addr) (pn cp : Nat), OkP n L ∧ L.length = m ∧ m ≤ n ∧ wrongs n (shF l) (shE E) = wrongs n (shF l) (shE E) ∧ (wrongs n (shF l) (shE E)).length = pn ∧
  e = .returned (.tuple #[.slice A m c, .slice P pn cp]) ∧ m ≤ c ∧ pn ≤ cp ∧ OwnK 2 w' w.heap.size 52 (.slice A m c) m (cells2 E) ∧ TE w.heap.size w' E ∧ E.map El.p = ordO tu L ∧ nb (shF l) (shE E) ≤ t ∧
  (∀ e ∈ E, ∃ f, l[e.p.toNat]? = some f ∧ f.s.length = e.s.length) ∧ Own w' w.heap.size 3 (.slice P pn cp) (zs (wrongs n (shF l) (shE E))) ∧ Below w.heap.size w w'
theorem lens_of {l E E2 : List El} (hF : ∀ e ∈ E, ∃ f, l[e.p.toNat]? = some f ∧ f.s = e.s) (hP : E2.map El.p = E.map El.p) (hC : cells2 E2 = cells2 E) : ∀ e ∈ E2, ∃ f, l[e.p.toNat]? = some f ∧ f.s.length = e.s.length := fun e he => by
 obtain ⟨i, hi, rfl⟩ := List.getElem_of_mem he
 have hl := cells2_lens hC
 have hlen : E.length = E2.length := by have := congrArg List.length hP; simpa using this.symm
 obtain ⟨f, h1, h2⟩ := hF (E[i]'(by omega)) (List.getElem_mem _)
 have h3 : (E2[i]).p = (E[i]'(by omega)).p := by
  have := congrArg (fun L => L[i]?) hP
  simpa [hi, hlen] using this
 have h4 : (E2[i]).s.length = (E[i]'(by omega)).s.length := by
  have := congrArg (fun L => L[i]?) hl
  simpa [hi, hlen] using this
 exact ⟨f, by rw [h3]; exact h1, by rw [h4, h2]⟩
end Go.Proofs.Ytimcmdnlhallmab.Ms

namespace Go.Proofs.Ytimcmdnlhallmab.Ms
open Go.RowKit Go.Shelf F8 Poly GF Rd
attribute [local go_sem] Oper.semAt_some
attribute [-go_sem] Builtin.append_
set_option maxRecDepth 100000 in
set_option maxHeartbeats 8000000 in
theorem told0_calls (g : Nat) (A0 : Option Addr) (l : List El) (n c0 x : Nat) (tu : Bool) (A1 : Option Addr) (at_ : List F8) (na ca : Nat) (A2 : Option Addr) (by_ : List F8) (nby cb t : Nat) (w : World) (hl : l.length = n) (hn : n ≤ 255) (hS : Shs g w A0 l) (hsz : ∀ e ∈ l, e.s.length ≤ 1000) (ha : at_.length = na) (hA1 : Bytes w A1 (bs at_)) (hb : by_.length = nby) (hA2 : Bytes w A2 (bs by_)) (ht : t ≤ 3) (hna0 : na = 0) :
  Calls Try.prog 22 #[.slice A0 n c0, .int .u64 x, .bool tu, .slice A1 na ca, .slice A2 nby cb, .int .i64 t] w (ToldG l n t tu w) := by
 have HS := Lib.hid hS
 have HL := Lib.hid hl
 have HA1 := Lib.hid hA1
 have HA2 := Lib.hid hA2
 have HAn := Lib.hid ha
 have HBn := Lib.hid hb
 have HSz := Lib.hid hsz
 have HSo := Lib.hid (Wl.somer_calls x n n (by omega) (by omega) w)
 clear hl hS hsz ha hA1 hb hA2
 go_enter Try.func22, Try.ntmps22
 go_wp2_with fail
 refine HSo.out.mono ?_
 clear HSo
 rintro e w1 ⟨L, A, c, hok, hpw, hle, rfl, hc, hown, hbel⟩
 obtain ⟨m, hm⟩ : ∃ m, L.length = m := ⟨_, rfl⟩
 rw [hm] at hle hc hown ⊢
 have HOk := Lib.hid hok
 have HPw := Lib.hid hpw
 have HM := Lib.hid hm
 have HO := Lib.hid hown
 have HB1 := Lib.hid hbel
 clear hok hpw hm hown hbel
 go_wp2_with fail
 go_loopw [15, 16] (fun ov iv wr => ∃ (i : Nat) (E : List El), i ≤ m ∧ iv = .int .i64 i ∧ Hid (OwnK 2 wr w1.heap.size 52 ov i (cells2 E)) ∧ Hid (E.map El.p = (ordO tu L).take i) ∧ Hid (∀ e ∈ E, ∃ f, l[e.p.toNat]? = some f ∧ f.s = e.s) ∧ Hid (TE w1.heap.size wr E) ∧ Hid (Below w1.heap.size w1 wr)) (fun _ iv _ => m - (intOf iv).toNat)
 case atStart => exact ⟨0, [], by omega, rfl, Lib.hid (OwnK.nil _ _ _ _), Lib.hid rfl, Lib.hid (by simp), Lib.hid (TE.nil _ _), Lib.hid (Below.refl _ _)⟩
 case round =>
  obtain ⟨i, E, hi, rfl, HOv, HP, HF, HT, HW⟩ := hrel
  by_cases him : i < m
  ·have hti : i < L.length := by rw [HM.out]; exact him
   obtain ⟨q, hq⟩ : ∃ q, m - 1 - i = q := ⟨_, rfl⟩
   have hq9 : (m : Int) - 1 - (i : Int) = (q : Int) := by omega
   have hqm : q < m := by omega
   have htq : q < L.length := by rw [HM.out]; exact hqm
   have hat := ordO_at tu L hti
   have hlq : L.length - 1 - i = q := by rw [HM.out]; exact hq
   have HTk : Hid ((ordO tu L).take (i + 1) = (ordO tu L).take i ++ [if tu then L[q] else L[i]]) := Lib.hid (by
    rw [take_succ' _ (by rw [ordO_length]; exact hti), hat]
    simp only [hlq])
   obtain ⟨A', c', e1, hr, -⟩ := Own.form (HO.out.below HW.out)
   obtain rfl := (Value.slice.inj e1).1
   clear e1
   obtain ⟨b, off, rfl, hc1⟩ := hr i (.int .i64 L[i]) (by simp [zs, hti])
   obtain ⟨b', off', e1, hc2⟩ := hr q (.int .i64 L[q]) (by simp [zs, htq])
   cases e1
   obtain ⟨z1, hz1⟩ : ∃ z, L[i] = z := ⟨_, rfl⟩
   obtain ⟨z2, hz2⟩ : ∃ z, L[q] = z := ⟨_, rfl⟩
   obtain ⟨kk, hkk⟩ : ∃ z, (if tu then L[q] else L[i]) = z := ⟨_, rfl⟩
   have hkL : kk ∈ L := by rw [← hkk]; split <;> exact List.getElem_mem _
   have hk1 := HOk.out.1 kk hkL
   obtain ⟨k, hk⟩ : ∃ k : Nat, kk = (k : Int) := ⟨kk.toNat, by omega⟩
   rw [hz1] at hc1
   rw [hz2] at hc2
   rw [hkk, hk] at HTk
   rw [hz1, hz2, hk] at hkk
   have hkn : k < n := by omega
   have hkl : k < l.length := by rw [HL.out]; exact hkn
   obtain ⟨f, hf⟩ : ∃ f, l[k] = f := ⟨_, rfl⟩
   have hS' := HS.out.below (HB1.out.trans (HW.out.mono HB1.out.size))
   obtain ⟨b0, o0, rfl, hc3⟩ := cells1_at hS'.row hkl
   have hfl := hS'.lst f (hf ▸ List.getElem_mem _)
   have hfs := HSz.out f (hf ▸ List.getElem_mem _)
   rw [hf] at hc3
   obtain ⟨fl, hfl1⟩ : ∃ a, f.s.length = a := ⟨_, rfl⟩
   rw [hfl1] at hc3 hfs
   have cv1 := conv_f hfl.1.by_ fl f.c hfl1
   have cv2 := Rd.conv_b f.s fl hfl1 wr
   have hge := grownCap_ge wr fl 0 5
   obtain ⟨cg, hcg⟩ : ∃ c, grownCap wr fl 0 5 = c := ⟨_, rfl⟩
   rw [hcg] at cv2 hge
   have HBy := Lib.hid (Rd.bw_bytes wr f.s)
   have HCv := Lib.hid (Conv.new wr f.s hfl1)
   have hbb := Rd.bw_below wr f.s
   obtain ⟨wb, hwb⟩ : ∃ wb, Lib.bytesWorld wr 5 (str (bs f.s)) = wb := ⟨_, rfl⟩
   have hwz : wb.heap.size = wr.heap.size + 1 := by rw [← hwb]; exact Lib.bytesWorld_size _ _ _
   rw [hwb] at cv2 hbb
   rw [hwb] at HBy HCv
   obtain ⟨fA, hfA⟩ : ∃ a, f.A = a := ⟨_, rfl⟩
   obtain ⟨fs, hfs0⟩ : ∃ a, f.s = a := ⟨_, rfl⟩
   obtain ⟨fc, hfc⟩ : ∃ a, f.c = a := ⟨_, rfl⟩
   rw [hfA, hfc] at hc3
   rw [hfA, hfs0, hfc] at cv1
   rw [hfs0] at cv2 HBy
   have HWb := Lib.hid hbb
   have HWz := Lib.hid hwz
   have HFs := Lib.hid (show l[k]? = some f by rw [List.getElem?_eq_getElem hkl, hf])
   have HFs0 := Lib.hid hfs0
   have HFl1 := Lib.hid hfl1
   have HGe := Lib.hid hge
   have HOb := Lib.hid ((HOv.out.below hbb).alloc (.cells #[.int .i64 (k : Int), .slice (some ⟨wr.heap.size, 0, none⟩) fl cg] 52))
   have HRw : Hid (Row (wb.alloc (.cells #[.int .i64 (k : Int), .slice (some ⟨wr.heap.size, 0, none⟩) fl cg] 52)) (some ⟨wb.heap.size, 0, none⟩) (cells2 [⟨(k : Int), some ⟨wr.heap.size, 0, none⟩, fs, cg⟩])) := Lib.hid (by
    rw [show fl = fs.length by rw [← HFs0.out]; exact HFl1.out.symm]
    exact Row.new wb #[.int .i64 (k : Int), .slice (some ⟨wr.heap.size, 0, none⟩) fs.length cg] 52 (0, 0))
   obtain ⟨A9, c9, rfl, hcc9, -⟩ := OwnK.shape HOv.out
   obtain ⟨v2, w3, hrun, hown, hg3, -⟩ := run_appK (P := Try.prog) (wb.alloc (.cells #[.int .i64 (k : Int), .slice (some ⟨wr.heap.size, 0, none⟩) fl cg] 52)) 2 w1.heap.size 45 45 52 _ 32 Try.underlying45 info_sym rfl (by omega) _ i (cells2 E) HOb.out ⟨wb.heap.size, 0, none⟩ 1 1 _ rfl HRw.out (cells2_one _) (by omega) (by omega) (by have := HW.out.size; have := HWb.out.size; rw [World.size_alloc]; omega)
   have hz8 := HW.out.size
   have hba : Below wr.heap.size wr (wb.alloc (.cells #[.int .i64 (k : Int), .slice (some ⟨wr.heap.size, 0, none⟩) fl cg] 52)) := HWb.out.alloc HWb.out.size _
   have HW3 : Hid (Below w1.heap.size w1 w3) := Lib.hid ((HW.out.trans (hba.mono hz8)).trans (OwnK.grew HOb.out (Nat.le_trans hz8 hba.size) hg3))
   have HT3 : Hid (TE w1.heap.size w3 (E ++ [⟨(k : Int), some ⟨wr.heap.size, 0, none⟩, fs, cg⟩])) := Lib.hid (by
    have h1 : TE w1.heap.size wb (E ++ [⟨(k : Int), some ⟨wr.heap.size, 0, none⟩, fs, cg⟩]) := HT.out.snoc rfl hz8 (Nat.le_refl _) HWb.out (by have := HWz.out; omega) HBy.out (by show Conv wb wr.heap.size fs.length; rw [← HFs0.out, HFl1.out]; exact HCv.out) (by show fs.length ≤ cg; rw [← HFs0.out, HFl1.out]; exact HGe.out)
    exact (h1.below ((Below.refl _ _).alloc (Nat.le_refl _) _)).grown HOb.out hg3)
   have HP3 : Hid ((E ++ [(⟨(k : Int), some ⟨wr.heap.size, 0, none⟩, fs, cg⟩ : El)]).map El.p = (ordO tu L).take (i + 1)) := Lib.hid (by rw [List.map_append, HP.out, HTk.out]; rfl)
   have HF3 : Hid (∀ e ∈ E ++ [(⟨(k : Int), some ⟨wr.heap.size, 0, none⟩, fs, cg⟩ : El)], ∃ f, l[e.p.toNat]? = some f ∧ f.s = e.s) := Lib.hid (fun e he => by
    rcases List.mem_append.1 he with he | he
    ·exact HF.out e he
    ·obtain rfl := List.mem_singleton.1 he
     exact ⟨f, by simpa using HFs.out, HFs0.out⟩)
   rw [← cells2_append] at hown
   have HOw := Lib.hid hown
   clear hown hg3 hba
   have hz9 := HB1.out.size
   clear hfl hfs hfl1 hge hcg hwb hwz hbb hf hfA hfs0 hfc hr hS' hat hlq hq hkL hk1
   cases tu with
   | false =>
    obtain rfl : z1 = (k : Int) := by simpa using hkk
    clear hkk
    go_wp2_with fail
    go_roundw
    case rel => exact ⟨i + 1, _, by omega, by go_num, HOw, HP3, HF3, HT3, HW3⟩
    case measure => simp [intOf]; omega
   | true =>
    obtain rfl : z2 = (k : Int) := by simpa using hkk
    clear hkk
    go_wp2_with fail
    go_roundw
    case rel => exact ⟨i + 1, _, by omega, by go_num, HOw, HP3, HF3, HT3, HW3⟩
    case measure => simp [intOf]; omega
  ·obtain rfl : i = m := by omega
   have hlen : E.length = i := by
    have := congrArg List.length HP.out
    rw [List.length_map, List.length_take, ordO_length, HM.out] at this
    omega
   have HEl := Lib.hid hlen
   have HFs := Lib.hid HF.out
   have HN0 := Lib.hid (nb_start HF.out)
   have HLe0 : Hid (∀ e ∈ E, e.s.length ≤ 1000) := Lib.hid fun e he => by
    obtain ⟨f, h1, h2⟩ := HF.out e he
    rw [← h2]
    exact HSz.out f (List.mem_of_getElem? h1)
   obtain ⟨A9, c9, rfl, hcc9, -⟩ := OwnK.shape HOv.out
   clear hlen
   go_wp2_with fail
   go_loopw [18] (fun iv wr2 => ∃ (j : Nat) (E2 : List El), j ≤ t ∧ iv = .int .i64 j ∧ Hid (cells2 E2 = cells2 E) ∧ Hid (E2.map El.p = E.map El.p) ∧ Hid (nb (shF l) (shE E2) ≤ j) ∧ Hid (∀ e ∈ E2, e.s.length ≤ 1000) ∧ Hid (TE w1.heap.size wr2 E2) ∧ Hid (OwnK 2 wr2 w1.heap.size 52 (.slice A9 i c9) i (cells2 E)) ∧ Hid (Below w1.heap.size w1 wr2)) (fun iv _ => t - (intOf iv).toNat)
   case atStart => exact ⟨0, E, by omega, rfl, Lib.hid rfl, Lib.hid rfl, Lib.hid (Nat.le_of_eq HN0.out), HLe0, HT, HOv, HW⟩
   case round =>
    clear HOv HT HW HN0 HLe0
    obtain ⟨j, E2, hj, rfl, HC, HP2, HN, HLe, HT, HOv, HW⟩ := hrel
    ·have h1 : ¬ j < na := by omega
     obtain ⟨w7, hw7⟩ : ∃ w7, wr = w7 := ⟨_, rfl⟩
     rw [hw7] at HT HOv HW ⊢
     all_goals
      go_wp2_with fail
      go_loopw [21, 22] (fun ov jv wr => ∃ (q : Nat) (P : Option Addr) (cp : Nat), q ≤ n ∧ jv = .int .i64 q ∧ ov = .slice P (oth (shF l) (shE E2) q).length cp ∧ Hid (Own wr w7.heap.size 3 ov (zs (oth (shF l) (shE E2) q))) ∧ Hid (Below w7.heap.size w7 wr)) (fun _ jv _ => n - (intOf jv).toNat)
      case atStart => exact ⟨0, none, 0, by omega, rfl, rfl, Lib.hid (Own.nil _ _ _), Lib.hid (Below.refl _ _)⟩
      case round =>
       obtain ⟨q, P, cp, hq, rfl, rfl, HOt, HW7⟩ := hrel
       have hE2 : E2.length = i := by
        have := congrArg List.length HP2.out
        rw [List.length_map, List.length_map, HEl.out] at this
        exact this
       by_cases hqn : q < n
       ·have hqd : decide (q < n) = true := by simpa using hqn
        have hqd2 : decide ((q : Int) < (n : Int)) = true := by simp; omega
        go_wp2_with fail
        go_loopw [21, 23] (fun ov iv wr => ∃ (x : Nat) (P : Option Addr) (cp : Nat), x ≤ i ∧ iv = .int .i64 x ∧ ov = .slice P (oth (shF l) (shE E2) q ++ oneO (shF l) (shE E2) q x).length cp ∧ Hid (Own wr w7.heap.size 3 ov (zs (oth (shF l) (shE E2) q ++ oneO (shF l) (shE E2) q x))) ∧ Hid (Below w7.heap.size w7 wr)) (fun _ iv _ => i - (intOf iv).toNat)
        case atStart => exact ⟨0, P, cp, by omega, rfl, by rw [oneO_zero, List.append_nil], by rw [oneO_zero, List.append_nil]; exact HOt, HW7⟩
        case round =>
         clear HOt HW7
         obtain ⟨x, P2, cp2, hx, rfl, rfl, HO8, HW8⟩ := hrel
         by_cases hxi : x < i
         ·have hxl : x < E2.length := by rw [hE2]; exact hxi
          have hOv := HOv.out.below HW8.out
          have hT8 := HT.out.below HW8.out
          have hbl : Below w.heap.size w wr := (HB1.out.trans (HW.out.mono HB1.out.size)).trans (HW8.out.mono (Nat.le_trans HB1.out.size HW.out.size))
          have hS8 := HS.out.below hbl
          obtain ⟨A9', c9', e9, -, hr9, -⟩ := OwnK.shape hOv
          obtain rfl := (Value.slice.inj e9).1
          rw [← HC.out] at hr9
          obtain ⟨b9, o9, hA9, hc0⟩ := hr9 _ _ (cells2_get (List.getElem?_eq_getElem hxl)).1
          obtain ⟨b9', o9', hA9', hc1⟩ := hr9 _ _ (cells2_get (List.getElem?_eq_getElem hxl)).2
          subst hA9
          cases hA9'
          have hel := hT8.own _ (List.getElem_mem hxl)
          have hLx := HLe.out _ (List.getElem_mem hxl)
          have hoff : offB (shF l) q ((shE E2)[x]'(by rw [shE_length]; exact hxl)) = decide ((E2[x]).p = (q : Int) ∧ (E2[x]).s ≠ shF l q) := by unfold offB; simp [shE]
          have hnd : ((shE E2).map Prod.fst).Nodup := by
           have e1 : (shE E2).map Prod.fst = E2.map El.p := by simp [shE]
           rw [e1, HP2.out, HP.out]
           refine (List.Nodup.sublist (List.take_sublist _ _) ?_)
           unfold ordO
           split
           ·exact (List.reverse_perm L).nodup_iff.2 HOk.out.2
           ·exact HOk.out.2
          have hskip := oneO_skip (S := shF l) (j := q) (i := x) (sh := shE E2) (by rw [shE_length]; exact hxl)
          have hhit := oneO_hit (S := shF l) (j := q) (i := x) (sh := shE E2) hnd (by rw [shE_length]; exact hxl)
          rw [hoff] at hskip hhit
          have hql : q < l.length := by rw [HL.out]; exact hqn
          have hsq : shF l q = (l[q]).s := by unfold shF; rw [List.getElem?_eq_getElem hql]; rfl
          obtain ⟨b0, o0, hA0, hc2⟩ := cells1_at hS8.row hql
          subst hA0
          have hby2 := (hS8.lst _ (List.getElem_mem hql)).1.by_
          rw [hsq] at hskip hhit
          obtain ⟨f, hf⟩ : ∃ f, l[q] = f := ⟨_, rfl⟩
          rw [hf] at hc2 hby2 hskip hhit
          obtain ⟨e, he⟩ : ∃ e, E2[x] = e := ⟨_, rfl⟩
          rw [he] at hc0 hc1 hel hskip hhit hLx
          obtain ⟨bb, -, -, -, hby1, -, -⟩ := hel
          obtain ⟨ep, eA, es, ec⟩ := e
          obtain ⟨fp, fA, fs, fc⟩ := f
          obtain ⟨en, hen⟩ : ∃ en, es.length = en := ⟨_, rfl⟩
          obtain ⟨fn, hfn⟩ : ∃ fn, fs.length = fn := ⟨_, rfl⟩
          replace hc0 : wr.cell? ⟨b9, o9 + x * 2, none⟩ = some (.int .i64 ep) := hc0
          replace hc1 : wr.cell? ⟨b9, o9 + x * 2 + 1, none⟩ = some (.slice eA en ec) := by rw [← hen, Nat.add_assoc]; exact hc1
          replace hc2 : wr.cell? ⟨b0, o0 + q, none⟩ = some (.slice fA fn fc) := by rw [← hfn]; exact hc2
          replace hby1 : Bytes wr eA (bs es) := hby1
          replace hby2 : Bytes wr fA (bs fs) := hby2
          have HV0 : Hid (wr.drew.cell? ⟨b9, o9 + x * 2, none⟩ = some (.int .i64 ep) ∧ wr.drew.cell? ⟨b9, o9 + x * 2 + 1, none⟩ = some (.slice eA en ec) ∧ wr.drew.cell? ⟨b0, o0 + q, none⟩ = some (.slice fA fn fc) ∧ (convert 34 9 (.slice eA en ec)).run Try.prog wr.drew = .ok (.string (str (bs es))) wr.drew ∧ (convert 34 9 (.slice fA fn fc)).run Try.prog wr.drew = .ok (.string (str (bs fs))) wr.drew) := Lib.hid ⟨hc0, hc1, hc2, conv_f hby1.drew en ec hen, conv_f hby2.drew fn fc hfn⟩
          have hskip' : decide (ep = (q : Int) ∧ es ≠ fs) = false → oneO (shF l) (shE E2) q (x + 1) = oneO (shF l) (shE E2) q x := hskip
          have hhit' : decide (ep = (q : Int) ∧ es ≠ fs) = true → oneO (shF l) (shE E2) q x = [] ∧ oneO (shF l) (shE E2) q (x + 1) = [(q : Int)] := hhit
          have HE : Hid (((str (bs es)).toList == (str (bs fs)).toList) = decide (es = fs)) := Lib.hid (by
           rw [Bool.eq_iff_iff, beq_iff_eq, decide_eq_true_iff, ByteArray.toList_eq, ByteArray.toList_eq, str_data, str_data]
           constructor
           ·intro h
            refine bs_inj.1 (str_inj (bs_lt es) (bs_lt fs) ?_)
            unfold str; rw [h]
           ·intro h; rw [h])
          have hs7 := HW8.out.size
          have hxi2 : (x : Int) < (i : Int) := by omega
          clear hOv hT8 hbl hS8 e9 hr9 hoff hnd hskip hhit hsq hby1 hby2 hen hfn he hf hql hE2
          clear hc0 hc1 hc2
          have hcase : (ep = (q : Int) ∧ es ≠ fs) ∨ (ep = (q : Int) ∧ es = fs) ∨ ¬ ep = (q : Int) := by
           by_cases h1 : ep = (q : Int)
           ·by_cases h2 : es = fs
            ·exact .inr (.inl ⟨h1, h2⟩)
            ·exact .inl ⟨h1, h2⟩
           ·exact .inr (.inr h1)
          rcases hcase with ⟨hnode, hsame⟩ | ⟨hnode, hsame⟩ | hnode
          ·have hE1 := HE.out
           rw [decide_eq_false hsame] at hE1
           have hE2 : ((str (bs es)).toList != (str (bs fs)).toList) = true := by rw [bne, hE1]; rfl
           have hn1 : (ep == (q : Int)) = true := by simpa using hnode
           obtain ⟨ho1, ho2⟩ := hhit' (decide_eq_true ⟨hnode, hsame⟩)
           have hOx := HO8.out
           rw [ho1, List.append_nil] at hOx ⊢
           have HE2 : Hid (zs (oth (shF l) (shE E2) q) ++ zs [(q : Int)] = zs (oth (shF l) (shE E2) q ++ oneO (shF l) (shE E2) q (x + 1))) := Lib.hid (by rw [ho2, ← zs_append])
           obtain ⟨N, hN⟩ : ∃ N, (oth (shF l) (shE E2) q).length = N := ⟨_, rfl⟩
           have HNl : Hid ((zs (oth (shF l) (shE E2) q)).length = N) := Lib.hid (by rw [zs_length, hN])
           have hN9 : N ≤ 300 := by
            rw [← hN]
            unfold oth wrongs
            rw [List.length_map]
            have := List.length_filter_le (fun j : Nat => (shE E2).any fun o => decide (o.1 = (j : Int) ∧ o.2 ≠ shF l j)) (List.range q)
            rw [List.length_range] at this
            omega
           rw [hN] at hOx ⊢
           have HOx := Lib.hid hOx
           clear hhit' hskip' hnode hsame ho1 ho2 hOx HO8 HE hN
           go_wp2_with fail
           go_region_held (fun V => V.cell? ⟨b9, o9 + x * 2, none⟩ = some (.int .i64 ep) ∧ V.cell? ⟨b9, o9 + x * 2 + 1, none⟩ = some (.slice eA en ec) ∧ V.cell? ⟨b0, o0 + q, none⟩ = some (.slice fA fn fc) ∧ (convert 34 9 (.slice eA en ec)).run Try.prog V = .ok (.string (str (bs es))) V ∧ (convert 34 9 (.slice fA fn fc)).run Try.prog V = .ok (.string (str (bs fs))) V) (with_reducible exact HV0.out) (fail)
           all_goals
            have HO9 := Lib.hid HOx.out.drew
            have HW9 := Lib.hid HW8.out.drew
            obtain ⟨w9, hw9⟩ : ∃ w9, wr.drew = w9 := ⟨_, rfl⟩
            rw [hw9] at HO9 HW9 ⊢
            have hz9 : w7.heap.size ≤ w9.heap.size := HW9.out.size
            clear hw9
            have hK : OwnK 1 (w9.alloc (.cells #[.int .i64 (q : Int)] 3)) w7.heap.size 3 (.slice P2 N cp2) N (zs (oth (shF l) (shE E2) q)) := by
             have := HO9.out.alloc (.cells #[.int .i64 (q : Int)] 3)
             unfold Own at this
             rw [HNl.out] at this
             exact this
            obtain ⟨v2, w10, hrun, hown, hg10, -⟩ := run_appK (P := Try.prog) (w9.alloc (.cells #[.int .i64 (q : Int)] 3)) 1 w7.heap.size 46 46 3 _ 8 Try.underlying46 info_i rfl (by omega) _ N _ hK ⟨w9.heap.size, 0, none⟩ 1 1 (zs [(q : Int)]) rfl (Row.new _ _ _ _) (zs_one _) (by omega) (by omega) (by rw [World.size_alloc]; omega)
            have hB10 := (HW9.out.alloc hz9 (.cells #[.int .i64 (q : Int)] 3)).trans (hK.grew (by rw [World.size_alloc]; omega) hg10)
            rw [HE2.out] at hown
            have hown := (own1_of hown).1
            obtain ⟨P3, cp3, rfl, -, -⟩ := hown.form
            have HO10 := Lib.hid hown
            have HW10 := Lib.hid hB10
            rw [zs_length] at hrun HO10
            obtain ⟨N2, hN2⟩ : ∃ N2, (oth (shF l) (shE E2) q ++ oneO (shF l) (shE E2) q (x + 1)).length = N2 := ⟨_, rfl⟩
            rw [hN2] at hrun HO10
            have HN2 := Lib.hid hN2
            clear hN2
            clear hown hg10 hB10 hK
            go_wp2
            go_roundw
            case rel => exact ⟨x + 1, P3, cp3, by omega, by go_num, by rw [HN2.out], HO10, HW10⟩
            case measure => first | (simp [intOf]; done) | (simp [intOf]; omega)
          ·have hE1 := HE.out
           rw [decide_eq_true hsame] at hE1
           have hE2 : ((str (bs es)).toList != (str (bs fs)).toList) = false := by rw [bne, hE1]; rfl
           have hn1 : (ep == (q : Int)) = true := by simpa using hnode
           have HEq := Lib.hid (hskip' (decide_eq_false fun h => h.2 hsame))
           have HO9 := Lib.hid HO8.out.drew
           have HW9 := Lib.hid HW8.out.drew
           obtain ⟨N, hN⟩ : ∃ N, (oth (shF l) (shE E2) q ++ oneO (shF l) (shE E2) q x).length = N := ⟨_, rfl⟩
           rw [hN] at HO9 ⊢
           have HN := Lib.hid hN
           clear hhit' hskip' hnode hsame HO8 HE hN
           go_wp2_with fail
           go_region_held (fun V => V.cell? ⟨b9, o9 + x * 2, none⟩ = some (.int .i64 ep) ∧ V.cell? ⟨b9, o9 + x * 2 + 1, none⟩ = some (.slice eA en ec) ∧ V.cell? ⟨b0, o0 + q, none⟩ = some (.slice fA fn fc) ∧ (convert 34 9 (.slice eA en ec)).run Try.prog V = .ok (.string (str (bs es))) V ∧ (convert 34 9 (.slice fA fn fc)).run Try.prog V = .ok (.string (str (bs fs))) V) (with_reducible exact HV0.out) (fail)
           all_goals
            obtain ⟨w9, hw9⟩ : ∃ w9, wr.drew = w9 := ⟨_, rfl⟩
            rw [hw9] at HO9 HW9 ⊢
            clear hw9
            go_wp2
            go_roundw
            case rel => exact ⟨x + 1, P2, cp2, by omega, by go_num, by rw [HEq.out, HN.out], by rw [HEq.out]; exact HO9, HW9⟩
            case measure => first | (simp [intOf]; done) | (simp [intOf]; omega)
          ·have hn1 : (ep == (q : Int)) = false := by simpa using hnode
           have hn2 : decide (ep = (q : Int)) = false := by simpa using hnode
           have HEq := Lib.hid (hskip' (decide_eq_false fun h => hnode h.1))
           have HO9 := Lib.hid HO8.out.drew
           have HW9 := Lib.hid HW8.out.drew
           obtain ⟨N, hN⟩ : ∃ N, (oth (shF l) (shE E2) q ++ oneO (shF l) (shE E2) q x).length = N := ⟨_, rfl⟩
           rw [hN] at HO9 ⊢
           have HN := Lib.hid hN
           clear hhit' hskip' hnode HO8 HE hN
           go_wp2_with fail
           obtain ⟨hv0, -, -, -, -⟩ := HV0.out
           go_region
           all_goals
            obtain ⟨w9, hw9⟩ : ∃ w9, wr.drew = w9 := ⟨_, rfl⟩
            rw [hw9] at HO9 HW9 ⊢
            clear hw9
            go_wp2
            go_roundw
            case rel => exact ⟨x + 1, P2, cp2, by omega, by go_num, by rw [HEq.out, HN.out], by rw [HEq.out]; exact HO9, HW9⟩
            case measure => first | (simp [intOf]; done) | (simp [intOf]; omega)
         ·have hxe : x = i := by omega
          have HOn : Hid (oth (shF l) (shE E2) q ++ oneO (shF l) (shE E2) q x = oth (shF l) (shE E2) (q + 1)) := Lib.hid (by rw [oth_succ, shE_length, hE2, hxe])
          have HO9 := HO8.out
          rw [HOn.out] at HO9 ⊢
          have HO9 := Lib.hid HO9
          have hxi2 : ¬ ((x : Int) < (i : Int)) := by omega
          clear HO8 hE2 hxe
          go_wp2_with fail
          go_roundw
          case rel => exact ⟨q + 1, P2, cp2, by omega, by go_num, rfl, HO9, HW8⟩
          case measure => first | (simp [intOf]; done) | (simp [intOf]; omega)
       ·have hqe : q = n := by omega
        have hO := HOt.out
        rw [hqe] at hO ⊢
        have hcp := own_cap2 (n := (oth (shF l) (shE E2) n).length) hO (zs_length _)
        have hw1s : w.heap.size ≤ w1.heap.size := HB1.out.size
        have hW71 := HW.out.size
        have HX : Hid (ToldG l n t tu w (.returned (.tuple #[.slice A9 i c9, .slice P (oth (shF l) (shE E2) n).length cp])) wr) := Lib.hid ⟨L, A9, i, c9, E2, P, _, cp, HOk.out, HM.out, hle, rfl, rfl, rfl, hcc9, hcp, (by rw [HC.out]; exact (HOv.out.below HW7.out).more hw1s), ⟨fun e he => by
         obtain ⟨b, h1, h2, h3⟩ := (HT.out.below HW7.out).own e he
         exact ⟨b, h1, by omega, h3⟩, (HT.out.below HW7.out).sep⟩, by rw [HP2.out, HP.out, List.take_of_length_le (by rw [ordO_length, HM.out]; exact Nat.le_refl _)], Nat.le_trans HN.out hj, lens_of HFs.out HP2.out HC.out, hO.more (by omega), (HB1.out.trans (HW.out.mono hw1s)).trans (HW7.out.mono (by omega))⟩
        obtain ⟨N, hN⟩ : ∃ N, (oth (shF l) (shE E2) n).length = N := ⟨_, rfl⟩
        rw [hN] at HX ⊢
        have hqn2 : ¬ ((q : Int) < (n : Int)) := by omega
        clear hO hcp hN HOt hqe hE2
        go_wp2_with fail
        go_ret2
        exact HX.out
end Go.Proofs.Ytimcmdnlhallmab.Ms

namespace Go.Proofs.Ytimcmdnlhallmab.Tr
open Go.RowKit Go.Shelf F8 Poly GF Rd Ms
theorem TE.lst {g B : Nat} {V : World} {E : List El} (h : TE B V E) (hg : g < B) : Lst g V E := fun e he => by
 obtain ⟨b, h1, h2, -, h3, -, h4⟩ := h.own e he
 refine ⟨⟨h3, fun _ a q ha hq => ?_⟩, h4⟩
 rw [h1] at ha
 cases ha; cases hq
 show b ≠ g
 omega
theorem TE.past {g B : Nat} {V V' : World} {E : List El} (h : TE B V E) (hg : g < B) (hp : Past V.heap.size g V V') : TE B V' E := ⟨fun e he => by
 obtain ⟨b, e1, h1, h2, h3, h4, h5⟩ := h.own e he
 refine ⟨b, e1, h1, Nat.lt_of_lt_of_le h2 hp.size, bytes_far h3 (fun _ a ha => ?_) hp, h4.past hp (by omega), h5⟩
 rw [e1] at ha
 cases ha
 show b ≠ g
 omega, h.sep⟩
theorem ownK_past {g B k n : Nat} {V V' : World} {e : TypeId} {v : Value} {xs : List Value} (h : OwnK k V B e v n xs) (hg : g < B) (hp : Past V.heap.size g V V') : OwnK k V' B e v n xs := by
 refine h.grown (row := some g) ⟨hp.os, hp.tape, hp.output, hp.size, fun i hi hn => hp.block i hi (fun e => hn (by rw [e]))⟩ (.inr fun e1 => ?_)
 have := (h.lt g e1).1
 omega
structure ToldOk (n : Nat) (wd : List F8) (E : List El) : Prop where
 sh : ∀ e ∈ E, ∃ i : Nat, e.p = (i : Int) ∧ i < n ∧ e.s = shr n wd i
 nd : (E.map El.p).Nodup
theorem told_ok {l E : List El} {n t : Nat} {wd : List F8} {L : List Int} {tu : Bool} (hl : l.map El.s = (List.range n).map (shr n wd)) (hL : OkP n L) (hP : E.map El.p = ordO tu L) (hn : nb (shF l) (shE E) ≤ t) (ht : t = 0) : ToldOk n wd E := by
 refine ⟨fun e he => ?_, ?_⟩
 ·have h1 : e.p ∈ ordO tu L := hP ▸ List.mem_map_of_mem he
  have h2 : e.p ∈ L := by
   unfold ordO at h1
   split at h1
   ·exact List.mem_reverse.1 h1
   ·exact h1
  have h3 := hL.1 _ h2
  have h4 := nb_zero (by omega : nb (shF l) (shE E) = 0) (e.p, e.s) (List.mem_map.2 ⟨e, he, rfl⟩)
  refine ⟨e.p.toNat, by omega, by omega, ?_⟩
  have h5 : e.s = shF l e.p.toNat := h4
  rw [h5]
  unfold shF
  have h6 : (l.map El.s)[e.p.toNat]? = some (shr n wd e.p.toNat) := by
   rw [hl, List.getElem?_map, List.getElem?_range (by omega)]; rfl
  rw [List.getElem?_map] at h6
  rw [h6]; rfl
 ·rw [hP]
  unfold ordO
  split
  ·exact (List.reverse_perm L).nodup_iff.2 hL.2
  ·exact hL.2
theorem ToldOk.ok {n : Nat} {wd : List F8} {E : List El} (h : ToldOk n wd E) : ShOk n (n - 1) (shE E) := by
 refine ⟨fun o ho => ?_, ?_⟩
 ·obtain ⟨e, he, rfl⟩ := List.mem_map.1 ho
  obtain ⟨i, h1, h2, h3⟩ := h.sh e he
  exact ⟨⟨by show 0 ≤ e.p; omega, by show e.p < (n : Int); omega⟩, by show e.s.length = _; rw [h3, shr_length wd h2]⟩
 ·have e1 : (shE E).map Prod.fst = E.map El.p := by simp [shE]
  rw [e1]; exact h.nd
theorem ToldOk.tells {n k : Nat} {xs m : List F8} {E : List El} (h : ToldOk n (word m xs) E) (hm : m.length = rs n k) : Tells n k xs (nat (shE E)) m := by
 refine ⟨hm, fun o ho => ?_⟩
 obtain ⟨u, hu, rfl⟩ := List.mem_map.1 ho
 obtain ⟨e, he, rfl⟩ := List.mem_map.1 hu
 obtain ⟨i, h1, -, h3⟩ := h.sh e he
 show e.s = shr n (word m xs) e.p.toNat
 rw [h3, h1]; rfl
theorem tells_set {n k : Nat} {xs : List F8} (hx : xs.length = rs n n) (hd : xs.Nodup) {sh : List (Int × List F8)} (hok : ShOk n (n - 1) sh) (hk : k ≤ sh.length) {m : List F8} (hm : Tells n k xs (nat sh) m) {p : Nat} (hp : p < sh.length) {s' : List F8} (hl : s'.length = n - 1) (hne : s' ≠ (sh[p]).2) {ms : List F8} {z : Int}
  (hT : TIs n k xs (sh.set p ((sh[p]).1, s')) ms z) : (z = 80 ∧ ms = []) ∨ (z = 0 ∧ sh.length = k ∧ ms ≠ m) := by
 have hok' : ShOk n (n - 1) (sh.set p ((sh[p]).1, s')) := by
  refine ⟨fun o ho => ?_, ?_⟩
  ·rcases List.mem_or_eq_of_mem_set ho with h | rfl
   ·exact hok.1 o h
   ·exact ⟨(hok.1 _ (List.getElem_mem hp)).1, hl⟩
  ·have e : (sh.set p ((sh[p]).1, s')).map Prod.fst = sh.map Prod.fst := by
    rw [List.map_set]
    have : (sh[p]).1 = (sh.map Prod.fst)[p]'(by simpa using hp) := by simp
    show (sh.map Prod.fst).set p (sh[p]).1 = _
    rw [this, List.set_getElem_self]
   rw [e]; exact hok.2
 rcases hT with ⟨h, -⟩ | ⟨-, h, -⟩ | ⟨-, -, rfl, h⟩ | ⟨-, -, rfl, rfl, -⟩
 ·exact absurd hok' h
 ·rw [List.length_set] at h; omega
 ·right
  have hdiff : ms ≠ m := by
   rintro rfl
   apply hne
   have h1 := h.2 ((sh[p]).1.toNat, s') (List.mem_map.2 ⟨((sh[p]).1, s'), List.mem_set hp _, rfl⟩)
   have h2 := hm.2 ((sh[p]).1.toNat, (sh[p]).2) (List.mem_map.2 ⟨sh[p], List.getElem_mem hp, rfl⟩)
   exact h1.trans h2.symm
  refine ⟨rfl, ?_, hdiff⟩
  rcases Nat.lt_or_ge k sh.length with hlt | hge
  ·exfalso
   apply hdiff
   have hsub : (sh.eraseIdx p).Sublist sh := List.eraseIdx_sublist _ _
   have hok2 : ShOk n (n - 1) (sh.eraseIdx p) := ⟨fun o ho => hok.1 o (hsub.subset ho), hok.2.sublist (hsub.map _)⟩
   obtain ⟨n1, n2⟩ := nat_ok hok2
   have hlen : (sh.eraseIdx p).length = sh.length - 1 := List.length_eraseIdx_of_lt hp
   refine tells_only hx hd n1 n2 (by rw [nat_length, hlen]; omega) ⟨h.1, fun o ho => ?_⟩ ⟨hm.1, fun o ho => ?_⟩
   ·obtain ⟨u, hu, rfl⟩ := List.mem_map.1 ho
    refine h.2 _ (List.mem_map.2 ⟨u, ?_, rfl⟩)
    obtain ⟨i, hi, hip, e⟩ := List.mem_eraseIdx_iff_getElem.1 hu
    rw [← e]
    refine List.mem_iff_getElem.2 ⟨i, by rw [List.length_set]; exact hi, ?_⟩
    rw [List.getElem_set_ne (fun e2 => hip e2.symm)]
   ·obtain ⟨u, hu, rfl⟩ := List.mem_map.1 ho
    exact hm.2 _ (List.mem_map.2 ⟨u, hsub.subset hu, rfl⟩)
  ·omega
 ·exact .inl ⟨rfl, rfl⟩
end Go.Proofs.Ytimcmdnlhallmab.Tr

namespace Go.Proofs.Ytimcmdnlhallmab.transferTells
open Go.RowKit Go.Shelf F8 GF Poly Rd Ms Tr
attribute [local go_sem] Oper.semAt_some
set_option maxRecDepth 100000 in
set_option maxHeartbeats 8000000 in
theorem core (PS : Poly.Spec) (w : World) (n k : Int) (hl0 : -9223372036854775808 ≤ n) (hn0 : n < 9223372036854775808) (hl1 : -9223372036854775808 ≤ k) (hn1 : k < 9223372036854775808) (B : Option Addr) (q : List F8) (o c : Nat) (ho : q.length = o) (hbq : Bytes w B (bs q)) (x : Nat) (tu : Bool) (at_ : Nat) (hat : at_ < 256) (y : F8) :
  Calls Try.prog 5 #[.int .i64 n, .int .i64 k, .slice B o c, .int .u64 (x : Nat), .bool tu, .int .u8 (at_ : Nat), .int .u8 (y.n : Nat)] w fun e w' => e = .returned (.bool true) ∧ Below w.heap.size w w' := by
 have HB := Lib.hid hbq
 have HO := Lib.hid ho
 have hfew := few_calls n k w
 by_cases hf : Few n k
 rotate_left
 ·rw [decide_eq_false hf] at hfew
  have HFew := Lib.hid hfew
  clear hbq ho hfew hf HB HO
  go_enter Try.func5, Try.ntmps5
  go_wp2_with (first
   | (go_at_call 14; refine HFew.out.mono ?_; rintro e w0 ⟨rfl, rfl⟩)
   | (go_at_call 10; (with_reducible refine (works_calls PS _).mono ?_); rintro e wz ⟨rfl, HZ⟩))
  go_ret
  exact ⟨rfl, HZ⟩
 rw [decide_eq_true hf] at hfew
 have HFew := Lib.hid hfew
 have HF := Lib.hid hf
 clear hbq ho hfew hf
 go_enter Try.func5, Try.ntmps5
 go_wp2_with (go_at_call 14; refine HFew.out.mono ?_; rintro e w0 ⟨rfl, rfl⟩)
 refine (GF.new_calls w).mono ?_
 rintro e w1 ⟨rfl, hw1⟩
 have HMd := Lib.hid (made n k w w1 hw1 hl0 hn0 hl1 hn1)
 clear hw1
 go_wp2_with fail
 refine HMd.out.mono ?_
 clear HMd
 rintro e w2 (⟨hgood, S, hL, -, rfl⟩ | ⟨-, rfl, HBz⟩)
 rotate_left
 ·go_wp2_with (go_at_call 10; (with_reducible refine (works_calls PS _).mono ?_); rintro e wz ⟨rfl, HZ⟩)
  go_ret
  exact ⟨rfl, HBz.trans (HZ.mono HBz.size)⟩
 have hn9 : S.n ≤ 9 := by have := HF.out.1; have := hL.en; omega
 have HL := Lib.hid hL.lw
 have HK := Lib.hid hL.lw.ok.kn
 obtain ⟨sn, hsn⟩ : ∃ sn, S.n = sn := ⟨_, rfl⟩
 obtain rfl : n = (sn : Int) := by rw [← hsn]; exact hL.en.symm
 obtain ⟨kn, hkn⟩ : ∃ kn, S.k = kn := ⟨_, rfl⟩
 obtain rfl : k = (kn : Int) := by rw [← hkn]; exact hL.ek.symm
 have HKn := Lib.hid hkn
 obtain ⟨mb, hmb⟩ : ∃ mb, S.B = mb := ⟨_, rfl⟩
 have hmb9 : mb ≤ 255 := by
  have h1 := rs_mono S.n (Nat.le_of_lt hL.lw.ok.kn)
  have h2 := (edges_n S.n hL.lw.ok.n24).2
  rw [← hmb]; unfold Tc.B; omega
 have hBc := b_calls hL.lw.ok
 rw [hmb] at hBc
 have HBc := Lib.hid hBc
 have HMb := Lib.hid hmb
 have HSn := Lib.hid hsn
 have hs1 : 2 ≤ sn := by have := hL.lw.ok.k1; have := hL.lw.ok.kn; omega
 have hs9 : sn ≤ 9 := by omega
 clear hL hBc hmb hsn hkn hgood hn9 HF HFew hl0 hn0 hl1 hn1
 go_wp2_with fail
 refine HBc.out.mono ?_
 rintro e w3 ⟨rfl, hb3⟩
 have HL3 := Lib.hid (HL.out.below hb3)
 have HQ3 := Lib.hid (HB.out.below HL3.out.bel)
 clear hb3 HBc HL
 have HFu := Lib.hid (kfull_calls B q o c mb w3 HO.out HQ3.out (by omega))
 go_wp2_with fail
 refine HFu.out.mono ?_
 rintro e w4 ⟨A4, c4, rfl, hc4, hO4, hb4⟩
 obtain ⟨m, hm⟩ : ∃ m, full q mb = m := ⟨_, rfl⟩
 have hml : m.length = mb := by rw [← hm, full_length]
 rw [hm] at hO4
 have HL4 := Lib.hid (HL3.out.below hb4)
 have HM4 := Lib.hid (BF.own HL4.out.ok.fld hO4)
 have HMl := Lib.hid hml
 clear hO4 hb4 hm hml HFu HL3 HQ3
 have HEn := Lib.hid (encode_good PS HL4.out.ok A4 m mb c4 HMl.out HMb.out.symm HM4.out hc4)
 go_wp2_with fail
 refine HEn.out.mono ?_
 clear HEn
 rintro e w5 ⟨A5, c5, l5, rfl, hc5, hO5, hL5, hls, hf5, hp5⟩
 have HL5 := Lib.hid (HL4.out.go hf5 hp5)
 have HS5 : Hid (Shs S.g w5 A5 l5) := Lib.hid ⟨own_row (own1_of hO5).1, hL5.lst hf5⟩
 obtain ⟨wd, hwd⟩ : ∃ wd, word m (pts S.E) = wd := ⟨_, rfl⟩
 rw [hwd] at hls
 have HLs := Lib.hid hls
 rw [HSn.out] at hc5 ⊢
 have HWd := Lib.hid hwd
 have HM5 := Lib.hid (HM4.out.past hp5)
 clear hO5 hL5 hls hf5 hp5 hwd HL4 HM4
 have hln : l5.length = sn := by have := congrArg List.length HLs.out; rw [List.length_map, List.length_map, List.length_range] at this; rw [this]; exact HSn.out
 have hsz : ∀ e ∈ l5, e.s.length ≤ 1000 := fun e he => by
  have h1 : e.s ∈ l5.map El.s := List.mem_map_of_mem he
  rw [HLs.out] at h1
  obtain ⟨i, hi, h2⟩ := List.mem_map.1 h1
  rw [← h2, shr_length wd (List.mem_range.1 hi)]
  have := HSn.out
  omega
 have HTo := Lib.hid (told0_calls S.g A5 l5 sn c5 x tu none [] 0 0 none [] 0 0 0 w5 hln (by omega) HS5.out hsz rfl (Bytes.nil _ _) rfl (Bytes.nil _ _) (by omega) rfl)
 rw [show ((0 : Nat) : Int) = 0 from rfl] at HTo
 clear hln hsz hc5
 go_wp2_with fail
 refine HTo.out.mono ?_
 rintro e w6 ⟨L, A6, m6, c6, E, P6, pn, cp, hL, hLm, hm6, -, -, rfl, hc6, -, hO6, hT6, hP6, hnb, -, -, hb6⟩
 have hok : ToldOk S.n wd E := told_ok HLs.out (by rw [HSn.out]; exact hL) hP6 hnb rfl
 have hEl : E.length = m6 := by have := congrArg List.length hP6; rw [List.length_map, ordO_length] at this; omega
 have HOk := Lib.hid hok
 have HEl := Lib.hid hEl
 have HO6 := Lib.hid hO6
 have HT6 := Lib.hid hT6
 have HB6 := Lib.hid hb6
 have hg5 := HL5.out.ok.fld.fld.lt
 have hs56 := hb6.size
 have HDe := Lib.hid (decode_calls PS (HL5.out.below hb6).ok A6 E m6 c6 hEl (by omega) (hO6.els (TE.lst hT6 hg5)))
 have HTl : Hid (Tells S.n S.k (pts S.E) (nat (shE E)) m) := Lib.hid (by
  have h1 := hok
  rw [← HWd.out] at h1
  exact h1.tells (by rw [HMl.out]; exact HMb.out.symm))
 clear hok hL hLm hP6 hnb hO6 hT6 hb6 HTo
 go_wp2_with fail
 refine HDe.out.mono ?_
 clear HDe
 rintro e w7 ⟨ms, z, hTi, A7, c7, rfl, hc7, hO7, hf7, hp7⟩
 have hpp : Past w5.heap.size S.g w5 w7 := (Past.of_below HB6.out _).trans ((show Past w6.heap.size S.g w6 w7 from hp7).mono hs56)
 have HP7 := Lib.hid hpp
 have HP7b := Lib.hid (show Past w6.heap.size S.g w6 w7 from hp7)
 have HL7 := Lib.hid (HL5.out.go hf7 hpp)
 by_cases hfew : m6 < kn
 ·obtain ⟨-, rfl⟩ := hTi.only (pts_length _) (pts_nodup HL5.out.ok.e255) (.inr (.inl ⟨HOk.out.ok, by rw [shE_length, HEl.out, HKn.out]; exact hfew, rfl, rfl⟩))
  have hd : (m6 : Int) < (kn : Int) := by omega
  obtain ⟨ml, hml⟩ : ∃ ml, ms.length = ml := ⟨_, rfl⟩
  rw [hml]
  clear hTi hO7 hf7 hp7 hpp hml hc7
  go_wp2_with (go_at_call 10; (with_reducible refine (works_calls PS _).mono ?_); rintro e wz ⟨rfl, HZ⟩)
  go_ret
  exact ⟨rfl, HL7.out.bel.trans (HZ.mono HL7.out.bel.size)⟩
 have HG7 : Hid (TIs S.n S.k (pts S.E) (shE E) m 0) := Lib.hid <| .inr (.inr (.inl ⟨HOk.out.ok, by rw [shE_length, HEl.out, HKn.out]; omega, rfl, HTl.out⟩))
 obtain ⟨rfl, rfl⟩ := HG7.out.only (pts_length _) (pts_nodup HL5.out.ok.e255) hTi
 rw [HMl.out] at hO7 hc7 ⊢
 have HO7 := Lib.hid hO7
 have HM7 := Lib.hid (HM5.out.past (show Past w5.heap.size S.g w5 w7 from hpp))
 have hd : ¬ ((m6 : Int) < (kn : Int)) := by omega
 have hSa := same_calls A7 A4 m m mb mb c7 c4 w7 HMl.out HMl.out (Own.bytes hO7) HM7.out.by_
 rw [decide_eq_true rfl] at hSa
 have HSa := Lib.hid hSa
 clear hTi hO7 hf7 hp7 hpp hc7 hSa
 have HT7 := Lib.hid (TE.past HT6.out hg5 HP7b.out)
 have HO8 := Lib.hid (ownK_past HO6.out hg5 HP7b.out)
 have hk1 := HL5.out.ok.k1
 have hkn := HL5.out.ok.kn
 obtain ⟨u, hu⟩ : ∃ u, S.n - 1 = u := ⟨_, rfl⟩
 have hu1 : 1 ≤ u := by omega
 have hu9 : u ≤ 9 := by have := HSn.out; omega
 have hm0 : 0 < m6 := by have := HKn.out; omega
 obtain ⟨p, hp⟩ : ∃ p : Nat, at_ % m6 = p := ⟨_, rfl⟩
 have hpm : p < m6 := by rw [← hp]; exact Nat.mod_lt _ hm0
 have ep1 : (at_ : Int) % (m6 : Int) = (p : Int) := by rw [← hp]; simp
 have ep2 : (at_ : Int).tmod (m6 : Int) = (p : Int) := by rw [Int.tmod_eq_emod_of_nonneg (by omega)]; exact ep1
 obtain ⟨a2, ha2⟩ : ∃ a2 : Nat, at_ / 16 = a2 := ⟨_, rfl⟩
 have ha9 : a2 < 256 := by omega
 have ea1 : IntKind.u8.wrap ((at_ : Int) / 16) = (a2 : Int) := by rw [show (at_ : Int) / 16 = (a2 : Int) by omega, IntKind.wrap_u8']; omega
 obtain ⟨d, hd2⟩ : ∃ d : Nat, a2 % u = d := ⟨_, rfl⟩
 have hdu : d < u := by rw [← hd2]; exact Nat.mod_lt _ hu1
 have ed1 : (a2 : Int) % (u : Int) = (d : Int) := by rw [← hd2]; simp
 have ed2 : (a2 : Int).tmod (u : Int) = (d : Int) := by rw [Int.tmod_eq_emod_of_nonneg (by omega)]; exact ed1
 have hm00 : ((m6 : Int) == 0) = false := by simp; omega
 have hu00 : ((u : Int) == 0) = false := by simp; omega
 have hw1 : IntKind.i64.wrap (at_ : Int) = (at_ : Int) := IntWalk.i64_in _ (by omega)
 have hw2 : IntKind.i64.wrap (a2 : Int) = (a2 : Int) := IntWalk.i64_in _ (by omega)
 have hpl : p < E.length := by rw [HEl.out]; exact hpm
 obtain ⟨b, eA, hbB, hbl, hby, hcv, hec⟩ := HT7.out.own _ (List.getElem_mem hpl)
 obtain ⟨iN, hi1, hi2, hi3⟩ := HOk.out.sh _ (List.getElem_mem hpl)
 have hsl : (E[p]).s.length = u := by rw [hi3, shr_length wd hi2]; exact hu
 obtain ⟨A6', c6', e6, -, hr6, -⟩ := HO8.out.shape
 obtain rfl := (Value.slice.inj e6).1
 obtain ⟨b6, o6, hA6, hc0⟩ := hr6 _ _ (cells2_get (List.getElem?_eq_getElem hpl)).2
 subst hA6
 have hby2 := hby
 rw [eA] at hby2
 have hcY := cellAt hby2 d (by rw [hsl]; exact hdu)
 rw [Nat.zero_add] at hcY
 obtain ⟨-, hfr⟩ := hcv.cell (i := d) (by rw [hsl]; exact hdu)
 obtain ⟨xv, hxv⟩ : ∃ xv, coef (E[p]).s d = xv := ⟨_, rfl⟩
 rw [hxv] at hcY
 have exor := Rd.f8_xor xv y
 have hTp := HT7.out.put hpl eA (k := d) (by rw [hsl]; exact hdu) (xv + y)
 have hcel := cells2_put hpl (F := (E[p]).s.set d (xv + y)) (by rw [List.length_set])
 have hap := TE.apart HT7.out HO8.out (List.getElem_mem hpl) eA
 have hOp := HO8.out.far (b := b) (j := d) hap (.int .u8 (((xv + y).n : Nat) : Int))
 rw [← hcel] at hOp
 have hshE := shE_set E p ⟨(E[p]).p, (E[p]).A, (E[p]).s.set d (xv + y), (E[p]).c⟩
 have hlen' : (E.set p ⟨(E[p]).p, (E[p]).A, (E[p]).s.set d (xv + y), (E[p]).c⟩).length = m6 := by rw [List.length_set]; exact HEl.out
 have hself : y = 0 → E.set p ⟨(E[p]).p, (E[p]).A, (E[p]).s.set d (xv + y), (E[p]).c⟩ = E := fun h0 => by
  subst h0
  rw [add_zero, ← hxv]
  have e1 : (E[p]).s.set d (coef (E[p]).s d) = (E[p]).s := by
   rw [coef_of_lt (by rw [hsl]; exact hdu), List.set_getElem_self]
  rw [e1]
  exact List.set_getElem_self hpl
 have hdif : y ≠ 0 → (E[p]).s.set d (xv + y) ≠ (E[p]).s := fun h0 he => by
  apply h0
  have h1 := congrArg (fun L => coef L d) he
  simp only [coef_set (xv + y) (show d < (E[p]).s.length by rw [hsl]; exact hdu), if_true] at h1
  rw [hxv] at h1
  have h2 : xv + (xv + y) = xv + xv := by rw [h1]
  rw [← F8.add_assoc, F8.add_self, zero_add] at h2
  exact h2
 have hsp : ((shE E)[p]'(by rw [shE_length]; exact hpl)) = ((E[p]).p, (E[p]).s) := by simp [shE]
 have HSet : Hid (y ≠ 0 → ∀ ms z, TIs S.n S.k (pts S.E) (shE (E.set p ⟨(E[p]).p, (E[p]).A, (E[p]).s.set d (xv + y), (E[p]).c⟩)) ms z → (z = 80 ∧ ms = []) ∨ (z = 0 ∧ (shE E).length = S.k ∧ ms ≠ m)) := Lib.hid fun h0 ms2 z2 hT => by
  rw [hshE] at hT
  refine tells_set (pts_length _) (pts_nodup HL5.out.ok.e255) HOk.out.ok (by rw [shE_length, HEl.out, HKn.out]; omega) HTl.out (p := p) (by rw [shE_length]; exact hpl) (s' := (E[p]).s.set d (xv + y)) (by rw [List.length_set, hsl]; exact hu.symm) (by rw [hsp]; exact hdif h0) ?_
  rw [hsp]
  exact hT
 have hc1 : w7.cell? ⟨b6, o6 + p * 2 + 1, none⟩ = some (.slice (some ⟨b, 0, none⟩) u (E[p]).c) := by
  have h1 := hc0
  unfold El.v at h1
  rw [eA, hsl, ← Nat.add_assoc] at h1
  exact h1
 obtain ⟨ec, hec2⟩ : ∃ ec, (E[p]).c = ec := ⟨_, rfl⟩
 obtain ⟨E2, hE2⟩ : ∃ E2, E.set p ⟨(E[p]).p, (E[p]).A, (E[p]).s.set d (xv + y), (E[p]).c⟩ = E2 := ⟨_, rfl⟩
 rw [hE2] at hTp hOp hlen' hself HSet
 rw [hec2] at hc1
 have HT9 := Lib.hid (hTp.below (Below.refl _ _).drew)
 have HO9 := Lib.hid hOp.drew
 have hgb : S.g ≠ b := by omega
 have HF9 : Hid (FldP (w7.setCell ⟨b, d, none⟩ (.int .u8 (((xv + y).n : Nat) : Int))).drew (some ⟨S.g, 0, none⟩)) := Lib.hid (FldP.of ((HL7.out.ok.fld.fld.imp (fun h => h.far (by simpa using hgb) _) (fun h => h.far (by simpa using hgb) _))))
 have HP9 : Hid (Past w5.heap.size S.g w5 (w7.setCell ⟨b, d, none⟩ (.int .u8 (((xv + y).n : Nat) : Int))).drew) := Lib.hid ((HP7.out.setCell (p := ⟨b, d, none⟩) (.inr hbB) _).drew)
 have HLn := Lib.hid hlen'
 have HSf := Lib.hid hself
 have HAl : Hid (∀ V, S.Ok V → Calls Try.prog 11 #[.pointer (some ⟨S.b, 0, none⟩)] V fun e w' => e = .returned (.int .i64 (u : Nat)) ∧ V = w') := Lib.hid fun V hV => by
  have := alpha_calls hV
  rw [hu] at this
  exact this
 have HOd := Lib.hid (HL7.out.ok.below (Below.refl _ _).drew)
 have hpI : (p : Int) < (m6 : Int) := by omega
 have hdI : (d : Int) < (u : Int) := by omega
 clear hTp hOp hlen' hself hdif hsp hshE hcel hap hby hby2 hcv hec hi1 hi2 hi3 hsl hr6 e6 hc0 hu hp ha2 hd2 hxv hE2 hec2 eA hbl hk1 hkn
 go_wp2_with (go_at_call 20; (with_reducible refine HSa.out.mono ?_); rintro e wq ⟨rfl, rfl⟩)
 go_region_with (go_at_call 11; (with_reducible refine (HAl.out _ HOd.out).mono ?_); rintro e wq ⟨rfl, rfl⟩)
 all_goals
  obtain ⟨w9, hw9⟩ : ∃ w9, (w7.setCell ⟨b, d, none⟩ (.int .u8 (((xv + y).n : Nat) : Int))).drew = w9 := ⟨_, rfl⟩
  rw [hw9] at HT9 HO9 HF9 HP9 ⊢
  have HL9 := Lib.hid (HL5.out.go HF9.out HP9.out)
  have HM9 := Lib.hid (HM5.out.past HP9.out)
  have HDe := Lib.hid (decode_calls PS HL9.out.ok (some ⟨b6, o6, none⟩) E2 m6 c6 HLn.out (by omega) (HO9.out.els (TE.lst HT9.out hg5)))
  clear hw9 hc1 hcY hfr exor HAl HOd HT9 HO9 hpI hdI
  go_wp2_with fail
  refine HDe.out.mono ?_
  clear HDe
  rintro e w10 ⟨ms2, z2, hTi2, A10, c10, rfl, hc10, hO10, hf10, hp10⟩
  have HL10 := Lib.hid (HL9.out.go hf10 hp10)
  have HM10 := Lib.hid (HM9.out.past (show Past w9.heap.size S.g w9 w10 from hp10))
  have HB10 := Lib.hid (Own.bytes hO10)
  by_cases hy0 : y = 0
  ·rw [HSf.out hy0] at hTi2
   obtain ⟨rfl, rfl⟩ := HG7.out.only (pts_length _) (pts_nodup HL5.out.ok.e255) hTi2
   have hyz : ((y.n : Int) == 0) = true := by rw [hy0]; rfl
   have hSa := same_calls A10 A4 m m mb mb c10 c4 w10 HMl.out HMl.out HB10.out HM10.out.by_
   rw [decide_eq_true rfl] at hSa
   have HSa := Lib.hid hSa
   rw [HMl.out]
   clear hSa hTi2 hO10 hf10 hp10 hc10 hy0
   go_wp2_with (first
    | (go_at_call 20; (with_reducible refine HSa.out.mono ?_); rintro e wq ⟨rfl, rfl⟩)
    | (go_at_call 10; (with_reducible refine (works_calls PS _).mono ?_); rintro e wz ⟨rfl, HZ⟩))
   go_ret
   exact ⟨rfl, HL10.out.bel.trans (HZ.mono HL10.out.bel.size)⟩
  ·have hyz : ((y.n : Int) == 0) = false := by
    have : y.n ≠ 0 := fun e => hy0 (F8.n_inj.1 e)
    simp; omega
   rcases HSet.out hy0 ms2 z2 hTi2 with ⟨rfl, rfl⟩ | ⟨rfl, hkl, hne⟩
   ·obtain ⟨q0, hq0⟩ : ∃ q0, (List.nil : List F8).length = q0 := ⟨_, rfl⟩
    clear hTi2 hO10 hf10 hp10 hc10 hy0 HB10 HSet HSf HTl HG7
    go_wp2_with (go_at_call 10; (with_reducible refine (works_calls PS _).mono ?_); rintro e wz ⟨rfl, HZ⟩)
    go_ret
    exact ⟨rfl, HL10.out.bel.trans (HZ.mono HL10.out.bel.size)⟩
   ·rw [shE_length, HEl.out, HKn.out] at hkl
    have hkI : ((m6 : Int) == (kn : Int)) = true := by simp; omega
    obtain ⟨ml, hml⟩ : ∃ ml, ms2.length = ml := ⟨_, rfl⟩
    have hSa := same_calls A10 A4 ms2 m ml mb c10 c4 w10 hml HMl.out HB10.out HM10.out.by_
    rw [decide_eq_false hne] at hSa
    have HSa := Lib.hid hSa
    rw [hml]
    clear hSa hTi2 hO10 hf10 hp10 hc10 hy0 HSet HSf HTl HG7 hkl hne hml
    go_wp2_with (first
     | (go_at_call 20; (with_reducible refine HSa.out.mono ?_); rintro e wq ⟨rfl, rfl⟩)
     | (go_at_call 10; (with_reducible refine (works_calls PS _).mono ?_); rintro e wz ⟨rfl, HZ⟩))
    go_ret
    exact ⟨rfl, HL10.out.bel.trans (HZ.mono HL10.out.bel.size)⟩
theorem walk (PS : Poly.Spec) (w : World) (n0 : Int) (hl0 : -9223372036854775808 ≤ n0) (hn0 : n0 < 9223372036854775808) (n1 : Int) (hl1 : -9223372036854775808 ≤ n1) (hn1 : n1 < 9223372036854775808) (A2 : Option Addr) (l2 : List Nat) (c2 : Nat) (hb2 : Bytes w A2 l2) (_hc2 : l2.length ≤ c2) (_hm2 : c2 ≤ 9223372036854775807) (n3 : Nat) (_hn3 : n3 < 18446744073709551616) (n4 : Bool) (n5 : Nat) (hn5 : n5 < 256) (n6 : Nat) (hn6 : n6 < 256) :
  Calls Try.prog 5 #[.int .i64 n0, .int .i64 n1, .slice A2 l2.length c2, .int .u64 (n3 : Nat), .bool n4, .int .u8 (n5 : Nat), .int .u8 (n6 : Nat)] w fun e w' => e = .returned (.bool true) ∧ Below w.heap.size w w' := by
 obtain ⟨q, rfl⟩ := F8.of_bytes l2 hb2.lt
 exact core PS w n0 n1 hl0 hn0 hl1 hn1 A2 q _ c2 (bs_length q).symm hb2 n3 n4 n5 hn5 ⟨n6, hn6⟩
end Go.Proofs.Ytimcmdnlhallmab.transferTells

namespace Go.Proofs.Ytimcmdnlhallmab.transferTells
open Go.ChangeShapes Go.WideShapes Go.ChangeAt Go.RowKit
open Go.ChangeMaps (open_string shut_string)
set_option linter.unusedVariables false
theorem own : ownKnob Try.prog.godebug = none := by kernel_rfl
theorem laidOut : laidOutB Try.prog = true := by kernel_rfl
set_option maxRecDepth 100000 in
theorem contract (H : Type) (enc : TypeId × Value → H) (W : World) (base : Nat) (args : Array Value) (ds gs : List (DataW H)) (before : List MemPlace)
  (hval : ∀ (j : Nat) t v, Try.f5.params[j]? = some t → args[j]? = some v → Value.okWide Try.prog W .any base t v)
  (hW : DataW.Whole enc Try.prog Try.f5.params.toList Rows.transferTellsSpec.vars false W args.toList ds gs before)
  (hsz : (DataW.weightsEach Try.prog (Try.f5.params.toList ++ Rows.transferTellsSpec.plain.varTypes Try.prog) (ds ++ gs)).all (· ≤ reachBytes) = true) :
  Calls Try.prog 5 args W fun e W' => ∃ v, e = .returned v ∧ Rows.transferTellsSpec.post enc Try.prog Try.f5 false true false false W args v W' := by
 have hW' := hW
 obtain ⟨p, q, hA0, hV, rfl, hfz, hnd⟩ := hW
 have hA : DataW.TrodAll enc Try.prog W 0 (fun _ => true) true Try.f5.params.toList args.toList ds p := hA0
 rw [Try.params5] at hA hval hsz
 obtain ⟨v0, vs0, d0, ds0, p0, q0, hargs, rfl, rfl, h0, r0⟩ := trodAll_cons hA
 obtain ⟨v1, vs1, d1, ds1, p1, q1, rfl, rfl, rfl, h1, r1⟩ := trodAll_cons r0
 obtain ⟨v2, vs2, d2, ds2, p2, q2, rfl, rfl, rfl, h2, r2⟩ := trodAll_cons r1
 obtain ⟨v3, vs3, d3, ds3, p3, q3, rfl, rfl, rfl, h3, r3⟩ := trodAll_cons r2
 obtain ⟨v4, vs4, d4, ds4, p4, q4, rfl, rfl, rfl, h4, r4⟩ := trodAll_cons r3
 obtain ⟨v5, vs5, d5, ds5, p5, q5, rfl, rfl, rfl, h5, r5⟩ := trodAll_cons r4
 obtain ⟨v6, vs6, d6, ds6, p6, q6, rfl, rfl, rfl, h6, r6⟩ := trodAll_cons r5
 obtain ⟨rfl, rfl, rfl⟩ := trodAll_nil r6
 obtain rfl : args = #[v0, v1, v2, v3, v4, v5, v6] := by cases args; simp_all
 obtain ⟨rfl, rfl⟩ := trodVars_none hV
 obtain ⟨n0, rfl, rfl, rfl, w0⟩ := open_int Try.underlying3 (hval 0 3 v0 rfl rfl) h0
 have b0 := wf_bounds_i64 w0
 obtain ⟨n1, rfl, rfl, rfl, w1⟩ := open_int Try.underlying3 (hval 1 3 v1 rfl rfl) h1
 have b1 := wf_bounds_i64 w1
 obtain ⟨A2, len2, c2, rfl⟩ := okWide_slice Try.underlying34 (hval 2 34 v2 rfl rfl)
 have k2 := h2
 have lt2 : ∀ x ∈ p2, x.block < W.heap.size := by obtain ⟨m, hm⟩ := k2; exact DataW.trod_lt m _ _ _ hm
 obtain ⟨l2, rfl, hb2, hc2, hm2⟩ : ∃ l : List Nat, len2 = l.length ∧ Bytes W A2 l ∧ l.length ≤ c2 ∧ c2 ≤ 9223372036854775807 := by
  obtain ⟨fuel, hf⟩ := h2
  rcases open_ints Try.underlying34 Try.underlying5 (by kernel_rfl) hf with ⟨hcs, _⟩ | ⟨x, l, c, zs, hcs, _, hl, hm, hz, _, hcell, hwz⟩
  ·simp [Value.cells] at hcs
   obtain ⟨rfl, rfl, rfl⟩ := hcs
   exact ⟨[], rfl, Bytes.nil _ _, by simp, by simp⟩
  ·simp [Value.cells] at hcs
   obtain ⟨rfl, rfl, rfl⟩ := hcs
   obtain ⟨h1, h2⟩ := bytes_of hl (by simpa using hz) hcell hwz
   exact ⟨_, h2.symm, h1, by rw [h2]; exact hl, by have h := hm; simp only [maxLen] at h; omega⟩
 obtain ⟨a3, rfl, rfl, rfl, w3⟩ := open_int Try.underlying43 (hval 3 43 v3 rfl rfl) h3
 have b3 := wf_bounds_u64 w3
 obtain ⟨n3, rfl⟩ := Int.eq_ofNat_of_zero_le b3.1
 have hn3 : n3 < 18446744073709551616 := by omega
 obtain ⟨n4, rfl, rfl, rfl⟩ := open_bool Try.underlying4 (hval 4 4 v4 rfl rfl) h4
 obtain ⟨a5, rfl, rfl, rfl, w5⟩ := open_int Try.underlying5 (hval 5 5 v5 rfl rfl) h5
 have b5 := wf_bounds_u8 w5
 obtain ⟨n5, rfl⟩ := Int.eq_ofNat_of_zero_le b5.1
 have hn5 : n5 < 256 := by omega
 obtain ⟨a6, rfl, rfl, rfl, w6⟩ := open_int Try.underlying5 (hval 6 5 v6 rfl rfl) h6
 have b6 := wf_bounds_u8 w6
 obtain ⟨n6, rfl⟩ := Int.eq_ofNat_of_zero_le b6.1
 have hn6 : n6 < 256 := by omega
 clear hA0
 refine (walk Poly.spec W n0 b0.1 b0.2 n1 b1.1 b1.2 A2 l2 c2 hb2 hc2 hm2 n3 hn3 n4 n5 hn5 n6 hn6 ).mono fun e W' ⟨he, bel⟩ => ?_
 subst he
 exact ⟨_, rfl, _, _, _, [], _, [], hW', trodAll_mk1 (shut_bool Try.underlying4 _), (trodAll_cons_mk (shut_int Try.underlying3 w0) (trodAll_cons_mk (shut_int Try.underlying3 w1) (trodAll_cons_mk (Below.trod laidOut (by kernel_rfl) (of_decide_eq_true (by kernel_rfl)) k2 bel lt2) (trodAll_cons_mk (shut_int Try.underlying43 w3) (trodAll_cons_mk (shut_bool Try.underlying4 _) (trodAll_cons_mk (shut_int Try.underlying5 w5) (trodAll_cons_mk (shut_int Try.underlying5 w6) trodAll_mk0))))))), rfl, bel.frame _, fun h => by cases h⟩
set_option maxRecDepth 100000 in
theorem lifted (os : Os) (started : os.Started) (H : Type) (enc : TypeId × Value → H) :
  ReturnsInHanded {} Try.checked os 5 .any (Rows.transferTellsSpec.pre6 enc Try.prog Try.f5 Rows.transferTellsRow.domain false) (Rows.transferTellsSpec.post enc Try.prog Try.f5 false true false false) := by
 refine returnsInHanded_of_change_sized (C := Try.checked) own started (by kernel_rfl) Try.func5
  (ChangeSpec.witness6 (enc := enc) (C := Try.checked) false ⟨#[], #[.int .i64 0, .int .i64 0, .slice none 0 0, .int .u64 0, .bool false, .int .u8 0, .int .u8 0], []⟩ 8 (by kernel_rfl) (by kernel_rfl) (by kernel_rfl) (by kernel_rfl)) ?_
 intro W base args ds gs before hval hW _ hsz _
 exact contract H enc W base args ds gs before hval hW hsz
theorem proved : Rows.TransferTellsSaid :=
 OpenClaim.holds_of_wide 5 Try.f5 rfl rfl rfl rfl rfl rfl rfl ⟨rfl, rfl, rfl, rfl, rfl⟩ rfl rfl rfl rfl rfl (by kernel_rfl) Try.func5 (by kernel_rfl)
  (of_decide_eq_true (by kernel_rfl)) (by unfold Func.isWrapper; first | (rw [if_pos (by decide +kernel)]; kernel_rfl) | (rw [if_neg (by decide +kernel)]; exact ⟨rfl, rfl⟩))
  (fun os started H enc _ => lifted os started H enc)
end Go.Proofs.Ytimcmdnlhallmab.transferTells
