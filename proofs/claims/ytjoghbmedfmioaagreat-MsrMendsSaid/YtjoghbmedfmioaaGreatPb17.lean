/- Of the program, joined: MsCode4, MsCode5, PolyWorks, PolyRefSt, RdSt, RdLaw, RdLaw2, WlFar, WlSpec, MsCode6, MsCode7. -/
import Derived.Test.YtjoghbmedfmioaaGreatPb16
import Derived.Test.YtjoghbmedfmioaaGreatPb08
import Derived.Test.YtjoghbmedfmioaaGreatPb03
import Derived.Test.YtjoghbmedfmioaaGreatPb12
import Derived.Test.YtjoghbmedfmioaaGreatPb06
import Derived.Deep.RegionHeld
namespace Go.Proofs.YtjoghbmedfmioaaGreat.Ms
open Go.RowKit Go.Shelf F8 Poly GF Rd
attribute [local go_sem] Oper.semAt_some
theorem stored_eql_nil (a : Option Addr) (l c : Nat) (w : World) : (binOp .eql 112 (.slice a l c) (.slice none 0 0)).run Tryz.prog w = .ok (.bool a.isNone) w := by
 simp only [binOp]
 simp [run_equal_slice_nil w 112 115 a l c Tryz.underlying112]
set_option maxRecDepth 100000 in
set_option maxHeartbeats 1000000 in
theorem clone_stored (A : Option Addr) (l : List El) (m c : Nat) (w : World) (hl : l.length = m) (hm : m ≤ 1000) (hr : Row w A (cells2 l)) :
  Calls Tryz.prog 137 #[.slice A m c] w fun e w' => ∃ v, e = .returned v ∧ OwnK 2 w' w.heap.size 115 v m (cells2 l) ∧ Below w.heap.size w w' := by
 have hnil := stored_eql_nil
 cases A with
 | none =>
  have h0 : l = [] := by
   cases l with
   | nil => rfl
   | cons e l =>
    obtain ⟨b, off, h, _⟩ := hr 0 (.int .i64 e.p) rfl
    cases h
  subst h0
  simp only [List.length_nil] at hl
  subst hl
  go_enter Tryz.func137, Tryz.ntmps137
  go_wp2
  go_ret
  exact ⟨_, rfl, OwnK.nil _ _ _ _, Below.refl _ _⟩
 | some ad =>
  have HR := Lib.hid hr
  have HL : Hid ((cells2 l).length = m * 2) := Lib.hid (by rw [cells2_length, hl])
  have HO : Hid (OwnK 2 (w.alloc (.cells #[] 115)) w.heap.size 115 (.slice (some ⟨w.heap.size, 0, none⟩) 0 0) 0 []) := Lib.hid (World.ownsRow_lit (base := w.heap.size) (e := 115) (size := 2) w #[] 0 (Nat.le_refl _) (by omega) rfl)
  have HR2 := Lib.hid (hr.alloc (.cells #[] 115))
  clear hr hl
  go_enter Tryz.func137, Tryz.ntmps137
  go_wp2_with (at_builtin; refine wpList_appK _ rfl 2 _ _ _ rfl w.heap.size 115 _ 32 Tryz.underlying112 info_stored rfl (by omega) (by omega) _ 0 _ rfl HO.out ad m c (cells2 l) rfl HL.out HR2.out (cells2_one _) (by omega) (by simp) ?_; rintro v2 w3 hown hg3 -)
  have hB3 := ((Below.refl w.heap.size w).alloc (Nat.le_refl _) (.cells #[] 115)).trans (HO.out.grew (by simp) hg3)
  rw [Nat.zero_add, List.nil_append] at hown
  have hX : ∃ v, Ending.returned v2 = .returned v ∧ OwnK 2 w3 w.heap.size 115 v m (cells2 l) ∧ Below w.heap.size w w3 := ⟨_, rfl, hown, hB3⟩
  clear hown hg3 hB3
  go_wp2
  go_ret
  exact hX
set_option maxRecDepth 100000 in
set_option maxHeartbeats 1000000 in
theorem without1_calls (e : El) (q : Nat) (P : Option Addr) (ps : List Int) (m d : Nat) (w : World) (hq : Block w q 44 #[.slice P m d]) (hl : ps.length = m) (hm : m ≤ 1000) (hr : Row w P (zs ps)) :
  Calls Tryz.prog 138 #[.agg #[.int .i64 e.p, .slice e.A e.s.length e.c], .pointer (some ⟨q, 0, none⟩)] w fun e' w' => e' = .returned (.bool (decide (e.p ∈ ps))) ∧ Below w.heap.size w w' := by
 obtain ⟨p, hp⟩ : ∃ p, e.p = p := ⟨_, rfl⟩
 obtain ⟨A, hA⟩ : ∃ p, e.A = p := ⟨_, rfl⟩
 obtain ⟨n, hn⟩ : ∃ p, e.s.length = p := ⟨_, rfl⟩
 obtain ⟨c, hc⟩ : ∃ p, e.c = p := ⟨_, rfl⟩
 rw [hp, hA, hn, hc]
 have hal : Below w.heap.size w (w.alloc (.cells #[.int .i64 p, .slice A n c] 115)) := (Below.refl _ _).alloc (Nat.le_refl _) _
 have hq0 := (hq.below hal hq.lt).cell 0
 have HC := Lib.hid (contains_calls P ps m d p _ hl (by omega) (hr.below hal))
 have HAl := Lib.hid hal
 clear hq hl hr hal hp hA hn hc
 go_enter Tryz.func138, Tryz.ntmps138
 go_wp2_with (go_at_call 78; refine HC.out.mono ?_; rintro e w1 ⟨rfl, rfl⟩)
 go_ret
 exact ⟨rfl, HAl.out⟩
def kept (l : List El) (ps : List Int) : List El := l.filter fun e => !decide (e.p ∈ ps)
theorem kept_snoc {l : List El} {ps : List Int} {t : Nat} (ht : t < l.length) : kept (l.take (t + 1)) ps = kept (l.take t) ps ++ if l[t].p ∈ ps then [] else [l[t]] := by
 unfold kept
 rw [take_succ' l ht, List.filter_append, List.filter_cons]
 by_cases h : l[t].p ∈ ps <;> simp [h]
theorem kept_length (l : List El) (ps : List Int) : (kept l ps).length ≤ l.length := List.length_filter_le _ _
section
variable (l : List El) (m c q : Nat) (P : Option Addr) (ps : List Int) (k d : Nat) (w : World) (hl : l.length = m) (hm : m ≤ 1000) (hq : Block w q 44 #[.slice P k d]) (hk : ps.length = k) (hk2 : k ≤ 1000) (hp : Row w P (zs ps))
include hl hm hq hk hk2 hp
set_option maxRecDepth 100000 in
set_option maxHeartbeats 1000000 in
theorem indexStored_calls (A : Option Addr) (hr : Row w A (cells2 l)) :
  Calls Tryz.prog 167 #[.slice A m c, .func (.func 138) #[] #[.pointer (some ⟨q, 0, none⟩)]] w fun e w' => ∃ z : Int, e = .returned (.int .i64 z) ∧ ((z = -1 ∧ kept l ps = l) ∨ ∃ t : Nat, z = (t : Int) ∧ t < m ∧ kept (l.take (t + 1)) ps = l.take t) ∧ Below w.heap.size w w' := by
 have HR := Lib.hid hr
 have HM := Lib.hid hl
 have HF : Hid (∀ V, Below w.heap.size w V → ∀ e : El, Calls Tryz.prog 138 #[.agg #[.int .i64 e.p, .slice e.A e.s.length e.c], .pointer (some ⟨q, 0, none⟩)] V fun e' w' => e' = .returned (.bool (decide (e.p ∈ ps))) ∧ Below V.heap.size V w') := Lib.hid (fun V hV e => without1_calls e q P ps k d V (hq.below hV hq.lt) hk hk2 (hp.below hV))
 clear hr hl hq hk hp
 go_enter Tryz.func167, Tryz.ntmps167
 go_wp2
 go_loopw [8] (fun i wr => ∃ t : Nat, t ≤ m ∧ i = .int .i64 t ∧ Hid (kept (l.take t) ps = l.take t) ∧ Hid (Below w.heap.size w wr)) (fun i _ => m - (intOf i).toNat)
 case atStart => exact ⟨0, by omega, rfl, Lib.hid (by simp [kept]), Lib.hid (Below.refl _ _)⟩
 case round =>
  obtain ⟨t, ht, rfl, HN, HW⟩ := hrel
  by_cases htm : t < m
  ·have hti : t < l.length := by rw [HM.out]; exact htm
   obtain ⟨b, off, rfl, hc0, hc1⟩ := row2_at (HR.out.below HW.out) hti
   have HE := Lib.hid (kept_snoc (ps := ps) hti)
   have HT : Hid (l.take (t + 1) = l.take t ++ [l[t]]) := Lib.hid (take_succ' l hti)
   obtain ⟨e, he⟩ : ∃ e, l[t] = e := ⟨_, rfl⟩
   rw [he] at hc0 hc1 HE HT
   have HFe := Lib.hid (HF.out wr HW.out e)
   obtain ⟨ep, h1⟩ : ∃ a, e.p = a := ⟨_, rfl⟩
   obtain ⟨eA, h2⟩ : ∃ a, e.A = a := ⟨_, rfl⟩
   obtain ⟨en, h3⟩ : ∃ a, e.s.length = a := ⟨_, rfl⟩
   obtain ⟨ec, h4⟩ : ∃ a, e.c = a := ⟨_, rfl⟩
   rw [h1, h2, h3, h4] at HFe
   rw [h1] at hc0 HE
   rw [h2, h3, h4] at hc1
   have hsz := HW.out.size
   clear he h1 h2 h3 h4
   by_cases hin : ep ∈ ps
   ·have HB : Hid (decide (ep ∈ ps) = true) := Lib.hid (decide_eq_true hin)
    have HX : Hid (kept (l.take (t + 1)) ps = l.take t) := Lib.hid (by rw [HE.out, if_pos hin, List.append_nil, HN.out])
    clear hin
    go_wp2_with (go_at_call 138; refine HFe.out.mono ?_; rintro e w1 ⟨rfl, hb⟩; rw [HB.out])
    go_ret
    exact ⟨t, rfl, .inr ⟨t, rfl, htm, HX.out⟩, HW.out.trans (hb.mono hsz)⟩
   ·have HB : Hid (decide (ep ∈ ps) = false) := Lib.hid (decide_eq_false hin)
    have HX : Hid (kept (l.take (t + 1)) ps = l.take (t + 1)) := Lib.hid (by rw [HE.out, if_neg hin, HN.out, HT.out])
    clear hin
    go_wp2_with (go_at_call 138; refine HFe.out.mono ?_; rintro e w1 ⟨rfl, hb⟩; rw [HB.out])
    have HW2 := Lib.hid (HW.out.trans (hb.mono hsz))
    clear hb
    go_roundw
    case rel => exact ⟨t + 1, by omega, by go_num, HX, HW2⟩
    case measure => simp [intOf]; omega
  ·obtain rfl : t = m := by omega
   have hn := HN.out
   rw [List.take_of_length_le (by rw [HM.out]; exact Nat.le_refl _)] at hn
   have HX := Lib.hid hn
   clear hn HN
   go_wp2
   go_ret
   exact ⟨-1, rfl, .inl ⟨rfl, HX.out⟩, HW.out⟩
end
end Go.Proofs.YtjoghbmedfmioaaGreat.Ms

namespace Go.Proofs.YtjoghbmedfmioaaGreat.Ms
open Go.RowKit Go.Shelf F8 Poly GF Rd
attribute [local go_sem] Oper.semAt_some
theorem row_low {w w' : World} {P : Option Addr} {xs : List Value} {B : Nat} (h : Row w P xs) (hB : ∀ a, P = some a → xs ≠ [] → a.block < B) (hb : Below B w w') : Row w' P xs := fun k u hu => by
 obtain ⟨b, off, rfl, hc⟩ := h k u hu
 have hlt := hB _ rfl (by rintro rfl; simp at hu)
 exact ⟨b, off, rfl, by rw [hb.cell (p := ⟨b, off + k, none⟩) hlt]; exact hc⟩
section
variable {k B n c : Nat} {w : World} {e : TypeId} {xs : List Value} {r : Nat}
theorem OwnK.cellAt (h : OwnK k w B e (.slice (some ⟨r, 0, none⟩) n c) n xs) (j : Nat) (hj : j < n * k) : w.cell? ⟨r, j, none⟩ = xs[j]? := World.ownsRow.cellAt h j hj
theorem OwnK.frozenAt (h : OwnK k w B e (.slice (some ⟨r, 0, none⟩) n c) n xs) (j : Nat) : w.frozen? ⟨r, j, none⟩ = false := World.ownsRow.frozenAt h j
theorem OwnK.set_ (h : OwnK k w B e (.slice (some ⟨r, 0, none⟩) n c) n xs) (j : Nat) (u : Value) : OwnK k (w.setCell ⟨r, j, none⟩ u) B e (.slice (some ⟨r, 0, none⟩) n c) n (xs.set j u) := (World.ownsRow.stored h j u).1
end
theorem cells2_set : ∀ (l : List El) (i : Nat) (e : El), i < l.length → cells2 (l.set i e) = ((cells2 l).set (i * 2) (.int .i64 e.p)).set (i * 2 + 1) e.v
 | [], i, e, h => by simp at h
 | x :: l, 0, e, _ => rfl
 | x :: l, i + 1, e, h => by
  have ih := cells2_set l i e (by simpa using h)
  show (.int .i64 x.p) :: x.v :: cells2 (l.set i e) = (((.int .i64 x.p) :: x.v :: cells2 l).set ((i + 1) * 2) (.int .i64 e.p)).set ((i + 1) * 2 + 1) e.v
  rw [ih, show (i + 1) * 2 = i * 2 + 1 + 1 by omega]
  simp only [List.set_cons_succ]
theorem cells2_take : ∀ (l : List El) (i : Nat), cells2 (l.take i) = (cells2 l).take (i * 2)
 | l, 0 => by simp [cells2]
 | [], i + 1 => by simp [cells2]
 | x :: l, i + 1 => by
  have ih := cells2_take l i
  show x.cs ++ cells2 (l.take i) = (x.cs ++ cells2 l).take ((i + 1) * 2)
  rw [ih, List.take_append]
  have e1 : (i + 1) * 2 - x.cs.length = i * 2 := by simp [El.cs]; omega
  have e2 : x.cs.take ((i + 1) * 2) = x.cs := List.take_of_length_le (by simp [El.cs]; omega)
  rw [e1, e2]
theorem zeroes_one (n : Nat) : ∀ u ∈ (Builtin.zeroCells (Value.agg #[.int .i64 0, .slice none 0 0]).cells n).toList, u.oneCell' = true := by
 intro u hu
 rw [Array.mem_toList_iff] at hu
 unfold Builtin.zeroCells at hu
 obtain ⟨i, _, rfl⟩ := Array.mem_map.1 hu
 have h2 : i % 2 = 0 ∨ i % 2 = 1 := by omega
 have h3 : (Value.agg #[.int .i64 0, .slice none 0 0]).cells.size = 2 := rfl
 rw [h3]
 rcases h2 with h2 | h2 <;> rw [h2] <;> rfl
theorem clear_own {w : World} {B r m c i : Nat} {xs : List Value} (h : OwnK 2 w B 115 (.slice (some ⟨r, 0, none⟩) m c) m xs) (hi : i < m) (cc : Nat) :
  ∃ w', (∀ ty, (Builtin.clear_ #[112] ty #[.slice (some ⟨r, i * 2, none⟩) (m - i) cc]).run Tryz.prog w = .ok (.tuple #[]) w') ∧ OwnK 2 w' B 115 (.slice (some ⟨r, 0, none⟩) i c) i (xs.take (i * 2)) ∧ Below B w w' := by
 rcases h.2 with ⟨h', _⟩ | ⟨g', cap', cur, h', hb, hg, hnc, hcm, hcs, htake⟩
 ·simp at h'
 ·simp only [Value.slice.injEq, Option.some.injEq, Addr.mk.injEq, and_true, true_and] at h'
  obtain ⟨rfl, rfl⟩ := h'
  obtain ⟨vs, hvs⟩ : ∃ vs, (Builtin.zeroCells (Value.agg #[.int .i64 0, .slice none 0 0]).cells (m - i)).toList = vs := ⟨_, rfl⟩
  have hvl : vs.length = (m - i) * 2 := by rw [← hvs]; simp [Builtin.zeroCells, Value.cells]
  have hv1 : ∀ u ∈ vs, u.oneCell' = true := by rw [← hvs]; exact zeroes_one _
  have hst := run_storeCells_at (P := Tryz.prog) r (i * 2) 115 vs 0 cur w hg (by rw [hvl, hcs]; omega) hv1
  refine ⟨w.setRow r (cur.toList.take (i * 2 + 0) ++ vs ++ cur.toList.drop (i * 2 + 0 + vs.length)).toArray, fun ty => ?_, ?_, ?_⟩
  ·have hu : Tryz.prog.underlying 112 = some (.slice 115) := Tryz.underlying112
   obtain ⟨q, hq⟩ : ∃ q, m - i = q + 1 := ⟨m - i - 1, by omega⟩
   rw [hq] at hvs ⊢
   simp [Builtin.clear_, run_underlying hu, Sem.run_bind, hvs, hst]
  ·refine ⟨?_, .inr ⟨r, c, _, rfl, hb, setRow_heap w r cur _ _ _ hg, by omega, hcm, ?_, ?_⟩⟩
   ·rw [List.length_take, h.1]; omega
   ·simp [hvl]; rw [hcs]; omega
   ·rw [← htake]
    simp only [Nat.add_zero]
    rw [List.append_assoc, List.take_append_of_le_length (by simp; rw [hcs]; omega), List.take_take, List.take_take]
    congr 1; omega
  ·exact ⟨rfl, rfl, rfl, by simp [World.setRow], fun k hk => by simp [World.setRow, Array.getElem?_modify]; omega⟩
section
variable (l : List El) (m q : Nat) (P : Option Addr) (ps : List Int) (k d B : Nat) (w : World) (hl : l.length = m) (hm : m ≤ 1000) (hq : Block w q 44 #[.slice P k d]) (hqB : q < B) (hk : ps.length = k) (hk2 : k ≤ 1000) (hp : Row w P (zs ps)) (hpB : ∀ a, P = some a → zs ps ≠ [] → a.block < B) (hB : B ≤ w.heap.size)
include hl hm hq hqB hk hk2 hp hpB hB
set_option maxRecDepth 100000 in
set_option maxHeartbeats 2000000 in
theorem delete_calls (v : Value) (h : OwnK 2 w B 115 v m (cells2 l)) :
  Calls Tryz.prog 136 #[v, .func (.func 138) #[] #[.pointer (some ⟨q, 0, none⟩)]] w fun e w' => ∃ v', e = .returned v' ∧ OwnK 2 w' B 115 v' (kept l ps).length (cells2 (kept l ps)) ∧ Below B w w' := by
 obtain ⟨A, c, rfl, hmc, hr, hA⟩ := h.shape
 have HI := Lib.hid (indexStored_calls l m c q P ps k d w hl hm hq hk hk2 hp A hr)
 have HO := Lib.hid h
 have HM := Lib.hid hl
 have HA := Lib.hid hA
 have HB := Lib.hid hB
 have HF : Hid (∀ V, Below B w V → ∀ e : El, Calls Tryz.prog 138 #[.agg #[.int .i64 e.p, .slice e.A e.s.length e.c], .pointer (some ⟨q, 0, none⟩)] V fun e' w' => e' = .returned (.bool (decide (e.p ∈ ps))) ∧ Below V.heap.size V w') := Lib.hid (fun V hV e => without1_calls e q P ps k d V (hq.below hV hqB) hk hk2 (row_low hp hpB hV))
 clear h hr hA hl hq hqB hk hp hpB hB
 go_enter Tryz.func136, Tryz.ntmps136
 go_wp2_with fail
 refine HI.out.mono ?_
 rintro e w1 ⟨z, rfl, hz, hb1⟩
 have HW1 := Lib.hid (hb1.mono HB.out)
 have HO1 := Lib.hid (HO.out.below hb1)
 clear hb1 HI
 rcases hz with ⟨rfl, hkl⟩ | ⟨t0, rfl, ht0, hkl⟩
 ·have hX : OwnK 2 w1 B 115 (.slice A m c) (kept l ps).length (cells2 (kept l ps)) := by rw [hkl, HM.out]; exact HO1.out
  have HX := Lib.hid hX
  clear hkl hX
  go_wp2
  go_ret
  exact ⟨_, rfl, HX.out, HW1.out⟩
 ·obtain ⟨r, rfl⟩ : ∃ r, A = some ⟨r, 0, none⟩ := by
   rcases HO.out.2 with ⟨h', _⟩ | ⟨g', cap', cur, h', _⟩
   ·injection h' with _ h2 _; omega
   ·injection h' with h1 _ _; exact ⟨g', h1⟩
  have hrB : B ≤ r := (HA.out _ rfl).1
  have hz1 : ((t0 : Int) == -1) = false := by simp
  have HS : Hid (t0 = (kept (l.take (t0 + 1)) ps).length) := Lib.hid (by rw [hkl, List.length_take, HM.out]; omega)
  have HS2 : Hid (l.take t0 = kept (l.take (t0 + 1)) ps) := Lib.hid hkl.symm
  clear hkl HA
  go_wp2_with fail
  go_loopw [5, 6] (fun i j wr => ∃ (t n1 : Nat) (M : List El), t ≤ m ∧ n1 < t ∧ j = .int .i64 t ∧ i = .int .i64 n1 ∧ Hid (n1 = (kept (l.take t) ps).length) ∧ Hid (M.length = m) ∧ Hid (M.take n1 = kept (l.take t) ps) ∧ Hid (M.drop t = l.drop t) ∧ Hid (OwnK 2 wr B 115 (.slice (some ⟨r, 0, none⟩) m c) m (cells2 M)) ∧ Hid (Below B w wr)) (fun _ j _ => m - (intOf j).toNat)
  case atStart => exact ⟨t0 + 1, t0, l, by omega, by omega, by go_num, rfl, HS, HM, HS2, Lib.hid rfl, HO1, HW1⟩
  case round =>
   clear HS HS2 HO1 HW1
   obtain ⟨t, n1, M, ht, hnt, rfl, rfl, HN, HML, HT, HD, HO1, HW⟩ := hrel
   by_cases htm : t < m
   ·have hti : t < l.length := by rw [HM.out]; exact htm
    have htM : t < M.length := by rw [HML.out]; exact htm
    have hMt : M[t]? = some l[t] := by
     have h1 : (M.drop t)[0]? = (l.drop t)[0]? := by rw [HD.out]
     rw [List.getElem?_drop, List.getElem?_drop, Nat.add_zero, List.getElem?_eq_getElem hti] at h1
     exact h1
    have HE := Lib.hid (kept_snoc (ps := ps) hti)
    obtain ⟨h1, h2⟩ := cells2_get hMt
    have hc0 := (HO1.out.cellAt (t * 2) (by omega)).trans h1
    have hc1 := (HO1.out.cellAt (t * 2 + 1) (by omega)).trans h2
    have HD2 : Hid (M.drop (t + 1) = l.drop (t + 1)) := Lib.hid (by
     have h3 := congrArg (List.drop 1) HD.out
     rwa [List.drop_drop, List.drop_drop] at h3)
    obtain ⟨e, he⟩ : ∃ e, l[t] = e := ⟨_, rfl⟩
    rw [he] at hc0 hc1 HE
    have HFe := Lib.hid (fun V hV => HF.out V hV e)
    obtain ⟨ep, h5⟩ : ∃ a, e.p = a := ⟨_, rfl⟩
    obtain ⟨eA, h6⟩ : ∃ a, e.A = a := ⟨_, rfl⟩
    obtain ⟨en, h7⟩ : ∃ a, e.s.length = a := ⟨_, rfl⟩
    obtain ⟨ec, h8⟩ : ∃ a, e.c = a := ⟨_, rfl⟩
    have HCS : Hid (cells2 (M.set n1 e) = ((cells2 M).set (n1 * 2) (.int .i64 ep)).set (n1 * 2 + 1) (.slice eA en ec)) := Lib.hid (by rw [cells2_set M n1 e (by omega), ← h5, ← h6, ← h7, ← h8]; rfl)
    have HMS : Hid ((M.set n1 e).take (n1 + 1) = M.take n1 ++ [e] ∧ (M.set n1 e).drop (t + 1) = M.drop (t + 1) ∧ (M.set n1 e).length = m) := Lib.hid ⟨by
     rw [List.take_succ_eq_append_getElem (by rw [List.length_set]; omega), List.getElem_set_self, List.take_set_of_le (Nat.le_refl _)], by
     rw [List.drop_set_of_lt (by omega)], by rw [List.length_set, HML.out]⟩
    simp only [h5, h6, h7, h8] at HFe
    rw [h5] at hc0 HE
    simp only [El.v] at hc1
    rw [h6, h7, h8] at hc1
    have hsz : B ≤ wr.heap.size := Nat.le_trans HB.out HW.out.size
    have hrl : r < wr.heap.size := cell_lt hc0
    clear he h1 h2 h5 h6 h7 h8 hMt
    have hal := HW.out.alloc hsz (.cells #[.int .i64 ep, .slice eA en ec] 115)
    by_cases hin : ep ∈ ps
    ·have HBt : Hid (decide (ep ∈ ps) = true) := Lib.hid (decide_eq_true hin)
     have HX : Hid (kept (l.take (t + 1)) ps = kept (l.take t) ps) := Lib.hid (by rw [HE.out, if_pos hin, List.append_nil])
     have HAl := Lib.hid hal
     clear hin hal
     go_wp2_with (go_at_call 138; refine (HFe.out _ HAl.out).mono ?_; rintro e w2 ⟨rfl, hb⟩; rw [HBt.out])
     have HW2 := Lib.hid (HAl.out.trans (hb.mono (by simp; omega)))
     have HO2 := Lib.hid ((HO1.out.alloc (.cells #[.int .i64 ep, .slice eA en ec] 115)).below hb)
     have HN2 : Hid (n1 = (kept (l.take (t + 1)) ps).length) := Lib.hid (by rw [HX.out]; exact HN.out)
     have HT2 : Hid (M.take n1 = kept (l.take (t + 1)) ps) := Lib.hid (by rw [HX.out]; exact HT.out)
     clear hb hc0 hc1
     go_roundw
     case rel => exact ⟨t + 1, n1, M, by omega, by omega, by go_num, rfl, HN2, HML, HT2, HD2, HO2, HW2⟩
     case measure => simp [intOf]; omega
    ·have HBt : Hid (decide (ep ∈ ps) = false) := Lib.hid (decide_eq_false hin)
     have HX : Hid (kept (l.take (t + 1)) ps = kept (l.take t) ps ++ [e]) := Lib.hid (by rw [HE.out, if_neg hin])
     have HAl := Lib.hid hal
     clear hin hal
     go_wp2_with fail
     refine (HFe.out _ HAl.out).mono ?_
     rintro e' w2 ⟨rfl, hb⟩
     rw [HBt.out]
     have HW2 := Lib.hid (HAl.out.trans (hb.mono (by simp; omega)))
     have HO2 := Lib.hid ((HO1.out.alloc (.cells #[.int .i64 ep, .slice eA en ec] 115)).below hb)
     have hbl : Block w2 wr.heap.size 115 #[.int .i64 ep, .slice eA en ec] := (Block.new wr _ _).below hb (by simp)
     have v0 := hbl.cell 0
     have v1 := hbl.cell 1
     have hc2l : (cells2 M).length = m * 2 := by rw [cells2_length, HML.out]
     obtain ⟨x0, hx0⟩ : ∃ x, w2.cell? ⟨r, n1 * 2, none⟩ = some x := ⟨_, (HO2.out.cellAt (n1 * 2) (by omega)).trans (List.getElem?_eq_getElem (by rw [hc2l]; omega))⟩
     obtain ⟨x1, hx1⟩ : ∃ x, w2.cell? ⟨r, n1 * 2 + 1, none⟩ = some x := ⟨_, (HO2.out.cellAt (n1 * 2 + 1) (by omega)).trans (List.getElem?_eq_getElem (by rw [hc2l]; omega))⟩
     have f0 := HO2.out.frozenAt (n1 * 2)
     have f1 := HO2.out.frozenAt (n1 * 2 + 1)
     have hn1m : (n1 : Int) < (m : Int) := by omega
     have HO3 : Hid (OwnK 2 ((w2.setCell ⟨r, n1 * 2, none⟩ (.int .i64 ep)).setCell ⟨r, n1 * 2 + 1, none⟩ (.slice eA en ec)) B 115 (.slice (some ⟨r, 0, none⟩) m c) m (cells2 (M.set n1 e))) := Lib.hid (by
      rw [HCS.out]; exact (HO2.out.set_ (n1 * 2) _).set_ (n1 * 2 + 1) _)
     have HW3 : Hid (Below B w ((w2.setCell ⟨r, n1 * 2, none⟩ (.int .i64 ep)).setCell ⟨r, n1 * 2 + 1, none⟩ (.slice eA en ec))) := Lib.hid ((HW2.out.setCell (p := ⟨r, n1 * 2, none⟩) hrB _).setCell (p := ⟨r, n1 * 2 + 1, none⟩) hrB _)
     have HN2 : Hid (n1 + 1 = (kept (l.take (t + 1)) ps).length) := Lib.hid (by rw [HX.out, List.length_append, ← HN.out]; rfl)
     have HT2 : Hid ((M.set n1 e).take (n1 + 1) = kept (l.take (t + 1)) ps) := Lib.hid (by rw [HMS.out.1, HT.out, HX.out])
     have HD3 : Hid ((M.set n1 e).drop (t + 1) = l.drop (t + 1)) := Lib.hid (HMS.out.2.1.trans HD2.out)
     have HML2 : Hid ((M.set n1 e).length = m) := Lib.hid HMS.out.2.2
     clear hb hc0 hc1 hbl hc2l
     go_wp2
     go_roundw
     case rel => exact ⟨t + 1, n1 + 1, M.set n1 e, by omega, by omega, by go_num, by go_num, HN2, HML2, HT2, HD3, HO3, HW3⟩
     case measure => simp [intOf]; omega
   ·obtain rfl : t = m := by omega
    have hn := HN.out
    rw [List.take_of_length_le (by rw [HM.out]; exact Nat.le_refl _)] at hn
    have htk := HT.out
    rw [List.take_of_length_le (l := l) (by rw [HM.out]; exact Nat.le_refl _)] at htk
    obtain ⟨w2, hcl, hO2, hB2⟩ := clear_own HO1.out hnt (c - n1)
    have HX : Hid (OwnK 2 w2 B 115 (.slice (some ⟨r, 0, none⟩) n1 c) (kept l ps).length (cells2 (kept l ps))) := Lib.hid (by rw [← hn, ← htk, cells2_take]; exact hO2)
    have HB2 := Lib.hid (HW.out.trans hB2)
    have h1 : (n1 : Int) ≤ (t : Int) := by omega
    have h2 : (t : Int) ≤ (c : Int) := by omega
    have h3 : n1 < c := by omega
    clear hO2 hB2 HN HT HD hn htk HO1 HW
    go_wp2
    go_ret
    exact ⟨_, rfl, HX.out, HB2.out⟩
end
theorem row_lt {w : World} {P : Option Addr} {xs : List Value} (h : Row w P xs) : ∀ a, P = some a → xs ≠ [] → a.block < w.heap.size := by
 intro a ha hne
 cases xs with
 | nil => exact absurd rfl hne
 | cons x xs =>
  obtain ⟨b, off, e, hc⟩ := h 0 x rfl
  rw [ha] at e
  cases e
  exact cell_lt hc
set_option maxRecDepth 100000 in
set_option maxHeartbeats 1000000 in
theorem without_calls (A : Option Addr) (l : List El) (m c : Nat) (P : Option Addr) (ps : List Int) (k d : Nat) (w : World) (hl : l.length = m) (hm : m ≤ 1000) (hr : Row w A (cells2 l)) (hk : ps.length = k) (hk2 : k ≤ 1000) (hp : Row w P (zs ps)) :
  Calls Tryz.prog 93 #[.slice A m c, .slice P k d] w fun e w' => ∃ v, e = .returned v ∧ OwnK 2 w' w.heap.size 115 v (kept l ps).length (cells2 (kept l ps)) ∧ Below w.heap.size w w' := by
 have hal : Below w.heap.size w (w.alloc (.cells #[.slice P k d] 44)) := (Below.refl _ _).alloc (Nat.le_refl _) _
 have HC := Lib.hid (clone_stored A l m c _ hl hm (hr.below hal))
 have HD : Hid (∀ v V, OwnK 2 V (w.heap.size + 1) 115 v m (cells2 l) → Below (w.heap.size + 1) (w.alloc (.cells #[.slice P k d] 44)) V → Calls Tryz.prog 136 #[v, .func (.func 138) #[] #[.pointer (some ⟨w.heap.size, 0, none⟩)]] V fun e w' => ∃ v', e = .returned v' ∧ OwnK 2 w' (w.heap.size + 1) 115 v' (kept l ps).length (cells2 (kept l ps)) ∧ Below (w.heap.size + 1) V w') := Lib.hid (fun v V hO hV =>
  delete_calls l m w.heap.size P ps k d (w.heap.size + 1) V hl hm ((Block.new w _ _).below hV (by omega)) (by omega) hk hk2 (row_low (hp.below hal) (fun a ha hne => by have := row_lt hp a ha hne; omega) hV) (fun a ha hne => by have := row_lt hp a ha hne; omega) (by have := hV.size; simp at this; omega) v hO)
 have HAl := Lib.hid hal
 clear hr hl hk hp hal
 go_enter Tryz.func93, Tryz.ntmps93
 go_wp2_with fail
 refine HC.out.mono ?_
 rintro e w1 ⟨v, rfl, hO, hb⟩
 rw [World.size_alloc] at hO hb
 have HD2 := Lib.hid (HD.out v w1 hO hb)
 have HB1 := Lib.hid hb
 clear hO hb HC HD
 go_wp2_with fail
 refine HD2.out.mono ?_
 rintro e w2 ⟨v', rfl, hO, hb⟩
 have HO := Lib.hid (hO.more (Nat.le_succ w.heap.size))
 have HB2 := Lib.hid (HAl.out.trans ((HB1.out.trans hb).mono (by omega)))
 clear hO hb
 go_wp2
 go_ret
 exact ⟨_, rfl, HO.out, HB2.out⟩
end Go.Proofs.YtjoghbmedfmioaaGreat.Ms

namespace Go.Proofs.YtjoghbmedfmioaaGreat.Rd
open Go.RowKit Go.Shelf F8 Poly GF
attribute [local go_sem] Oper.semAt_some
section
variable {w0 w w' : World} {a b g B : Nat} {A : Option Addr} {xs : List F8} {n c k : Nat} {ls : List (Option Addr × List F8)}
theorem Cd.turn (h : Cd w b g A xs n c k) (hp : Past B a w w') (hB : w.heap.size ≤ B) (hb : b ≠ a) (hg : g ≠ a) (hA : ∀ x, A = some x → x.block ≠ a) : Cd w' b g A xs n c k :=
 { h with
  blk := h.blk.past hp (by have := h.blk.lt; omega) hb
  by_ := bytes_far h.by_ (fun _ => hA) (hp.mono hB)
  fld := FldP.of (h.fld.fld.imp (fun x => x.past hp (by have := x.lt; omega) hg) (fun x => x.past hp (by have := x.lt; omega) hg)) }
theorem Cd.alt (h : Cd w b g A xs n c k) : ∀ x, A = some x → x.block < w.heap.size := fun a ha => by
 have h0 : 0 < xs.length := by have := h.k1; have := h.kn; have := h.len; omega
 obtain ⟨b', off, e, hc⟩ := cellF h.by_ 0 h0
 rw [ha] at e; cases e
 exact cell_lt hc
theorem own_past {e : TypeId} {v : Value} {xs : List Value} (h : Own w B e v xs) (hg : g < B) (hp : Past w.heap.size g w w') : Own w' B e v xs :=
 h.grown (row := some g) ⟨hp.os, hp.tape, hp.output, hp.size, fun k hk hn => hp.block k hk (fun e => hn (by rw [e]))⟩ (.inr (fun e => by have := (h.lt g e).1; omega))
end
end Go.Proofs.YtjoghbmedfmioaaGreat.Rd

namespace Go.Proofs.YtjoghbmedfmioaaGreat.Rd
open Go.RowKit Go.Shelf F8 Poly GF
attribute [local go_sem] Oper.semAt_some
theorem own_row {w : World} {B n c : Nat} {e : TypeId} {A : Option Addr} {xs : List Value} (h : Own w B e (.slice A n c) xs) : Row w A xs := by
 obtain ⟨A', c', e1, hr, _⟩ := h.form
 injection e1 with e2 _ _
 subst e2
 exact hr
theorem own_apart {w : World} {B B' : Nat} {e e' : TypeId} {v v' : Value} {xs ys : List Value} (h : Own w B e v xs) (h' : Own w B' e' v' ys) (hne : e ≠ e') : v.ownBlock = none ∨ v.ownBlock ≠ v'.ownBlock := by
 rcases h.2 with ⟨rfl, _⟩ | ⟨b, cap, cur, rfl, _, hh, _⟩
 ·exact .inl rfl
 ·right
  rcases h'.2 with ⟨rfl, _⟩ | ⟨b', cap', cur', rfl, _, hh', _⟩
  ·simp [Value.ownBlock]
  ·intro e1
   obtain rfl : b = b' := by simpa [Value.ownBlock] using e1
   rw [hh] at hh'
   simp only [Option.some.injEq, Obj.cells.injEq] at hh'
   exact hne hh'.2.1
theorem own_other {w w' : World} {B B' : Nat} {e e' : TypeId} {v v' : Value} {xs ys : List Value} (h : Own w B e v xs) (h' : Own w B' e' v' ys) (hne : e ≠ e') (hg : w.grownBy w' v'.ownBlock) : Own w' B e v xs :=
 h.grown hg (own_apart h h' hne)
theorem cellI {w : World} {b off : Nat} {l : List Int} (h : Row w (some ⟨b, off, none⟩) (zs l)) {k : Nat} (hk : k < l.length) : w.cell? ⟨b, off + k, none⟩ = some (.int .i64 l[k]) := by
 obtain ⟨b', off', e, hc⟩ := zs_at h hk
 cases e
 exact hc
end Go.Proofs.YtjoghbmedfmioaaGreat.Rd

namespace Go.Proofs.YtjoghbmedfmioaaGreat.Wl
open Go.RowKit Go.Shelf F8 Poly GF Rd
def WRes (g : Nat) (w : World) (m : List F8) (wl : List Int) (z : Int) (e : Ending) (w' : World) : Prop :=
 ∃ A c B d, e = .returned (.tuple #[.slice A m.length c, .slice B wl.length d, .int .i64 z]) ∧ m.length ≤ c ∧ wl.length ≤ d ∧ Own w' w.heap.size 5 (.slice A m.length c) (bv (bs m)) ∧ Own w' w.heap.size 3 (.slice B wl.length d) (zs wl) ∧ FldP w' (some ⟨g, 0, none⟩) ∧ Past w.heap.size g w w'
structure Spec : Prop where
 decodeP : ∀ {w : World} {b g : Nat} {A : Option Addr} {xs : List F8} {n c k : Nat} (_ : Cd w b g A xs n c k) (P : Option Addr) (pl : List Int) (m d : Nat) (_ : pl.length = m) (_ : Row w P (zs pl)) (_ : m ≤ 1000) (B : Option Addr) (ys : List F8) (o e : Nat) (_ : ys.length = o) (_ : Bytes w B (bs ys)) (_ : o ≤ e) (_ : o ≤ 1000) (_ : Far (some ⟨g, 0, none⟩) B ys) (t : Int) (_ : -9223372036854775808 ≤ t) (_ : t < 9223372036854775808),
  Calls Tryz.prog 51 #[.pointer (some ⟨b, 0, none⟩), .slice P m d, .slice B o e, .int .i64 t] w fun e w' => ∃ msg wl z, WIs xs k pl ys t msg wl z ∧ WRes g w msg wl z e w'
 decode0 : ∀ (P : Option Addr) (m d : Nat) (B : Option Addr) (o e : Nat) (t : Int) (w : World),
  Calls Tryz.prog 51 #[.pointer none, .slice P m d, .slice B o e, .int .i64 t] w fun e w' => e = .returned (.tuple #[.slice none 0 0, .slice none 0 0, .int .i64 1]) ∧ Below w.heap.size w w'
end Go.Proofs.YtjoghbmedfmioaaGreat.Wl

namespace Go.Proofs.YtjoghbmedfmioaaGreat.Ms
open Go.RowKit Go.Shelf F8 Poly GF Rd
attribute [local go_sem] Oper.semAt_some
structure Kp (S : Co) (w w' : World) : Prop where
 ok : S.Ok w'
 past : Past w.heap.size S.g w w'
section
variable {S : Co} {w w1 w2 : World}
theorem Kp.start (h : S.Ok w) : Kp S w w := ⟨h, Past.refl _ _ _⟩
theorem Kp.fldp (h : Kp S w w1) : FldP w1 (some ⟨S.g, 0, none⟩) := h.ok.fld
theorem Kp.fld (h : Kp S w w1) : Fld w1 S.g := h.ok.fld.fld
theorem Kp.size (h : Kp S w w1) : w.heap.size ≤ w1.heap.size := h.past.size
theorem Kp.go (h : Kp S w w1) (hf : FldP w2 (some ⟨S.g, 0, none⟩)) (hp : Past w1.heap.size S.g w1 w2) : Kp S w w2 := ⟨h.ok.past hf hp, h.past.trans (hp.mono h.size)⟩
theorem Kp.below (h : Kp S w w1) (hb : Below w1.heap.size w1 w2) : Kp S w w2 := h.go (h.fldp.below hb) (Past.of_below hb _)
theorem Kp.alloc (h : Kp S w w1) (o : Obj) : Kp S w (w1.alloc o) := h.below ((Below.refl _ _).alloc (Nat.le_refl _) o)
theorem Kp.drew (h : Kp S w w1) : Kp S w w1.drew := h.below ((Below.refl _ _).drew)
end
theorem Kp.later {S : Co} {w w1 w2 : World} (hw : S.Ok w) (h : Kp S w w1) (hb : Below w.heap.size w1 w2) : Kp S w w2 :=
 have hp : Past w.heap.size S.g w w2 := h.past.trans (Past.of_below hb _)
 have hf : FldP w2 (some ⟨S.g, 0, none⟩) := FldP.of (h.fld.imp (fun x => x.below hb hw.fld.fld.lt) (fun x => x.below hb hw.fld.fld.lt))
 ⟨hw.past hf hp, hp⟩
structure Dec (S : Co) (q : Nat) (P : Option Addr) (pl : List Int) (m d : Nat) (t : Int) (w : World) : Prop where
 b0 : Block w q 57 #[.pointer (some ⟨S.b, 0, none⟩)]
 b1 : Block w (q + 1) 3 #[.int .i64 t]
 b2 : Block w (q + 1 + 1) 44 #[.slice P m d]
 row : Row w P (zs pl)
 len : pl.length = m
 md : m ≤ d
theorem Dec.past {S : Co} {q : Nat} {P : Option Addr} {pl : List Int} {m d : Nat} {t : Int} {w w' : World} (h : Dec S q P pl m d t w) (hf : Fld w S.g) (hp : Past w.heap.size S.g w w') : Dec S q P pl m d t w' := by
 have key : ∀ {b : Nat} {ty : TypeId} {cs : Array Value}, Block w b ty cs → ty ≠ 81 → Block w' b ty cs := fun {b ty cs} hb hne => hb.past hp hb.lt (by
  rintro rfl
  rcases hf with hf | hf <;> (unfold Block at hb hf; rw [hb] at hf; injection hf with e1; injection e1 with _ e2 _; exact hne e2))
 exact ⟨key h.b0 (by decide), key h.b1 (by decide), key h.b2 (by decide), row_keep h.row hf (zs_kind pl) hp, h.len, h.md⟩
set_option maxRecDepth 100000 in
set_option maxHeartbeats 2000000 in
theorem decoder1_calls (T : Wl.Spec) {S : Co} {q : Nat} {P : Option Addr} {pl : List Int} {m d : Nat} {t : Int} {w : World} (h : S.Ok w) (hD : Dec S q P pl m d t w) (hm : m ≤ 1000) (ht : -9223372036854775808 ≤ t) (ht2 : t < 9223372036854775808) (Y : Option Addr) (ys : List F8) (o e : Nat) (ho : ys.length = o) (hY : BF S.g w Y ys) (he : o ≤ e) (ho2 : o ≤ 1000) :
  Calls Tryz.prog 139 #[.slice Y o e, .pointer (some ⟨q, 0, none⟩), .pointer (some ⟨q + 1 + 1, 0, none⟩), .pointer (some ⟨q + 1, 0, none⟩)] w fun e' w' => ∃ msg wl z, Wl.WIs S.xs S.a pl ys t msg wl z ∧ Wl.WRes S.g w msg wl z e' w' := by
 obtain ⟨-, -, -, -, -, -, -, -, -, -, -, c11, -⟩ := h.cells
 have d0 := hD.b0.cell 0
 have d1 := hD.b1.cell 0
 have d2 := hD.b2.cell 0
 have HT := Lib.hid (T.decodeP (w := w.drew) (h.drew.cdp) P pl m d hD.len hD.row hm Y ys o e ho hY.by_.drew he ho2 hY.far t ht ht2)
 have HK : Hid (∀ V, Past w.heap.size S.g w V → FldP V (some ⟨S.g, 0, none⟩) → V.cell? ⟨S.b, 11, none⟩ = some (.pointer (some ⟨S.bp, 0, none⟩)) ∧ V.cell? ⟨q, 0, none⟩ = some (.pointer (some ⟨S.b, 0, none⟩)) ∧ V.cell? ⟨q + 1, 0, none⟩ = some (.int .i64 t) ∧ V.cell? ⟨q + 1 + 1, 0, none⟩ = some (.slice P m d)) := Lib.hid (fun V hp hf => by
  obtain ⟨-, -, -, -, -, -, -, -, -, -, -, x11, -⟩ := (h.past hf hp).cells
  have hD2 := hD.past h.fld.fld hp
  exact ⟨x11, hD2.b0.cell 0, hD2.b1.cell 0, hD2.b2.cell 0⟩)
 have HS : Hid (w.drew.cell? ⟨S.b, 11, none⟩ = some (.pointer (some ⟨S.bp, 0, none⟩)) ∧ w.drew.cell? ⟨q, 0, none⟩ = some (.pointer (some ⟨S.b, 0, none⟩)) ∧ w.drew.cell? ⟨q + 1, 0, none⟩ = some (.int .i64 t) ∧ w.drew.cell? ⟨q + 1 + 1, 0, none⟩ = some (.slice P m d)) := Lib.hid ⟨c11, d0, d1, d2⟩
 clear h hD hY
 go_enter Tryz.func139, Tryz.ntmps139
 go_wp2_with fail
 go_region_held (fun V => V.cell? ⟨S.b, 11, none⟩ = some (.pointer (some ⟨S.bp, 0, none⟩)) ∧ V.cell? ⟨q, 0, none⟩ = some (.pointer (some ⟨S.b, 0, none⟩)) ∧ V.cell? ⟨q + 1, 0, none⟩ = some (.int .i64 t) ∧ V.cell? ⟨q + 1 + 1, 0, none⟩ = some (.slice P m d)) (exact HS.out)
  ((go_at_call 51; refine HT.out.mono ?_; rintro e1 w1 ⟨msg, wl, z, hw, A1, c1, B1, d9, rfl, hc1, hd1, hO1, hO2, hF1, hP1⟩; have hP9 : Past w.heap.size S.g w w1 := ⟨hP1.os, hP1.tape, hP1.output, hP1.size, hP1.block⟩; replace HS := Lib.hid (HK.out w1 hP9 hF1); have HX : Hid (∃ msg' wl' z', Wl.WIs S.xs S.a pl ys t msg' wl' z' ∧ Wl.WRes S.g w msg' wl' z' (.returned (.tuple #[.slice A1 msg.length c1, .slice B1 wl.length d9, .int .i64 z])) w1) := Lib.hid ⟨msg, wl, z, hw, A1, c1, B1, d9, rfl, hc1, hd1, hO1, hO2, hF1, hP9⟩; clear hw hc1 hd1 hO1 hO2 hF1 hP1 hP9))
 all_goals
  go_wp2
  go_ret3
  exact HX.out
def plE (l : List El) : List Int := l.map El.p
theorem Is.plE {l : List El} {L : List (Nat × List F8)} (h : Is l L) : plE l = plI L := by
 have := congrArg (List.map Prod.fst) h
 unfold Ms.plE plI
 rw [List.map_map, List.map_map] at this
 exact this
theorem own_put {w : World} {B k : Nat} {e : TypeId} {v : Value} {xs : List Value} (h : Own w B e v xs) (hk : k < B) (u : Value) : Own (w.setCell ⟨k, 0, none⟩ u) B e v xs :=
 Own.far h (p := ⟨k, 0, none⟩) (fun e => by have := h.lt _ e; simp at this; omega) u
theorem own_slice {w : World} {B : Nat} {e : TypeId} {v : Value} {xs : List Value} (h : Own w B e v xs) : ∃ P n d, v = .slice P n d := by
 obtain ⟨A, c, rfl, _⟩ := h.form
 exact ⟨A, _, c, rfl⟩
set_option maxRecDepth 100000 in
set_option maxHeartbeats 2000000 in
theorem decoder_calls {S : Co} {w : World} (A : Option Addr) (l : List El) (m c : Nat) (t : Int) (hl : l.length = m) (hm : m ≤ 1000) (hr : Row w A (cells2 l)) :
  Calls Tryz.prog 95 #[.pointer (some ⟨S.b, 0, none⟩), .slice A m c, .int .i64 t] w fun e w' => ∃ P d, e = .returned (.func (.func 139) #[] #[.pointer (some ⟨w.heap.size, 0, none⟩), .pointer (some ⟨w.heap.size + 1 + 1, 0, none⟩), .pointer (some ⟨w.heap.size + 1, 0, none⟩)]) ∧ Dec S w.heap.size P (plE l) m d t w' ∧ Below w.heap.size w w' := by
 have HR := Lib.hid hr
 have HM := Lib.hid hl
 obtain ⟨q, hq⟩ : ∃ q, w.heap.size = q := ⟨_, rfl⟩
 have hb0 : Block (((w.alloc (.cells #[.pointer (some ⟨S.b, 0, none⟩)] 57)).alloc (.cells #[.int .i64 t] 3)).alloc (.cells #[.slice none 0 0] 44)) q 57 #[.pointer (some ⟨S.b, 0, none⟩)] := by
  rw [← hq]; exact ((Block.new w _ _).alloc _).alloc _
 have hb1 : Block (((w.alloc (.cells #[.pointer (some ⟨S.b, 0, none⟩)] 57)).alloc (.cells #[.int .i64 t] 3)).alloc (.cells #[.slice none 0 0] 44)) (q + 1) 3 #[.int .i64 t] := by
  have := (Block.new (w.alloc (.cells #[.pointer (some ⟨S.b, 0, none⟩)] 57)) 3 #[.int .i64 t]).alloc (.cells #[.slice none 0 0] 44)
  rw [World.size_alloc, hq] at this; exact this
 have hb2 : Block (((w.alloc (.cells #[.pointer (some ⟨S.b, 0, none⟩)] 57)).alloc (.cells #[.int .i64 t] 3)).alloc (.cells #[.slice none 0 0] 44)) (q + 1 + 1) 44 #[.slice none 0 0] := by
  have := Block.new ((w.alloc (.cells #[.pointer (some ⟨S.b, 0, none⟩)] 57)).alloc (.cells #[.int .i64 t] 3)) 44 #[.slice none 0 0]
  rw [World.size_alloc, World.size_alloc, hq] at this; exact this
 have hbw : Below q w (((w.alloc (.cells #[.pointer (some ⟨S.b, 0, none⟩)] 57)).alloc (.cells #[.int .i64 t] 3)).alloc (.cells #[.slice none 0 0] 44)) := by
  rw [← hq]; exact (((Below.refl _ w).alloc (Nat.le_refl _) _).alloc (by simp) _).alloc (by simp; omega) _
 have HB0 := Lib.hid hb0
 have HB1 := Lib.hid hb1
 have HB2 := Lib.hid hb2
 have HBW := Lib.hid hbw
 have HQ := Lib.hid hq
 clear hr hl hb0 hb1 hb2 hbw hq
 go_enter Tryz.func95, Tryz.ntmps95
 go_wp2
 rw [HQ.out]
 go_loopw [12] (fun i wr => ∃ (j : Nat) (v : Value), j ≤ m ∧ i = .int .i64 j ∧ Hid (Block wr q 57 #[.pointer (some ⟨S.b, 0, none⟩)]) ∧ Hid (Block wr (q + 1) 3 #[.int .i64 t]) ∧ Hid (Block wr (q + 1 + 1) 44 #[v]) ∧ Hid (Own wr (q + 1 + 1 + 1) 3 v (zs (plE (l.take j)))) ∧ Hid (Below q w wr)) (fun i _ => m - (intOf i).toNat)
 case atStart => exact ⟨0, _, by omega, rfl, HB0, HB1, HB2, Lib.hid (Own.nil _ _ _), HBW⟩
 case round =>
  clear HB0 HB1 HB2 HBW
  obtain ⟨j, v, hj, rfl, HB0, HB1, HB2, HO, HW⟩ := hrel
  by_cases hjm : j < m
  ·have hti : j < l.length := by rw [HM.out]; exact hjm
   have hrow := HR.out
   obtain ⟨b, off, rfl, hc0, hc1⟩ := row2_at (row_low hrow (fun a ha hne => by rw [← HQ.out]; exact row_lt hrow a ha hne) HW.out) hti
   have HE : Hid (zs (plE (l.take (j + 1))) = zs (plE (l.take j)) ++ zs [(l[j]).p]) := Lib.hid (by rw [take_succ' l hti, plE, List.map_append, ← zs_append]; rfl)
   have HN : Hid ((zs (plE (l.take j))).length ≤ j) := Lib.hid (by rw [zs_length, plE, List.length_map, List.length_take]; omega)
   obtain ⟨e, he⟩ : ∃ e, l[j] = e := ⟨_, rfl⟩
   rw [he] at hc0 hc1 HE
   obtain ⟨ep, h5⟩ : ∃ a, e.p = a := ⟨_, rfl⟩
   obtain ⟨eA, h6⟩ : ∃ a, e.A = a := ⟨_, rfl⟩
   obtain ⟨en, h7⟩ : ∃ a, e.s.length = a := ⟨_, rfl⟩
   obtain ⟨ec, h8⟩ : ∃ a, e.c = a := ⟨_, rfl⟩
   rw [h5] at hc0 HE
   rw [h6, h7, h8] at hc1
   have hq3 : q + 1 + 1 + 1 ≤ wr.heap.size := by have := HB2.out.lt; omega
   have hv0 := (HB2.out.alloc (.cells #[.int .i64 ep, .slice eA en ec] 115)).cell 0
   have hrw : Row ((wr.alloc (.cells #[.int .i64 ep, .slice eA en ec] 115)).alloc (.cells #[.int .i64 ep] 3)) (some ⟨wr.heap.size + 1, 0, none⟩) (zs [ep]) := by
    have := Row.new (wr.alloc (.cells #[.int .i64 ep, .slice eA en ec] 115)) #[.int .i64 ep] 3 (0, 0)
    rw [World.size_alloc] at this; exact this
   have HRow := Lib.hid hrw
   clear hrow he h5 h6 h7 h8 hrw
   have HST : Hid (∀ w3 : World, ((wr.alloc (.cells #[.int .i64 ep, .slice eA en ec] 115)).alloc (.cells #[.int .i64 ep] 3)).grownBy w3 v.ownBlock → Below (q + 1 + 1 + 1) wr w3) := Lib.hid (fun w3 hg3 =>
    (((Below.refl (q + 1 + 1 + 1) wr).alloc hq3 _).alloc (by simp; omega) _).trans (((HO.out.alloc _).alloc _).grew (by simp; omega) hg3))
   go_wp2_with (at_builtin; refine wpList_app _ rfl _ _ _ rfl (q + 1 + 1 + 1) 3 _ 8 Tryz.underlying44 info_i rfl (by omega) v _ rfl ((HO.out.alloc _).alloc _) (some ⟨wr.heap.size + 1, 0, none⟩) 1 1 (zs [ep]) rfl rfl HRow.out (zs_one _) (by have := HN.out; omega) (by simp; omega) ?_; rintro v2 w3 hown hg3 -; obtain ⟨P2, n2, d2, rfl⟩ := own_slice hown; have hg9 := HST.out w3 hg3; have HG := Lib.hid hg9; have HOw := Lib.hid hown; have kc := (HB2.out.below hg9 (by omega)).cell 0; have kf := (HB2.out.below hg9 (by omega)).frozen 0; clear hown hg3 hg9)
   have HK0 := Lib.hid (HB0.out.below HG.out (by omega))
   have HK1 := Lib.hid (HB1.out.below HG.out (by omega))
   have HK2 := Lib.hid (HB2.out.below HG.out (by omega))
   have HB0' : Hid (Block (w3.setCell ⟨q + 1 + 1, 0, none⟩ (.slice P2 n2 d2)) q 57 #[.pointer (some ⟨S.b, 0, none⟩)]) := Lib.hid (HK0.out.far (p := ⟨q + 1 + 1, 0, none⟩) (by show q ≠ q + 1 + 1; omega) _)
   have HB1' : Hid (Block (w3.setCell ⟨q + 1 + 1, 0, none⟩ (.slice P2 n2 d2)) (q + 1) 3 #[.int .i64 t]) := Lib.hid (HK1.out.far (p := ⟨q + 1 + 1, 0, none⟩) (by show q + 1 ≠ q + 1 + 1; omega) _)
   have HB2' : Hid (Block (w3.setCell ⟨q + 1 + 1, 0, none⟩ (.slice P2 n2 d2)) (q + 1 + 1) 44 #[.slice P2 n2 d2]) := Lib.hid (HK2.out.set_ 0 (.slice P2 n2 d2))
   have HO' : Hid (Own (w3.setCell ⟨q + 1 + 1, 0, none⟩ (.slice P2 n2 d2)) (q + 1 + 1 + 1) 3 (.slice P2 n2 d2) (zs (plE (l.take (j + 1))))) := Lib.hid (by rw [HE.out]; exact own_put HOw.out (by omega) (.slice P2 n2 d2))
   have HW' : Hid (Below q w (w3.setCell ⟨q + 1 + 1, 0, none⟩ (.slice P2 n2 d2))) := Lib.hid ((HW.out.trans (HG.out.mono (by omega))).setCell (p := ⟨q + 1 + 1, 0, none⟩) (by show q ≤ q + 1 + 1; omega) (.slice P2 n2 d2))
   clear hc0 hc1 hv0 kc kf
   go_roundw
   case rel => exact ⟨j + 1, _, by omega, by go_num, HB0', HB1', HB2', HO', HW'⟩
   case measure => simp [intOf]; omega
  ·obtain rfl : j = m := by omega
   have hown := HO.out
   rw [List.take_of_length_le (by rw [HM.out]; exact Nat.le_refl _)] at hown
   obtain ⟨P, d, rfl, hrow, -⟩ := hown.form
   have hpl : (zs (plE l)).length = j := by rw [zs_length, plE, List.length_map, HM.out]
   have hcap : j ≤ d := own_cap2 (n := j) (by rw [hpl] at hown; exact hown) hpl
   have hX : Dec S q P (plE l) j d t wr := ⟨HB0.out, HB1.out, by have := HB2.out; rw [hpl] at this; exact this, hrow, by rw [← zs_length]; exact hpl, hcap⟩
   have HX := Lib.hid hX
   clear hown hrow hpl hcap hX HO HB0 HB1 HB2
   go_wp2
   go_ret
   exact ⟨P, d, by rw [HQ.out]; rfl, by rw [HQ.out]; exact HX.out, by rw [HQ.out]; exact HW.out⟩
end Go.Proofs.YtjoghbmedfmioaaGreat.Ms

namespace Go.Proofs.YtjoghbmedfmioaaGreat.Ms
open Go.RowKit Go.Shelf F8 Poly GF Rd
attribute [local go_sem] Oper.semAt_some
def fill (vs : List F8) (j : Nat) : List F8 := vs.take j ++ List.replicate (vs.length - j) 0
theorem fill_length {vs : List F8} {j : Nat} (h : j ≤ vs.length) : (fill vs j).length = vs.length := by simp [fill]; omega
theorem fill_zero (vs : List F8) : fill vs 0 = List.replicate vs.length 0 := by simp [fill]
theorem fill_all (vs : List F8) : fill vs vs.length = vs := by simp [fill]
theorem fill_set {vs : List F8} {j : Nat} (h : j < vs.length) : (fill vs j).set j (coef vs j) = fill vs (j + 1) := by
 unfold fill
 obtain ⟨q, hq⟩ : ∃ q, vs.length - j = q + 1 := ⟨vs.length - j - 1, by omega⟩
 have h2 : vs.length - (j + 1) = q := by omega
 rw [hq, h2, List.set_append_right _ _ (by rw [List.length_take]; omega), List.length_take, Nat.min_eq_left (by omega), Nat.sub_self, List.replicate_succ, List.set_cons_zero, take_succ' vs h, coef_of_lt h, List.append_assoc]
 rfl
theorem add_f (x y : F8) (w : World) : Calls Tryz.prog 19 #[.int .u8 x.n, .int .u8 y.n] w fun e w' => e = .returned (.int .u8 (x + y).n) ∧ w = w' := GF.add_calls x.n y.n x.h y.h w
theorem Co.Ok.pt {S : Co} {V : World} (h : S.Ok V) {bX oX : Nat} (hX : S.X = some ⟨bX, oX, none⟩) {p : Nat} (hp : p < S.nx) : V.cell? ⟨S.b, 6, none⟩ = some (.slice (some ⟨bX, oX, none⟩) S.nx S.cX) ∧ V.cell? ⟨bX, oX + p, none⟩ = some (.int .u8 ((coef S.xs p).n : Int)) := by
 obtain ⟨-, -, -, -, -, -, c6, -⟩ := h.cells
 have hb := h.bx.by_
 rw [hX] at c6 hb
 exact ⟨c6, cellAt hb p (by rw [h.len]; exact hp)⟩
theorem Co.Ok.c0 {S : Co} {V : World} (h : S.Ok V) : V.cell? ⟨S.b, 0, none⟩ = some (.pointer (some ⟨S.g, 0, none⟩)) := h.cells.1
theorem Wres_back {S : Co} {w w1 w2 : World} {m : List F8} {wl : List Int} {z : Int} {e : Ending} (hk : Kp S w w1) (h : Wl.WRes S.g w1 m wl z e w2) : Wl.WRes S.g w m wl z e w2 := by
 obtain ⟨A, c, B, d, h1, h2, h3, h4, h5, h6, h7⟩ := h
 exact ⟨A, c, B, d, h1, h2, h3, h4.more hk.size, h5.more hk.size, h6, hk.past.trans (h7.mono hk.size)⟩
set_option maxRecDepth 100000 in
set_option maxHeartbeats 8000000 in
theorem row_calls (PS : Poly.Spec) (T : Wl.Spec) {S : Co} {w : World} (h : S.Ok w) (p : Nat) (oA : Option Addr) (os : List F8) (on oc : Nat) (hon : os.length = on) (hon2 : on = S.a) (hoc : on ≤ oc) (hoB : BF S.g w oA os) (hp : p < S.nx) (A : Option Addr) (l : List El) (m c : Nat) (t : Int) (ht : -9223372036854775808 ≤ t) (ht2 : t < 9223372036854775808) (hl : l.length = m) (hm : m ≤ 300) (hE : Els S.g w A l) (L : List (Nat × List F8)) (hI : Is l L) (hL : OkL S.xs S.a L) (hne : ∀ u ∈ L, u.1 ≠ p) :
  Calls Tryz.prog 92 #[.pointer (some ⟨S.b, 0, none⟩), .agg #[.int .i64 (p : Nat), .slice oA on oc], .slice A m c, .int .i64 t] w fun e w' => ∃ msg wl z, Wl.WIs S.xs S.a (plI L) (vals S.a S.xs (p, os) L) t msg wl z ∧ Wl.WRes S.g w msg wl z e w' := by
 have hmx : Tryz.prog.follows .mixedOrders = true := by kernel_rfl
 have hn := h.nums
 obtain ⟨bX, oX, hX⟩ := where_ h.bx.by_ (by rw [h.len]; omega)
 obtain ⟨vs, hvs⟩ : ∃ vs, vals S.a S.xs (p, os) L = vs := ⟨_, rfl⟩
 have hLm : L.length = m := by rw [← hI.length, hl]
 have hvl : vs.length = m := by rw [← hvs, vals_length, hLm]
 have HVS : Hid (∀ j (hj : j < L.length), coef vs j = Poly.eval os (coef S.xs (L[j]).1) + xpow (coef S.xs p) S.a * ((Poly.eval os (coef S.xs (L[j]).1) + Poly.eval (L[j]).2 (coef S.xs p)) / (xpow (coef S.xs p) S.a + xpow (coef S.xs (L[j]).1) S.a))) := Lib.hid (fun j hj => by
  rw [← hvs, coef_of_lt (by rw [vals_length]; exact hj)]
  simp only [vals, List.getElem_map]
  rfl)
 obtain ⟨la, hla⟩ : ∃ la, xpow (coef S.xs p) S.a = la := ⟨_, rfl⟩
 rw [hla] at HVS
 have HNZ : Hid (∀ j (hj : j < L.length), la + xpow (coef S.xs (L[j]).1) S.a ≠ 0) := Lib.hid (fun j hj => by
  rw [← hla]
  exact sum_ne (h.par.P.lam _ _ (by rw [h.len]; exact hp) (hL.lt _ (List.getElem_mem hj)) (Ne.symm (hne _ (List.getElem_mem hj)))))
 have HLt : Hid (∀ j (hj : j < L.length), (L[j]).1 < S.nx) := Lib.hid (fun j hj => by rw [← h.len]; exact hL.lt _ (List.getElem_mem hj))
 have HUn : Hid (∀ j (hj : j < L.length), (L[j]).2.length = S.a) := Lib.hid (fun j hj => hL.len _ (List.getElem_mem hj))
 have HVL := Lib.hid hvl
 have hw1 : Kp S w (w.alloc (.cells #[.int .i64 (p : Int), .slice oA on oc] 115)) := (Kp.start h).alloc _
 have HLa := Lib.hid (lambda_calls hw1.ok p hp)
 have HW1 := Lib.hid hw1
 have HB1 := Lib.hid (Block.new w 115 #[.int .i64 (p : Int), .slice oA on oc])
 have HX := Lib.hid hX
 have H := Lib.hid h
 have HOB := Lib.hid hoB
 have HON := Lib.hid hon
 have HON2 := Lib.hid hon2
 have HE := Lib.hid hE
 have HI := Lib.hid hI
 have HLm := Lib.hid hLm
 have HM := Lib.hid hl
 have HVs := Lib.hid hvs
 have HLac := Lib.hid hla
 have hg5 : S.g ≠ w.heap.size := by have := h.fld.fld.lt; omega
 have hn1 : on ≤ 16 := by omega
 have ha16 : S.a ≤ 16 := hn.2.1
 have c00 := HB1.out.cell 0
 clear h hoB hon hon2 hE hI hL hne hl hvl hLm hw1 hX hvs hn
 go_enter Tryz.func92, Tryz.ntmps92
 go_wp2_with fail
 refine HLa.out.mono ?_
 rintro e w2 ⟨rfl, hf2, hp2⟩
 rw [HLac.out]
 have hk2 := HW1.out.go hf2 hp2
 have hs1 : w.heap.size < w2.heap.size := by have := hp2.size; simp at this; omega
 have hb2 := HB1.out.past hp2 (by simp) (Ne.symm hg5)
 obtain ⟨w3, hmk, hO3, hB3⟩ := make_run w2 m (by omega)
 obtain ⟨v0, hv0⟩ : ∃ v, w2.heap.size = v := ⟨_, rfl⟩
 rw [hv0] at hmk hO3
 have HK3 := Lib.hid (hk2.below hB3)
 have HB3 := Lib.hid (hb2.below hB3 hs1)
 have HO3 : Hid (Own w3 w.heap.size 5 (.slice (some ⟨v0, 0, none⟩) m m) (bv (bs (fill vs 0)))) := Lib.hid (by rw [fill_zero, HVL.out]; exact hO3.more (by omega))
 have hv1 : w.heap.size < v0 := by omega
 clear hk2 hb2 hO3 hB3 hf2 hp2 HLa HW1 HB1 c00 hv0 hs1
 go_wp2_with fail
 go_loopw [28] (fun i wr => ∃ j : Nat, j ≤ m ∧ i = .int .i64 j ∧ Hid (Kp S w wr) ∧ Hid (Block wr w.heap.size 115 #[.int .i64 (p : Int), .slice oA on oc]) ∧ Hid (Own wr w.heap.size 5 (.slice (some ⟨v0, 0, none⟩) m m) (bv (bs (fill vs j))))) (fun i _ => m - (intOf i).toNat)
 case atStart => exact ⟨0, by omega, rfl, HK3, HB3, HO3⟩
 case round =>
  clear HK3 HB3 HO3 hmk
  obtain ⟨j, hj, rfl, HK, HB, HO⟩ := hrel
  by_cases hjm : j < m
  ·have hti : j < l.length := by rw [HM.out]; exact hjm
   have htL : j < L.length := by rw [HLm.out]; exact hjm
   obtain ⟨b, off, rfl, hc0, hc1⟩ := row2_at (HE.out.past H.out.fld.fld HK.out.past).row hti
   have hlst := (HE.out.past H.out.fld.fld HK.out.past).lst _ (List.getElem_mem hti)
   obtain ⟨hup, hus⟩ := HI.out.get hti htL
   have hvj := HVS.out j htL
   have hnz := HNZ.out j htL
   have hult := HLt.out j htL
   have hun := HUn.out j htL
   have hset := fill_set (vs := vs) (j := j) (by rw [HVL.out]; exact hjm)
   obtain ⟨uA, h6⟩ : ∃ a, (l[j]).A = a := ⟨_, rfl⟩
   obtain ⟨uc, h8⟩ : ∃ a, (l[j]).c = a := ⟨_, rfl⟩
   rw [hup] at hc0
   rw [hus, h6, h8] at hc1 hlst
   obtain ⟨up, h9⟩ : ∃ a, (L[j]).1 = a := ⟨_, rfl⟩
   obtain ⟨us, h10⟩ : ∃ a, (L[j]).2 = a := ⟨_, rfl⟩
   rw [h9] at hc0 hvj hnz hult
   rw [h10] at hc1 hvj hlst hun
   obtain ⟨un, h11⟩ : ∃ a, us.length = a := ⟨_, rfl⟩
   rw [h11] at hc1 hlst hun
   have HUN := Lib.hid h11
   have HUB := Lib.hid hlst.1
   have huc := hlst.2
   have hun2 : un ≤ 16 := by omega
   rw [hvj] at hset
   have HSet := Lib.hid hset
   have HNz := Lib.hid hnz
   clear hup hus h6 h8 h9 h10 h11 hlst hvj hnz hset hun
   obtain ⟨ob, hob⟩ : ∃ ob, wr.heap.size = ob := ⟨_, rfl⟩
   have hk1 := HK.out.alloc (.cells #[.int .i64 (up : Int), .slice uA un uc] 115)
   have hsz := HK.out.size
   have hgw := H.out.fld.fld.lt
   have HK1 := Lib.hid hk1
   have hbo := Block.new wr 115 #[.int .i64 (up : Int), .slice uA un uc]
   rw [hob] at hbo
   have HBo := Lib.hid hbo
   have HB1 := Lib.hid (HB.out.alloc (.cells #[.int .i64 (up : Int), .slice uA un uc] 115))
   have HO1 := Lib.hid (HO.out.alloc (.cells #[.int .i64 (up : Int), .slice uA un uc] 115))
   have HUB1 := Lib.hid (HUB.out.below ((Below.refl _ wr).alloc (Nat.le_refl _) (.cells #[.int .i64 (up : Int), .slice uA un uc] 115)))
   have hsz1 : w.heap.size ≤ ob ∧ ob < (wr.alloc (.cells #[.int .i64 (up : Int), .slice uA un uc] 115)).heap.size := ⟨by omega, by simp; omega⟩
   have hbog : ob ≠ S.g := by omega
   have hpi : (p : Int) < (S.nx : Int) := by omega
   have hui : (up : Int) < (S.nx : Int) := by omega
   have hp0 : (0 : Int) ≤ (p : Int) := by omega
   have hu0 : (0 : Int) ≤ (up : Int) := by omega
   have hcX := H.out.cx
   clear hk1 hbo HK HB HO HUB
   go_wp2_with fail
   obtain ⟨V, hV⟩ : ∃ V, wr.alloc (.cells #[.int .i64 (up : Int), .slice uA un uc] 115) = V := ⟨_, rfl⟩
   rw [hV] at HK1 HBo HB1 HO1 HUB1 hsz1 ⊢
   clear hV hob hc0 hc1
   have s0 := HK1.out.ok.c0
   obtain ⟨s6, sx⟩ := HK1.out.ok.pt HX.out hult
   have sb0 := HB1.out.cell 0
   have sb1 := HB1.out.cell 1
   have so0 := HBo.out.cell 0
   have so1 := HBo.out.cell 1
   have HAt := Lib.hid (PS.atP oA os on oc V.drew HON.out ((HOB.out.past HK1.out.past).by_.drew) hoc (by omega) (some ⟨S.g, 0, none⟩) HK1.out.fldp HOB.out.far (coef S.xs up))
   refine wp_region_still_tail 14 hmx (by kernel_rfl) ?_
   simp only [List.take_succ_cons, List.take_zero, List.drop_succ_cons, List.drop_zero]
   iterate 14 still_step
   refine wpStill_nil ?_
   go_wp2_with fail
   refine HAt.out.mono ?_
   rintro e w4 ⟨rfl, hf4, hp4⟩
   have hp4' : Past V.heap.size S.g V w4 := ⟨hp4.os, hp4.tape, hp4.output, hp4.size, hp4.block⟩
   have HK4 := Lib.hid (HK1.out.go hf4 hp4')
   have HBo4 := Lib.hid (HBo.out.past hp4' HBo.out.lt hbog)
   have HB4 := Lib.hid (HB1.out.past hp4' HB1.out.lt (Ne.symm hg5))
   have HO4 := Lib.hid (own_keep HO1.out HK1.out.fldp hp4')
   have HUB4 := Lib.hid (HUB1.out.past hp4')
   have hsz4 : ob < w4.heap.size := by have := hp4'.size; omega
   obtain ⟨x1, hx1⟩ : ∃ x, Poly.eval os (coef S.xs up) = x := ⟨_, rfl⟩
   rw [hx1] at HSet ⊢
   clear hf4 hp4 hp4' HK1 HBo HB1 HO1 HUB1 HAt s0 s6 sx sb0 sb1 so0 so1 V hsz1 hx1
   have s0 := HK4.out.ok.c0
   obtain ⟨s6, sx⟩ := HK4.out.ok.pt HX.out hp
   have sb0 := HB4.out.cell 0
   have so0 := HBo4.out.cell 0
   have so1 := HBo4.out.cell 1
   have HAt := Lib.hid (PS.atP uA us un uc w4.drew HUN.out HUB4.out.by_.drew huc (by omega) (some ⟨S.g, 0, none⟩) HK4.out.fldp HUB4.out.far (coef S.xs p))
   go_wp2_with fail
   refine wp_region_still_tail 14 hmx (by kernel_rfl) ?_
   simp only [List.take_succ_cons, List.take_zero, List.drop_succ_cons, List.drop_zero]
   iterate 14 still_step
   refine wpStill_nil ?_
   go_wp2_with fail
   refine HAt.out.mono ?_
   rintro e w5 ⟨rfl, hf5, hp5⟩
   have hp5' : Past w4.heap.size S.g w4 w5 := ⟨hp5.os, hp5.tape, hp5.output, hp5.size, hp5.block⟩
   have HK5 := Lib.hid (HK4.out.go hf5 hp5')
   have HBo5 := Lib.hid (HBo4.out.past hp5' HBo4.out.lt hbog)
   have HB5 := Lib.hid (HB4.out.past hp5' HB4.out.lt (Ne.symm hg5))
   have HO5 := Lib.hid (own_keep HO4.out HK4.out.fldp hp5')
   have hsz5 : ob < w5.heap.size := by have := hp5'.size; omega
   obtain ⟨x2, hx2⟩ : ∃ x, Poly.eval us (coef S.xs p) = x := ⟨_, rfl⟩
   rw [hx2] at HSet ⊢
   obtain ⟨lu, hlu⟩ : ∃ x, xpow (coef S.xs up) S.a = x := ⟨_, rfl⟩
   rw [hlu] at HSet HNz
   have HLu := Lib.hid hlu
   clear hf5 hp5 hp5' HK4 HBo4 HB4 HO4 HUB4 HAt s0 s6 sx sb0 so0 so1 w4 hsz4 hx2 hlu
   have HSc : Hid (∀ V, Kp S w V → Block V ob 115 #[.int .i64 (up : Int), .slice uA un uc] → V.cell? ⟨S.b, 0, none⟩ = some (.pointer (some ⟨S.g, 0, none⟩)) ∧ V.cell? ⟨ob, 0, none⟩ = some (.int .i64 (up : Int))) := Lib.hid (fun V h1 h2 => ⟨h1.ok.c0, h2.cell 0⟩)
   have HK := Lib.hid HK5.out.drew
   have HBo := Lib.hid HBo5.out.drew
   have HB := Lib.hid HB5.out.drew
   have HO := Lib.hid HO5.out.drew
   have hob5 : ob < w5.drew.heap.size := hsz5
   have HOb := Lib.hid hob5
   have HDz := Lib.hid (sum_ne (l := la) (m := lu))
   clear HK5 HBo5 HB5 HO5 hsz5 hob5
   go_wp2_with fail
   go_region_held (fun V => V.cell? ⟨S.b, 0, none⟩ = some (.pointer (some ⟨S.g, 0, none⟩)) ∧ V.cell? ⟨ob, 0, none⟩ = some (.int .i64 (up : Int))) (exact HSc.out _ HK.out HBo.out)
    ((first
     | (go_at_call 19; (with_reducible refine (add_f _ _ _).mono ?_); rintro e wq ⟨rfl, rfl⟩)
     | (go_at_call 97; refine (lambda_calls HK.out.ok up hult).mono ?_; rintro e wl ⟨rfl, hf, hp8⟩; rw [HLu.out]; replace HBo := Lib.hid (HBo.out.past hp8 HBo.out.lt hbog); replace HB := Lib.hid (HB.out.past hp8 HB.out.lt (Ne.symm hg5)); replace HO := Lib.hid (own_keep HO.out HK.out.fldp hp8); replace HOb := Lib.hid (Nat.lt_of_lt_of_le HOb.out hp8.size); replace HK := Lib.hid (HK.out.go hf hp8); clear hf hp8)
     | (go_at_call 60; refine (div_f S.g (x1 + x2) (la + lu) HNz.out _ HK.out.fld).mono ?_; rintro e wl ⟨rfl, hf, hp8⟩; replace HBo := Lib.hid (HBo.out.past hp8 HBo.out.lt hbog); replace HB := Lib.hid (HB.out.past hp8 HB.out.lt (Ne.symm hg5)); replace HO := Lib.hid (own_keep HO.out HK.out.fldp hp8); replace HOb := Lib.hid (Nat.lt_of_lt_of_le HOb.out hp8.size); replace HK := Lib.hid (HK.out.go (FldP.of hf) hp8); clear hf hp8)))
   all_goals
    obtain ⟨wq, hwq⟩ : ∃ wq, wl = wq := ⟨_, rfl⟩
    rw [hwq] at HK HBo HB HO HOb ⊢
    clear hwq
    have s0 := HK.out.ok.c0
    have HMul := Lib.hid (mul_f S.g la ((x1 + x2) / (la + lu)) wq HK.out.fld)
    obtain ⟨qv, hqv⟩ : ∃ x, (x1 + x2) / (la + lu) = x := ⟨_, rfl⟩
    rw [hqv] at HSet HMul ⊢
    have hfl : (fill vs j).length = m := by rw [fill_length (by rw [HVL.out]; omega), HVL.out]
    have HFl := Lib.hid hfl
    clear hqv HDz HNz HLu hfl
    go_wp2_with fail
    refine HMul.out.mono ?_
    rintro e w7 ⟨rfl, hf7, hp7⟩
    have hK7 := HK.out.go (FldP.of hf7) hp7
    have hB7 := HB.out.past hp7 HB.out.lt (Ne.symm hg5)
    have hO7 := own_keep HO.out HK.out.fldp hp7
    have k7 := own_cell hO7 HFl.out hjm
    have f7 := Own.frozenAt hO7 (by rw [bvs_length, HFl.out]) j
    have HK7 : Hid (Kp S w (w7.setCell ⟨v0, j, none⟩ (.int .u8 ((x1 + la * qv).n : Int)))) := Lib.hid (Kp.later H.out hK7 ((Below.refl _ _).setCell (p := ⟨v0, j, none⟩) (by show w.heap.size ≤ v0; omega) _))
    have HB7 : Hid (Block (w7.setCell ⟨v0, j, none⟩ (.int .u8 ((x1 + la * qv).n : Int))) w.heap.size 115 #[.int .i64 (p : Int), .slice oA on oc]) := Lib.hid (hB7.far (p := ⟨v0, j, none⟩) (by show w.heap.size ≠ v0; omega) _)
    have HO7 : Hid (Own (w7.setCell ⟨v0, j, none⟩ (.int .u8 ((x1 + la * qv).n : Int))) w.heap.size 5 (.slice (some ⟨v0, 0, none⟩) m m) (bv (bs (fill vs (j + 1))))) := Lib.hid (by rw [← HSet.out]; exact own_set hO7 HFl.out)
    have hjm' : (j : Int) < (m : Int) := by omega
    clear hK7 hB7 hO7 hf7 hp7 HMul HK HB HO HBo HOb s0
    go_wp2_with (go_at_call 19; (with_reducible refine (add_f _ _ _).mono ?_); rintro e wz ⟨rfl, rfl⟩)
    go_roundw
    case rel => exact ⟨j + 1, by omega, by go_num, HK7, HB7, HO7⟩
    case measure => simp [intOf]; omega
  ·obtain rfl : j = m := by omega
   have hown := HO.out
   have hfa : fill vs j = vs := by rw [← HVL.out]; exact fill_all vs
   rw [hfa] at hown
   have HDec := Lib.hid (decoder_calls (S := S) (w := wr) A l j c t HM.out (by omega) (HE.out.past H.out.fld.fld HK.out.past).row)
   have HOw := Lib.hid hown
   clear hown hfa HO HB
   go_wp2_with fail
   refine HDec.out.mono ?_
   rintro e w8 ⟨P, d, rfl, hD, hb8⟩
   have hK8 := HK.out.below hb8
   have hO8 := HOw.out.below hb8
   have HD1 := Lib.hid (decoder1_calls T hK8.ok hD (by omega) ht ht2 (some ⟨v0, 0, none⟩) vs j j HVL.out (BF.own hK8.fldp hO8) (Nat.le_refl _) (by omega))
   have HK8 := Lib.hid hK8
   clear hD hb8 hK8 hO8 HDec
   go_wp2_with fail
   refine HD1.out.mono ?_
   rintro e w9 ⟨msg, wl, z, hw, hr⟩
   rw [HI.out.plE] at hw
   obtain ⟨A1, c1, B1, d1, rfl, h1, h2, h3, h4, h5, h6⟩ := Wres_back HK8.out hr
   have HX : Hid (∃ msg' wl' z', Wl.WIs S.xs S.a (plI L) vs t msg' wl' z' ∧ Wl.WRes S.g w msg' wl' z' (.returned (.tuple #[.slice A1 msg.length c1, .slice B1 wl.length d1, .int .i64 z])) w9) := Lib.hid ⟨msg, wl, z, hw, A1, c1, B1, d1, rfl, h1, h2, h3, h4, h5, h6⟩
   clear hw hr h1 h2 h3 h4 h5 h6 HD1
   go_wp2
   go_ret3
   rw [HVs.out]
   exact HX.out
end Go.Proofs.YtjoghbmedfmioaaGreat.Ms
