/- LocalNear, for every input: the frame round the walk; the argument lists are opened, the walk's contract is met, what was read reads as it did. -/
import Derived.Test.YtofihklinkpbiaaGreatPl01
import Derived.Test.YtofihklinkpbiaaGreatPl02
import Derived.Test.YtofihklinkpbiaaGreatPl03
import Derived.Test.YtofihklinkpbiaaGreatPl04
import Derived.Test.YtofihklinkpbiaaGreatPl05
import Derived.Test.YtofihklinkpbiaaGreatPl06
import Derived.Test.YtofihklinkpbiaaGreatPl07
import Derived.Test.YtofihklinkpbiaaGreatPl08
import Derived.Test.YtofihklinkpbiaaGreatPl09
import Derived.Test.YtofihklinkpbiaaGreatPl10
import Derived.Test.YtofihklinkpbiaaGreatPl11
import Derived.Test.YtofihklinkpbiaaGreatPl12
import Derived.Test.YtofihklinkpbiaaGreatPl13
import Derived.Test.YtofihklinkpbiaaGreatPl14
import Derived.Test.YtofihklinkpbiaaGreatPl15
import Derived.Test.YtofihklinkpbiaaGreatPl16
import Derived.Test.YtofihklinkpbiaaGreatPl17
import Derived.Test.YtofihklinkpbiaaGreatPl18
import Derived.Test.YtofihklinkpbiaaGreatPl19
import Derived.Test.YtofihklinkpbiaaGreatPl20
import Derived.Test.YtofihklinkpbiaaGreatPl21
import Derived.Test.YtofihklinkpbiaaGreatPl22
import Derived.Test.YtofihklinkpbiaaGreatPl23
import Derived.Test.YtofihklinkpbiaaGreatPl24
import Derived.Test.YtofihklinkpbiaaGreatPl25
import Derived.Test.YtofihklinkpbiaaGreatPl26
import Derived.WalkKit
import Derived.ProofKit
import Derived.OpenShut
import Derived.ShutString
import Derived.ChangeOld
import Derived.Below
import Derived.Deep.DeepHandedRow
import Derived.SizedLaws
import Derived.Test.YtofihklinkpbiaaGreatRows
namespace Go.Proofs.YtofihklinkpbiaaGreat.GF
theorem ge_add (m n : Int) : ge (m + n) = gm (ge m) (ge n) := by
 unfold ge
 rw [gm_pow, ← gp_mod ((m % 255).toNat + (n % 255).toNat)]
 congr 1; omega
end Go.Proofs.YtofihklinkpbiaaGreat.GF

namespace Go.Proofs.YtofihklinkpbiaaGreat
namespace F8
theorem of_byte (x : Nat) (h : x < 256) : ∃ y : F8, x = y.n := ⟨⟨x, h⟩, rfl⟩
end F8
end Go.Proofs.YtofihklinkpbiaaGreat

namespace Go.Proofs.YtofihklinkpbiaaGreat.Poly
open F8
theorem padd_length (p q : List F8) : (padd p q).length = max p.length q.length := by
 induction p generalizing q with
 | nil => rw [nil_padd]; simp
 | cons a p ih =>
  cases q with
  | nil => rw [padd_nil]; simp
  | cons b q => simp only [padd, List.length_cons, ih]; omega
end Go.Proofs.YtofihklinkpbiaaGreat.Poly

namespace Go.Proofs.YtofihklinkpbiaaGreat.Ms
open Go.RowKit Go.Shelf F8 Poly GF Rd
section
variable {g : Nat} {w w' : World} {l r : List El}
theorem Lst.append (h : Lst g w l) (h' : Lst g w r) : Lst g w (l ++ r) := fun e he => (List.mem_append.1 he).elim (h e) (h' e)
end
end Go.Proofs.YtofihklinkpbiaaGreat.Ms

namespace Go.Proofs.YtofihklinkpbiaaGreat.Lo
open F8 Poly Rd GF Ms
theorem gp_add (m n : Nat) : gp (m + n) = gm (gp m) (gp n) := by
 have h := ge_add (m : Int) (n : Int)
 rw [ge_nat, ge_nat, ← Int.natCast_add, ge_nat] at h
 exact h
theorem xpow_gp (i : Nat) : ∀ a, xpow (⟨gp i, gp_lt i⟩ : F8) a = ⟨gp (i * a), gp_lt _⟩
 | 0 => by apply F8.ext; show (1 : Nat) = gp (i * 0); rw [Nat.mul_zero]; rfl
 | a + 1 => by
  show _ * xpow _ a = _
  rw [xpow_gp i a]
  apply F8.ext
  show gm (gp i) (gp (i * a)) = gp (i * (a + 1))
  rw [← gp_add, Nat.mul_succ, Nat.add_comm]
theorem eval_app (p q : List F8) (x : F8) : eval (p ++ q) x = eval p x + xpow x p.length * eval q x := by
 induction p with
 | nil => show eval q x = 0 + 1 * eval q x; rw [one_mul, zero_add]
 | cons a p ih =>
  show a + x * eval (p ++ q) x = a + x * eval p x + (x * xpow x p.length) * eval q x
  rw [ih, mul_add, add_assoc, mul_assoc]
theorem coef_cpts {s G k : Nat} (h : k < G * s) : coef (cpts s G) k = ⟨gp (Pt.gidx s (255 / s) k), gp_lt _⟩ := by
 rw [coef_of_lt (by rw [cpts_length]; exact h)]
 simp [cpts]
theorem cpts_pow {s G k : Nat} (hst : s * (255 / s) = 255) (hk : k < G * s) : xpow (coef (cpts s G) k) s = ⟨gp (k / s * s), gp_lt _⟩ := by
 rw [coef_cpts hk, xpow_gp]
 apply F8.ext
 show gp _ = gp _
 have e2 : Pt.gidx s (255 / s) k * s = k / s * s + k % s * 255 := by
  unfold Pt.gidx
  rw [Nat.add_mul, Nat.mul_assoc, Nat.mul_comm (255 / s) s, hst]
 rw [e2, ← gp_mod, Nat.add_mul_mod_self_right, gp_mod]
theorem coef_drop (p : List F8) (a j : Nat) : coef (p.drop a) j = coef p (a + j) := by simp [coef, List.getD_eq_getElem?_getD, List.getElem?_drop]
theorem group_poly (r : Nat) (c : F8) : ∀ (n : Nat) (p : List F8), p.length ≤ n → IsM r p → ∃ g : List F8, g.length ≤ r ∧ ∀ x, xpow x (r + 1) = c → eval p x = eval g x
 | 0, p, hn, _ => ⟨[], by simp, fun x _ => by
   have : p = [] := List.eq_nil_of_length_eq_zero (by omega)
   rw [this]⟩
 | n + 1, p, hn, h => by
  rcases Nat.lt_or_ge r p.length with hl | hl
  ·obtain ⟨g, hg, he⟩ := group_poly r c n (p.drop (r + 1)) (by rw [List.length_drop]; omega) fun j hj => by
    rw [coef_drop]
    refine h _ ?_
    rw [Nat.add_mod_left]; exact hj
   refine ⟨padd (p.take r) (scale c g), ?_, fun x hx => ?_⟩
   ·rw [padd_length]; simp only [List.length_take, scale, List.length_map]; omega
   ·have e1 : p = p.take (r + 1) ++ p.drop (r + 1) := (List.take_append_drop _ _).symm
    have e2 : eval (p.take (r + 1)) x = eval (p.take r) x := eval_congr x fun j => by
     rcases Nat.lt_or_ge j r with h1 | h1
     ·rw [coef_take (by omega), coef_take h1]
     ·rw [coef_of_le (p := p.take r) (by rw [List.length_take]; omega)]
      rcases Nat.lt_or_ge j (r + 1) with h2 | h2
      ·rw [coef_take h2]
       refine h _ ?_
       rw [show j = r by omega, Nat.mod_eq_of_lt (by omega)]
      ·exact coef_of_le (by rw [List.length_take]; omega)
    conv => lhs; rw [e1]
    rw [eval_app, e2, eval_padd, eval_scale, he x hx, List.length_take, Nat.min_eq_left (by omega), hx]
  ·exact ⟨p, hl, fun _ _ => rfl⟩
theorem nis_good {r G : Nat} (hst : (r + 1) * (255 / (r + 1)) = 255) {to : Nat} {sh : List (Int × List F8)} {p : List F8} (hp : IsM r p) (hok : NOk (G * (r + 1)) (to : Int) sh) (hall : ∀ j ∈ grpL r to, (j : Int) ∈ plS sh)
  (hsh : ∀ o ∈ sh, o.1.toNat / (r + 1) = to / (r + 1) → coef o.2 0 = eval p (coef (cpts (r + 1) G) o.1.toNat)) : NIs (cpts (r + 1) G) r (to : Int) sh (eval p (coef (cpts (r + 1) G) to)) 0 := by
 obtain ⟨g, hg, he⟩ := group_poly r ⟨gp (to / (r + 1) * (r + 1)), gp_lt _⟩ p.length p (Nat.le_refl _) hp
 have ht : to < G * (r + 1) := by have := hok.1.2; omega
 refine .inr (.inr ⟨by rw [cpts_length]; exact hok, by rw [Int.toNat_natCast]; exact hall, rfl, g, hg, fun o ho hgr => ?_, ?_⟩)
 ·rw [Int.toNat_natCast] at hgr
  have h1 := (hok.2.1.2 o ho).1
  rw [hsh o ho hgr, he]
  rw [cpts_pow hst (by omega), hgr]
 ·rw [Int.toNat_natCast]
  exact he _ (cpts_pow hst ht)
end Go.Proofs.YtofihklinkpbiaaGreat.Lo

namespace Go.Proofs.YtofihklinkpbiaaGreat.Ms
open Go.RowKit Go.Shelf F8 Poly GF Rd
attribute [local go_sem] Oper.semAt_some
attribute [-go_sem] Builtin.append_


def OsG (l : List El) (w : World) (e : Ending) (w' : World) : Prop :=
 ∃ A c E, e = .returned (.slice A l.length c) ∧ l.length ≤ c ∧ OwnK 2 w' w.heap.size 49 (.slice A l.length c) l.length (cells2 E) ∧ TE w.heap.size w' E ∧ shE E = shE l ∧ Below w.heap.size w w'
set_option maxRecDepth 100000 in
set_option maxHeartbeats 4000000 in
theorem ownS_calls (g : Nat) (A0 : Option Addr) (l : List El) (n c0 : Nat) (w : World) (hl : l.length = n) (hn : n ≤ 1000) (hE : Els g w A0 l) (hsz : ∀ e ∈ l, e.s.length ≤ 1000) :
  Calls Tryz.prog 35 #[.slice A0 n c0] w (OsG l w) := by
 have HE := Lib.hid hE
 have HL := Lib.hid hl
 have HSz := Lib.hid hsz
 clear hE hl hsz
 go_enter Tryz.func35, Tryz.ntmps35
 go_wp2
 go_loopw [3, 4] (fun ov iv wr => ∃ (i : Nat) (E : List El), i ≤ n ∧ iv = .int .i64 i ∧ Hid (OwnK 2 wr w.heap.size 49 ov i (cells2 E)) ∧ Hid (shE E = shE (l.take i)) ∧ Hid (TE w.heap.size wr E) ∧ Hid (Below w.heap.size w wr)) (fun _ iv _ => n - (intOf iv).toNat)
 case atStart => exact ⟨0, [], by omega, rfl, Lib.hid (OwnK.nil _ _ _ _), Lib.hid (by simp [shE]), Lib.hid (TE.nil _ _), Lib.hid (Below.refl _ _)⟩
 case round =>
  obtain ⟨i, E, hi, rfl, HOv, HP, HT, HW⟩ := hrel
  by_cases him : i < n
  ·have hti : i < l.length := by rw [HL.out]; exact him
   obtain ⟨b, off, rfl, hc0, hc1⟩ := (HE.out.below HW.out).at_ hti
   have HTk : Hid (shE (l.take (i + 1)) = shE (l.take i) ++ [((l[i]).p, (l[i]).s)]) := Lib.hid (by unfold shE; rw [take_succ' l hti, List.map_append]; rfl)
   have hmem : l[i] ∈ l := List.getElem_mem hti
   have hby := ((HE.out.below HW.out).lst _ hmem).1.by_
   have hfs := HSz.out _ hmem
   obtain ⟨e, he⟩ : ∃ e, l[i] = e := ⟨_, rfl⟩
   rw [he] at hc0 hc1 HTk hby hfs
   obtain ⟨ep, eA, es, ec⟩ := e
   obtain ⟨fl, hfl⟩ : ∃ a, es.length = a := ⟨_, rfl⟩
   replace hc0 : wr.cell? ⟨b, off + i * 2, none⟩ = some (.int .i64 ep) := hc0
   replace hc1 : wr.cell? ⟨b, off + i * 2 + 1, none⟩ = some (.slice eA es.length ec) := hc1
   replace hby : Bytes wr eA (bs es) := hby
   replace hfs : es.length ≤ 1000 := hfs
   replace HTk : Hid (shE (l.take (i + 1)) = shE (l.take i) ++ [(ep, es)]) := HTk
   rw [hfl] at hc1 hfs
   obtain ⟨X, hX⟩ : ∃ X, wr.drew = X := ⟨_, rfl⟩
   have hbX : Below wr.heap.size wr X := by rw [← hX]; exact (Below.refl _ _).drew
   have hzX : X.heap.size = wr.heap.size := by rw [← hX]; rfl
   have cv1 := conv_f (hby.below hbX) fl ec hfl
   have cv2 := Rd.conv_b es fl hfl X
   have hge := grownCap_ge X fl 0 5
   obtain ⟨cg, hcg⟩ : ∃ c, grownCap X fl 0 5 = c := ⟨_, rfl⟩
   rw [hcg] at cv2 hge
   have HBy := Lib.hid (Rd.bw_bytes X es)
   have HCv := Lib.hid (Conv.new X es hfl)
   have hbb := Rd.bw_below X es
   obtain ⟨wb, hwb⟩ : ∃ wb, Lib.bytesWorld X 5 (str (bs es)) = wb := ⟨_, rfl⟩
   have hwz : wb.heap.size = X.heap.size + 1 := by rw [← hwb]; exact Lib.bytesWorld_size _ _ _
   rw [hwb] at cv2 hbb
   rw [hwb] at HBy HCv
   have hx0 : X.cell? ⟨b, off + i * 2, none⟩ = some (.int .i64 ep) := by rw [← hX]; exact hc0
   have hx1 : X.cell? ⟨b, off + i * 2 + 1, none⟩ = some (.slice eA fl ec) := by rw [← hX]; exact hc1
   have hy0 : wb.cell? ⟨b, off + i * 2, none⟩ = some (.int .i64 ep) := (hbb.cell (cell_lt hx0)).trans hx0
   have hsz := HW.out.size
   have hzb := hbb.size
   have hbr : Below wr.heap.size wr wb := hbX.trans (hbb.mono (by omega))
   have HOb := Lib.hid ((HOv.out.below hbr).alloc (.cells #[.int .i64 ep, .slice (some ⟨X.heap.size, 0, none⟩) fl cg] 49))
   have HRw : Hid (Row (wb.alloc (.cells #[.int .i64 ep, .slice (some ⟨X.heap.size, 0, none⟩) fl cg] 49)) (some ⟨wb.heap.size, 0, none⟩) (cells2 [⟨ep, some ⟨X.heap.size, 0, none⟩, es, cg⟩])) := Lib.hid (by
    rw [← hfl]
    exact Row.new wb #[.int .i64 ep, .slice (some ⟨X.heap.size, 0, none⟩) es.length cg] 49 (0, 0))
   obtain ⟨v2, w3, hrun, hown, hg3, -⟩ := run_appK (P := Tryz.prog) (wb.alloc (.cells #[.int .i64 ep, .slice (some ⟨X.heap.size, 0, none⟩) fl cg] 49)) 2 w.heap.size 37 37 49 _ 32 Tryz.underlying37 info_sym rfl (by omega) _ i (cells2 E) HOb.out ⟨wb.heap.size, 0, none⟩ 1 1 _ rfl HRw.out (cells2_one _) (by omega) (by omega) (by rw [World.size_alloc]; omega)
   have hba : Below wr.heap.size wr (wb.alloc (.cells #[.int .i64 ep, .slice (some ⟨X.heap.size, 0, none⟩) fl cg] 49)) := hbr.alloc hbr.size _
   have HW3 : Hid (Below w.heap.size w w3) := Lib.hid ((HW.out.trans (hba.mono hsz)).trans (OwnK.grew HOb.out (Nat.le_trans hsz hba.size) hg3))
   have HT3 : Hid (TE w.heap.size w3 (E ++ [⟨ep, some ⟨X.heap.size, 0, none⟩, es, cg⟩])) := Lib.hid (by
    have h1 : TE w.heap.size wb (E ++ [⟨ep, some ⟨X.heap.size, 0, none⟩, es, cg⟩]) := HT.out.snoc rfl (by omega) (by omega) hbr (by omega) HBy.out (by show Conv wb X.heap.size es.length; rw [hfl]; exact HCv.out) (by show es.length ≤ cg; rw [hfl]; exact hge)
    exact (h1.below ((Below.refl _ _).alloc (Nat.le_refl _) _)).grown HOb.out hg3)
   have HP3 : Hid (shE (E ++ [(⟨ep, some ⟨X.heap.size, 0, none⟩, es, cg⟩ : El)]) = shE (l.take (i + 1))) := Lib.hid (by rw [HTk.out, ← HP.out]; simp [shE])
   rw [← cells2_append] at hown
   have HOw := Lib.hid hown
   clear hown hg3 hba hbr hby hmem he hcg hwb hbb hge hsz hzb hzX hwz hbX hc0 hc1 HOv HT HP HOb HRw
   go_wp2
   go_region
   all_goals
    clear hrun cv1 cv2 hx0 hx1 hy0
    go_wp2
    go_roundw
    case rel => exact ⟨i + 1, _, by omega, by go_num, HOw, HP3, HT3, HW3⟩
    case measure => simp [intOf]; omega
  ·obtain rfl : i = n := by omega
   obtain ⟨A9, c9, rfl, hc9, -⟩ := HOv.out.shape
   have ht : l.take i = l := List.take_of_length_le (by rw [HL.out]; exact Nat.le_refl _)
   rw [ht] at HP
   have HX : Hid (OsG l w (.returned (.slice A9 i c9)) wr) := Lib.hid ⟨A9, c9, E, by rw [HL.out], by rw [HL.out]; exact hc9, by rw [HL.out]; exact HOv.out, HT.out, HP.out, HW.out⟩
   clear ht HOv HT HP
   go_wp2
   go_ret
   exact HX.out
end Go.Proofs.YtofihklinkpbiaaGreat.Ms

namespace Go.Proofs.YtofihklinkpbiaaGreat.localNear
open Go.RowKit Go.Shelf F8 GF Poly Rd Ms Lo
attribute [local go_sem] Oper.semAt_some


structure NH (wd : List F8) (L : List Nat) (E : List El) : Prop where
 ps : E.map El.p = L.reverse.map fun x : Nat => (x : Int)
 sh : ∀ e ∈ E, e.s = [coef wd e.p.toNat]
theorem NH.nil (wd : List F8) : NH wd [] [] := ⟨rfl, fun e he => by simp at he⟩
theorem NH.snoc {wd : List F8} {L : List Nat} {E : List El} {x : Nat} {e : El} (h : NH wd L E) (h1 : e.p = (x : Int)) (h2 : e.s = [coef wd x]) : NH wd (x :: L) (E ++ [e]) := by
 refine ⟨?_, fun f hf => ?_⟩
 ·rw [List.map_append, h.ps, List.reverse_cons, List.map_append, List.map_cons, List.map_nil, h1]; rfl
 ·rcases List.mem_append.1 hf with hf | hf
  ·exact h.sh f hf
  ·rw [List.mem_singleton.1 hf, h1, Int.toNat_natCast]; exact h2
theorem NH.len {wd : List F8} {L : List Nat} {E : List El} (h : NH wd L E) : E.length = L.length := by
 have := congrArg List.length h.ps
 simpa using this
theorem nodup_cast : ∀ {L : List Nat}, L.Nodup → (L.map fun x : Nat => (x : Int)).Nodup := fun {L} h => by
 rw [List.nodup_iff_pairwise_ne, List.pairwise_map]
 exact (List.nodup_iff_pairwise_ne.1 h).imp fun hne e => hne (by omega)
theorem NH.nok {wd : List F8} {r n j : Nat} {E : List El} (h : NH wd (grpL r j) E) (hj : j < n) (hn : ∀ x ∈ grpL r j, x < n) : NOk n (j : Int) (shE E) := by
 have hp : plS (shE E) = (grpL r j).reverse.map fun x : Nat => (x : Int) := by rw [plS_shE, h.ps]
 have hnd : ((grpL r j).reverse.map fun x : Nat => (x : Int)).Nodup := nodup_cast ((List.reverse_perm _).nodup_iff.2 (grpL_nodup r j))
 refine ⟨⟨by omega, by omega⟩, ⟨?_, fun o ho => ?_⟩, ?_⟩
 ·show (plS (shE E)).Nodup
  rw [hp]; exact hnd
 ·have h1 : o.1 ∈ plS (shE E) := List.mem_map_of_mem ho
  rw [hp] at h1
  obtain ⟨x, hx, he⟩ := List.mem_map.1 h1
  have := hn x (List.mem_reverse.1 hx)
  obtain ⟨e, he', rfl⟩ := List.mem_map.1 ho
  exact ⟨by omega, by show e.s.length = 1; rw [h.sh e he']; rfl⟩
 ·rw [hp]
  intro hm
  obtain ⟨x, hx, he⟩ := List.mem_map.1 hm
  have := (mem_grpL.1 (List.mem_reverse.1 hx)).2
  omega
theorem NH.all {wd : List F8} {r j : Nat} {E : List El} (h : NH wd (grpL r j) E) : ∀ x ∈ grpL r j, (x : Int) ∈ plS (shE E) := fun x hx => by
 rw [plS_shE, h.ps]
 exact List.mem_map_of_mem (List.mem_reverse.2 hx)
theorem NH.one {wd : List F8} {L : List Nat} {E : List El} (h : NH wd L E) : ∀ o ∈ shE E, coef o.2 0 = coef wd o.1.toNat := fun o ho => by
 obtain ⟨e, he, rfl⟩ := List.mem_map.1 ho
 show coef e.s 0 = _
 rw [h.sh e he]; rfl
theorem nok_sub {n : Nat} {to : Int} {sh sh' : List (Int × List F8)} (h : NOk n to sh) (hs : sh'.Sublist sh) : NOk n to sh' :=
 ⟨h.1, ⟨h.2.1.1.sublist (hs.map _), fun o ho => h.2.1.2 o (hs.subset ho)⟩, fun hm => h.2.2 ((hs.map _).subset hm)⟩
theorem nok_snoc {n : Nat} {to : Int} {sh : List (Int × List F8)} {o : Int × List F8} (h : NOk n to sh) (h1 : 0 ≤ o.1 ∧ o.1 < (n : Int)) (h2 : o.2.length = 1) (h3 : o.1 ≠ to) (h4 : o.1 ∉ plS sh) : NOk n to (sh ++ [o]) := by
 refine ⟨h.1, ⟨?_, fun x hx => ?_⟩, fun hm => ?_⟩
 ·rw [List.map_append, List.nodup_append]
  refine ⟨h.2.1.1, by simp, fun a ha b hb e => ?_⟩
  obtain rfl : b = o.1 := by simpa using hb
  exact h4 (e ▸ ha)
 ·rcases List.mem_append.1 hx with hx | hx
  ·exact h.2.1.2 x hx
  ·rw [List.mem_singleton.1 hx]; exact ⟨h1, h2⟩
 ·unfold plS at hm
  rw [List.map_append] at hm
  rcases List.mem_append.1 hm with hm | hm
  ·exact h.2.2 hm
  ·have : to = o.1 := by simpa using hm
   exact h3 this.symm
attribute [-go_sem] Builtin.append_
set_option maxRecDepth 100000 in
set_option maxHeartbeats 8000000 in
theorem core (PS : Poly.Spec) (Z : Wl.Spec) (w : World) (n k r : Int) (hl0 : -9223372036854775808 ≤ n) (hn2 : r < 9223372036854775808) (B : Option Addr) (q : List F8) (o c : Nat) (ho : q.length = o) (hbq : Bytes w B (bs q)) (to : Nat) (hto : to < 256) (bb : F8) :
  Calls Tryz.prog 9 #[.int .i64 n, .int .i64 k, .int .i64 r, .slice B o c, .int .u8 to, .int .u8 (bb.n : Nat)] w fun e w' => e = .returned (.bool true) ∧ Below w.heap.size w w' := by
 have HB := Lib.hid hbq
 have HO := Lib.hid ho
 clear hbq ho
 have hcase : n > 51 ∨ (¬ n > 51 ∧ k > 51) ∨ (¬ n > 51 ∧ ¬ k > 51 ∧ r > 51) ∨ (¬ n > 51 ∧ ¬ k > 51 ∧ ¬ r > 51) := by omega
 rcases hcase with h1 | ⟨h1, h2⟩ | ⟨h1, h2, h3⟩ | ⟨h1, h2, h3⟩
 ·clear HB HO
  go_enter Tryz.func9, Tryz.ntmps9
  go_wp2_with (go_at_call 27; (with_reducible refine (works_calls PS Z _).mono ?_); rintro e wz ⟨rfl, HZ⟩)
  go_ret
  exact ⟨rfl, HZ⟩
 ·clear HB HO
  go_enter Tryz.func9, Tryz.ntmps9
  go_wp2_with (go_at_call 27; (with_reducible refine (works_calls PS Z _).mono ?_); rintro e wz ⟨rfl, HZ⟩)
  go_ret
  exact ⟨rfl, HZ⟩
 ·clear HB HO
  go_enter Tryz.func9, Tryz.ntmps9
  go_wp2_with (go_at_call 27; (with_reducible refine (works_calls PS Z _).mono ?_); rintro e wz ⟨rfl, HZ⟩)
  go_ret
  exact ⟨rfl, HZ⟩
 go_enter Tryz.func9, Tryz.ntmps9
 go_wp2_with fail
 refine (GF.new_calls w).mono ?_
 rintro e w1 ⟨rfl, hw1⟩
 have HMd := Lib.hid (made n k r w w1 hw1 hl0 hn2)
 clear hw1
 go_wp2_with fail
 refine HMd.out.mono ?_
 clear HMd
 rintro e w2 (⟨hgood, S, hL, -, rfl⟩ | ⟨-, rfl, HBz⟩)
 rotate_left
 ·go_wp2_with (go_at_call 27; (with_reducible refine (works_calls PS Z _).mono ?_); rintro e wz ⟨rfl, HZ⟩)
  go_ret
  exact ⟨rfl, HBz.trans (HZ.mono HBz.size)⟩
 have HL := Lib.hid hL.lw
 have hnums := hL.lw.ok.par.nums
 obtain ⟨kn, hkn⟩ : ∃ kn, S.k = kn := ⟨_, rfl⟩
 obtain ⟨sn, hsn⟩ : ∃ sn, S.n = sn := ⟨_, rfl⟩
 obtain ⟨tl, htl⟩ : ∃ tl, S.T = tl := ⟨_, rfl⟩
 obtain rfl : n = (sn : Int) := by rw [← hsn]; exact hL.en.symm
 obtain rfl : k = (kn : Int) := by rw [← hkn]; exact hL.ek.symm
 have hsn9 : sn ≤ 255 := by omega
 have hkn9 : kn ≤ 255 := by omega
 have htl9 : tl ≤ 255 := by rw [← htl]; unfold Lc.T; omega
 have hKq : kn = S.q * S.r := by rw [← hkn]; exact hL.lw.ok.par.ek
 have HKq := Lib.hid hKq
 have HSn := Lib.hid hsn
 have HKn := Lib.hid hkn
 have HTl := Lib.hid htl
 have HXl : Hid (S.xs.length = sn) := Lib.hid (by rw [hL.lw.ok.len, hsn])
 have HXn := Lib.hid hL.lw.ok.nd
 have HR1 := Lib.hid hL.lw.ok.par.r1
 obtain ⟨rn, hrn⟩ : ∃ rn, S.r = rn := ⟨_, rfl⟩
 obtain rfl : r = (rn : Int) := by rw [← hrn]; exact hL.er.symm
 have HRn := Lib.hid hrn
 have hr2 : 2 ≤ rn := by
  have h1 := hL.lw.ok.par.r1
  have h2 := hL.lw.ok.par.st
  rw [hrn] at h1 h2
  rcases Nat.lt_or_ge rn 2 with h | h
  ·have : rn = 1 := by omega
   rw [this] at h2
   exact absurd h2 (by decide)
  ·exact h
 have hrs : rn + 1 ≤ sn := by
  have h1 := hL.lw.ok.par.en
  have h2 := hnums.2.2.2.2.2.2.2.2
  rw [hrn, hsn] at h1
  have h3 := Nat.le_mul_of_pos_left (rn + 1) (show 0 < S.G by omega)
  omega
 have HEn0 : Hid (sn = S.G * (rn + 1)) := Lib.hid (by rw [← hsn, ← hrn]; exact hL.lw.ok.par.en)
 have HSt : Hid ((rn + 1) * (255 / (rn + 1)) = 255) := Lib.hid (by rw [← hrn]; exact hL.lw.ok.par.st)
 clear hL hnums hkn hsn htl hKq hgood hl0 hn2 hrn
 have HFu := Lib.hid (kfull_calls B q o c kn w2 HO.out (HB.out.below HL.out.bel) (by omega))
 have hnn : ((sn : Int) != (sn : Int)) = false := by simp
 go_wp2_with fail
 refine HFu.out.mono ?_
 rintro e w4 ⟨A4, c4, rfl, hc4, hO4, hb4⟩
 obtain ⟨mx, hm⟩ : ∃ m, full q kn = m := ⟨_, rfl⟩
 have hml : mx.length = kn := by rw [← hm, full_length]
 rw [hm] at hO4
 have HL4 := Lib.hid (HL.out.below hb4)
 have HM4 := Lib.hid (BF.own HL4.out.ok.fld hO4)
 have HMl := Lib.hid hml
 clear hO4 hb4 hm hml HFu HL
 have hEn := encode_calls PS HL4.out.ok A4 mx kn c4 HMl.out HM4.out
 rw [show encZ S.xs S.q S.r mx = (word (pol S.q S.r mx) S.xs, 0) from if_pos (by rw [HMl.out, HKq.out])] at hEn
 have HEn := Lib.hid hEn
 clear hEn
 go_wp2_with fail
 refine HEn.out.mono ?_
 clear HEn
 rintro e w5 ⟨A5, c5, rfl, hc5, hO5, hf5, hp5⟩
 obtain ⟨wd, hwd⟩ : ∃ wd, word (pol S.q S.r mx) S.xs = wd := ⟨_, rfl⟩
 have hwl : wd.length = sn := by rw [← hwd, word_length, HXl.out]
 rw [hwd] at hc5 hO5
 rw [hwd, hwl]
 rw [hwl] at hc5 hO5
 have hp5' : Past w4.heap.size S.g w4 w5 := hp5
 have HL5 := Lib.hid (HL4.out.go hf5 hp5')
 have HW5 := Lib.hid (BF.own hf5 hO5)
 have HWd := Lib.hid hwd
 have HWl := Lib.hid hwl
 clear hO5 hf5 hp5 hp5' hwd hwl HL4 HM4
 obtain ⟨j, hj⟩ : ∃ j : Nat, to % sn = j := ⟨_, rfl⟩
 have hjn : j < sn := by rw [← hj]; exact Nat.mod_lt _ (by omega)
 have ex : (to : Int) % (sn : Int) = (j : Int) := by rw [← hj]; simp
 have ex2 : (to : Int).tmod (sn : Int) = (j : Int) := by rw [Int.tmod_eq_emod_of_nonneg (by omega)]; exact ex
 have hn00 : ((sn : Int) == 0) = false := by simp; omega
 have hn01 : ¬ sn = 0 := by omega
 have hto' : IntKind.i64.wrap (to : Int) = (to : Int) := IntWalk.i64_in _ (by omega)
 have hgr := grp_calls HL5.out.ok (j : Int)
 rw [show grpZ S.n S.r (j : Int) = grpL rn j by unfold grpZ; rw [if_pos (by rw [HSn.out]; omega), Int.toNat_natCast, HRn.out]] at hgr
 have HGr := Lib.hid hgr
 obtain ⟨L, hL⟩ : ∃ L, grpL rn j = L := ⟨_, rfl⟩
 rw [hL] at HGr
 have HLg := Lib.hid hL
 have HLl : Hid (L.length = rn) := Lib.hid (by rw [← hL]; exact grpL_length _ _)
 have HLn : Hid (∀ x ∈ L, x < sn) := Lib.hid fun x hx => by
  rw [← hL] at hx
  have h1 := (mem_grpL.1 hx).1
  have h2 := HEn0.out
  rw [h2] at hjn ⊢
  exact grp_lt hjn h1
 have hrw : IntKind.i64.wrap ((rn : Int) - 1) = (rn : Int) - 1 := IntWalk.i64_in _ (by omega)
 have hrr : ((rn : Int) != (rn : Int)) = false := by simp
 have hrn9 : rn ≤ 255 := by omega
 clear hj hgr hL
 go_wp2_with fail
 refine HGr.out.mono ?_
 rintro e w6 ⟨v6, rfl, hO6, hb6⟩
 obtain ⟨A6, c6, rfl, hr6, -⟩ := hO6.form
 rw [show (Pt.nv L).length = rn by simp [Pt.nv, HLl.out]]
 have HL6 := Lib.hid (HL5.out.below hb6)
 have HW6 := Lib.hid (HW5.out.below hb6)
 have HR6 := Lib.hid hr6
 clear hO6 hb6 hr6 HGr HL5 HW5
 go_wp2_with fail
 go_loopw [19, 20] (fun hv iv wr => ∃ (a : Nat) (E : List El), a ≤ rn ∧ iv = .int .i64 ((a : Int) - 1) ∧ Hid (OwnK 2 wr w6.heap.size 49 hv (rn - a) (cells2 E)) ∧ Hid (LstO wr w6.heap.size E) ∧ Hid (NH wd (L.drop a) E) ∧ Hid (Below w6.heap.size w6 wr)) (fun _ iv _ => (intOf iv + 1).toNat)
 case atStart => exact ⟨rn, [], Nat.le_refl _, rfl, Lib.hid (by rw [Nat.sub_self]; exact OwnK.nil _ _ _ _), Lib.hid (LstO.nil _ _), Lib.hid (by rw [List.drop_of_length_le (by rw [HLl.out]; exact Nat.le_refl _)]; exact NH.nil _), Lib.hid (Below.refl _ _)⟩
 case round =>
  obtain ⟨a, E, ha, hiv, HOv, HLo, HN, HW⟩ := hrel
  rcases a with _ | b
  rotate_left
  ·obtain rfl : u20 = .int .i64 (b : Int) := by rw [hiv, show (((b + 1 : Nat) : Int) - 1) = (b : Int) by omega]
   clear hiv
   have hbL : b < L.length := by rw [HLl.out]; omega
   obtain ⟨bG, oG, rfl, hcG⟩ := (HR6.out.below HW.out) b (.int .i64 (L[b] : Nat)) (by simp [Pt.nv, hbL])
   have hmem : L[b] ∈ L := List.getElem_mem hbL
   have HDr : Hid (L.drop b = L[b] :: L.drop (b + 1)) := Lib.hid (List.drop_eq_getElem_cons hbL)
   obtain ⟨x, hx⟩ : ∃ x, L[b] = x := ⟨_, rfl⟩
   rw [hx] at hcG hmem HDr
   have hxn := HLn.out x hmem
   have hbw := (HW6.out.below HW.out).by_
   obtain ⟨bw, ow, rfl⟩ := where_ hbw (by rw [HWl.out]; omega)
   have hcw := cellAt hbw x (by rw [HWl.out]; exact hxn)
   obtain ⟨y, hy⟩ : ∃ y, coef wd x = y := ⟨_, rfl⟩
   rw [hy] at hcw
   obtain ⟨X, hX⟩ : ∃ X, wr.drew = X := ⟨_, rfl⟩
   have hbX : Below wr.heap.size wr X := by rw [← hX]; exact (Below.refl _ _).drew
   have hzX : X.heap.size = wr.heap.size := by rw [← hX]; rfl
   obtain ⟨wa, hwa⟩ : ∃ wa, X.alloc (.cells #[.int .u8 (y.n : Nat)] 5) = wa := ⟨_, rfl⟩
   obtain ⟨wb, hwb⟩ : ∃ wb, wa.alloc (.cells #[.int .i64 (x : Int), .slice (some ⟨X.heap.size, 0, none⟩) 1 1] 49) = wb := ⟨_, rfl⟩
   have hza : wa.heap.size = X.heap.size + 1 := by rw [← hwa, World.size_alloc]
   have hba : Below X.heap.size X wa := by rw [← hwa]; exact (Below.refl _ _).alloc (Nat.le_refl _) _
   have hbb : Below wa.heap.size wa wb := by rw [← hwb]; exact (Below.refl _ _).alloc (Nat.le_refl _) _
   have hx0 : X.cell? ⟨bG, oG + b, none⟩ = some (.int .i64 (x : Nat)) := by rw [← hX]; exact hcG
   have hx1 : X.cell? ⟨bw, ow + x, none⟩ = some (.int .u8 (y.n : Nat)) := by rw [← hX]; exact hcw
   have hy0 : wa.cell? ⟨bG, oG + b, none⟩ = some (.int .i64 (x : Nat)) := (hba.cell (cell_lt hx0)).trans hx0
   have hsz := HW.out.size
   have hXb : Below X.heap.size X wb := hba.trans (hbb.mono hba.size)
   have hrb : Below wr.heap.size wr wb := hbX.trans (hXb.mono (by omega))
   have hzb := hXb.size
   have hrow : Row wb (some ⟨wa.heap.size, 0, none⟩) (cells2 [⟨(x : Int), some ⟨X.heap.size, 0, none⟩, [y], 1⟩]) := by
    rw [← hwb]
    exact Row.new wa #[.int .i64 (x : Int), .slice (some ⟨X.heap.size, 0, none⟩) 1 1] 49 (0, 0)
   rw [hza] at hrow
   have hown1 : Own wa w6.heap.size 5 (.slice (some ⟨X.heap.size, 0, none⟩) 1 1) (bv (bs [y])) := by
    rw [← hwa]
    exact Own.of_block (Block.new X 5 #[.int .u8 (y.n : Nat)]) (by omega) rfl (by decide)
   have HLo2 := Lib.hid ((HLo.out.below hrb).append (LstO.one (e := ⟨(x : Int), some ⟨X.heap.size, 0, none⟩, [y], 1⟩) (hown1.below hbb)))
   have HOw := Lib.hid (HOv.out.below hrb)
   have hz9 : w6.heap.size ≤ wb.heap.size := by omega
   obtain ⟨v7, w7, hrun, hown, hg7, -⟩ := run_appK (P := Tryz.prog) wb 2 w6.heap.size 37 37 49 _ 32 Tryz.underlying37 info_sym rfl (by omega) _ (rn - (b + 1)) (cells2 E) HOw.out ⟨X.heap.size + 1, 0, none⟩ 1 1 _ rfl hrow (cells2_one _) (by omega) (by omega) hz9
   rw [← cells2_append, show rn - (b + 1) + 1 = rn - b by omega] at hown
   have HO7 := Lib.hid hown
   have HL7 := Lib.hid (HLo2.out.grown HOw.out (by decide) hg7)
   have HB7 := Lib.hid ((HW.out.trans (hrb.mono hsz)).trans (HOw.out.grew hz9 hg7))
   have HN7 : Hid (NH wd (L.drop b) (E ++ [⟨(x : Int), some ⟨X.heap.size, 0, none⟩, [y], 1⟩])) := Lib.hid (by rw [HDr.out]; exact HN.out.snoc rfl (by rw [hy]))
   have hb0 : (b : Int) ≥ 0 := by omega
   have hbr : (b : Int) < (rn : Int) := by omega
   have hxs : (x : Int) < (sn : Int) := by omega
   have hw2 : IntKind.i64.wrap ((b : Int) - 1) = (b : Int) - 1 := IntWalk.i64_in _ (by omega)
   clear hown hg7 hrow hown1 hXb hrb hba hbb hy hbw hmem hbL hx hcG hcw HOv HLo HN HW hbX hzX hsz hzb
   go_wp2
   go_region
   all_goals
    clear hrun hx0 hx1 hy0
    go_wp2
    go_roundw
    case rel => exact ⟨b, _, by omega, rfl, HO7, HL7, HN7, HB7⟩
    case measure => first | (simp [intOf]; done) | (simp [intOf]; omega)
  ·obtain rfl : u20 = .int .i64 (-1) := hiv
   have hi0 : ¬ ((-1 : Int) ≥ 0) := by omega
   have hO := HOv.out
   rw [Nat.sub_zero] at hO
   rw [List.drop_zero] at HN
   obtain ⟨A8, c8, rfl, hc8, -⟩ := hO.shape
   have hEl : E.length = rn := by rw [HN.out.len, HLl.out]
   have HLw := Lib.hid (HL6.out.below HW.out)
   have HWw := Lib.hid (HW6.out.below HW.out)
   have HEw : Hid (Els S.g wr A8 E) := Lib.hid (hO.els (HLo.out.lst HLw.out.ok.fld))
   have hN := HN.out
   rw [← HLg.out] at hN
   have HNh := Lib.hid hN
   have hLn : ∀ x ∈ grpL rn j, x < sn := fun x hx => HLn.out x (by rw [← HLg.out]; exact hx)
   have HNok := Lib.hid (hN.nok hjn hLn)
   have HGd : Hid (∀ sh v z, NOk sn (j : Int) sh → (∀ x ∈ grpL rn j, (x : Int) ∈ plS sh) → (∀ o ∈ sh, o.1.toNat / (rn + 1) = j / (rn + 1) → coef o.2 0 = coef wd o.1.toNat) → NIs S.xs S.r (j : Int) sh v z → v = coef wd j ∧ z = 0) := Lib.hid fun sh v z hok hall hsh hN => by
    have hx : S.xs = cpts (rn + 1) S.G := by unfold Lc.xs; rw [HRn.out]
    have hev : ∀ i, i < sn → coef wd i = eval (pol S.q S.r mx) (coef (cpts (rn + 1) S.G) i) := fun i hi => by
     rw [← HWd.out, ← hx, word_get (by rw [HXl.out]; exact hi)]
    rw [hx, HRn.out] at hN
    have hg := nis_good (p := pol S.q S.r mx) (G := S.G) HSt.out (by rw [HRn.out]; exact pol_isM _ _ _) (by rw [← HEn0.out]; exact hok) hall fun o ho hgr => by
     rw [hsh o ho hgr]
     exact hev _ (by have := (hok.2.1.2 o ho).1; omega)
    rw [← hev j hjn] at hg
    exact NIs.only (G := S.G) (by rw [← hx]; exact HXn.out) (cpts_length _ _) hN hg
   have HNe := Lib.hid (near_calls PS HLw.out.ok (j : Int) A8 E rn c8 hEl (by omega) HEw.out)
   have HEl := Lib.hid hEl
   clear hO hN hLn hEl HOv HW HL6 HW6 HR6 HN
   go_wp2_with fail
   with_reducible refine HNe.out.mono ?_
   rintro e w8 ⟨v8, z8, hN8, rfl, hf8, hp8⟩
   obtain ⟨rfl, rfl⟩ := HGd.out _ _ _ HNok.out HNh.out.all (fun o ho _ => HNh.out.one o ho) hN8
   have HL8 := Lib.hid (HLw.out.go hf8 hp8)
   have HW8 := Lib.hid (HWw.out.past hp8)
   have HE8 := Lib.hid (HEw.out.past HLw.out.ok.fld.fld hp8)
   clear hN8 hf8 hp8 HNe HLw HWw HEw HLo

   obtain ⟨b8, o8, hA8, -, -⟩ := HE8.out.at_ (i := 0) (by rw [HEl.out]; omega)
   subst hA8
   have hcut : Els S.g w8 (some ⟨b8, o8 + 2, none⟩) (E.drop 1) := by
    have h := els_cut HE8.out 1 (rn - 1)
    rw [List.take_of_length_le (by rw [List.length_drop, HEl.out]; exact Nat.le_refl _)] at h
    exact h
   have hdl : (E.drop 1).length = rn - 1 := by rw [List.length_drop, HEl.out]
   have HNe := Lib.hid (near_calls PS HL8.out.ok (j : Int) (some ⟨b8, o8 + 2, none⟩) (E.drop 1) (rn - 1) (c8 - 1) hdl (by omega) hcut)
   have HMiss : Hid (∀ v z, NIs S.xs S.r (j : Int) (shE (E.drop 1)) v z → v = 0 ∧ z = 70) := Lib.hid fun v z hN => by
    have hsub : (shE (E.drop 1)).Sublist (shE E) := (List.drop_sublist 1 E).map _
    have hok : NOk S.xs.length (j : Int) (shE (E.drop 1)) := by rw [HXl.out]; exact nok_sub HNok.out hsub
    refine NIs.only (G := S.G) HXn.out (by rw [HXl.out, HRn.out]; exact HEn0.out) hN (.inr (.inl ⟨hok, ?_, rfl, rfl⟩))
    rw [HRn.out, Int.toNat_natCast]
    have hne : (grpL rn j).reverse ≠ [] := fun e => by
     have := congrArg List.length e
     rw [List.length_reverse, grpL_length] at this
     simp at this; omega
    obtain ⟨x, rest, hxr⟩ := List.exists_cons_of_ne_nil hne
    have hps := HNh.out.ps
    rw [hxr] at hps
    have hnd : (x :: rest).Nodup := by rw [← hxr]; exact (List.reverse_perm _).nodup_iff.2 (grpL_nodup rn j)
    refine ⟨x, List.mem_reverse.1 (by rw [hxr]; exact List.mem_cons_self ..), fun hm => ?_⟩
    rw [plS_shE, List.map_drop, hps] at hm
    obtain ⟨y, hy, he⟩ := List.mem_map.1 (by simpa using hm : (x : Int) ∈ rest.map fun x : Nat => (x : Int))
    have : y = x := by omega
    rw [this] at hy
    exact (List.nodup_cons.1 hnd).1 hy
   have hc81 : 1 < c8 := by omega
   have hc82 : (1 : Int) < (c8 : Int) := by omega
   have hc83 : (1 : Int) ≤ (rn : Int) := by omega
   have hc84 : (1 : Nat) ≤ rn := by omega
   clear hcut hdl
   go_wp2_with fail
   with_reducible refine HNe.out.mono ?_
   rintro e w9 ⟨v9, z9, hN9, rfl, hf9, hp9⟩
   obtain ⟨rfl, rfl⟩ := HMiss.out _ _ hN9
   have HL9 := Lib.hid (HL8.out.go hf9 hp9)
   have HW9 := Lib.hid (HW8.out.past hp9)
   have HE9 := Lib.hid (HE8.out.past HL8.out.ok.fld.fld hp9)
   clear hN9 hf9 hp9 HNe HL8 HW8 HE8 HMiss hc81 hc82
   rw [show ((0 : F8).n : Int) = 0 from rfl]
   obtain ⟨fr, hfr⟩ : ∃ fr, (j + rn + 1) % sn = fr := ⟨_, rfl⟩
   have hfrn : fr < sn := by rw [← hfr]; exact Nat.mod_lt _ (by omega)
   have hx1 : IntKind.i64.wrap ((j : Int) + (rn : Int)) = (j : Int) + (rn : Int) := IntWalk.i64_in _ (by omega)
   have hx2 : IntKind.i64.wrap ((j : Int) + (rn : Int) + 1) = (j : Int) + (rn : Int) + 1 := IntWalk.i64_in _ (by omega)
   have hx3 : IntKind.i64.wrap ((rn : Int) + 1) = (rn : Int) + 1 := IntWalk.i64_in _ (by omega)
   have hx4 : ((j : Int) + (rn : Int) + 1).tmod (sn : Int) = (fr : Int) := by
    rw [Int.tmod_eq_emod_of_nonneg (by omega), ← hfr]; simp
   have hx5 : IntKind.i64.wrap (fr : Int) = (fr : Int) := IntWalk.i64_in _ (by omega)
   obtain ⟨s1, hs1⟩ : ∃ s1 : Nat, rn + 1 = s1 := ⟨_, rfl⟩
   have hs1' : (rn : Int) + 1 = (s1 : Int) := by omega
   have hs10 : ¬ s1 = 0 := by omega
   have hs11 : ((s1 : Int) == 0) = false := by simp; omega
   have hd1 : (fr : Int).tdiv (s1 : Int) = ((fr / s1 : Nat) : Int) := by rw [Int.tdiv_eq_ediv_of_nonneg (by omega)]; simp
   have hd2 : (j : Int).tdiv (s1 : Int) = ((j / s1 : Nat) : Int) := by rw [Int.tdiv_eq_ediv_of_nonneg (by omega)]; simp
   have hdl1 : fr / s1 ≤ fr := Nat.div_le_self _ _
   have hdl2 : j / s1 ≤ j := Nat.div_le_self _ _
   have HSame : Hid (fr / s1 ≠ j / s1 → NOk sn (j : Int) (shE E ++ [((fr : Int), [bb])]) ∧ fr / (rn + 1) ≠ j / (rn + 1)) := Lib.hid fun hne => by
    rw [← hs1] at hne
    refine ⟨nok_snoc HNok.out ⟨by show (0 : Int) ≤ (fr : Int); omega, by show (fr : Int) < (sn : Int); omega⟩ rfl (fun e => hne (by have e : (fr : Int) = (j : Int) := e; rw [show fr = j by omega])) fun hm => ?_, hne⟩
    rw [plS_shE, HNh.out.ps] at hm
    obtain ⟨y, hy, he⟩ := List.mem_map.1 hm
    have he : (y : Int) = (fr : Int) := he
    have h1 := (mem_grpL.1 (List.mem_reverse.1 hy)).1
    rw [show y = fr by omega] at h1
    exact hne h1
   obtain ⟨d1, hd1'⟩ : ∃ d1, fr / s1 = d1 := ⟨_, rfl⟩
   obtain ⟨d2, hd2'⟩ : ∃ d2, j / s1 = d2 := ⟨_, rfl⟩
   rw [hd1'] at hd1 hdl1 HSame
   rw [hd2'] at hd2 hdl2 HSame
   obtain ⟨bw, ow, hA5⟩ := where_ HW9.out.by_ (by rw [HWl.out]; omega)
   subst hA5
   obtain ⟨y, hy⟩ : ∃ y, coef wd j = y := ⟨_, rfl⟩
   have HY := Lib.hid hy
   rw [hy]
   have hyy : ((y.n : Int) == (y.n : Int)) = true := by simp
   have hws : IntKind.i64.wrap (s1 : Int) = (s1 : Int) := IntWalk.i64_in _ (by omega)
   have hwd1 : IntKind.i64.wrap (d1 : Int) = (d1 : Int) := IntWalk.i64_in _ (by omega)
   have hwd2 : IntKind.i64.wrap (d2 : Int) = (d2 : Int) := IntWalk.i64_in _ (by omega)
   clear hfr hd1' hd2' hy hs1
   have HFin : Hid (∀ V v z, Lw S w V → BF S.g V (some ⟨bw, ow, none⟩) wd → v = coef wd j → z = (0 : Int) → V.cell? ⟨bw, ow + j, none⟩ = some (.int .u8 (y.n : Nat)) ∧ v = y) := Lib.hid fun V v z hL hB hv _ => ⟨by
    have h := cellAt hB.by_ j (by rw [HWl.out]; exact hjn)
    rw [HY.out] at h
    exact h, hv.trans HY.out⟩
   by_cases hdd : d1 = d2
   ·have hcm : ((d1 : Int) != (d2 : Int)) = false := by simp [hdd]
    clear hdd HSame
    go_wp2_with fail
    go_quiet (fail)
    have hbq := Below.drewN' (Below.refl w9.heap.size w9) nq
    have HL10 := Lib.hid (HL9.out.below hbq)
    have HW10 := Lib.hid (HW9.out.below hbq)
    have HE10 := Lib.hid (HE9.out.below hbq)
    obtain ⟨w10, hw10⟩ : ∃ w10, w9.drewN nq = w10 := ⟨_, rfl⟩
    rw [hw10] at HL10 HW10 HE10 ⊢
    clear hw10 hbq HL9 HW9 HE9
    have HNe := Lib.hid (near_calls PS HL10.out.ok (j : Int) (some ⟨b8, o8, none⟩) E rn c8 HEl.out (by omega) HE10.out)
    go_wp2_with fail
    with_reducible refine HNe.out.mono ?_
    rintro e w11 ⟨va, za, hNa, rfl, hfa, hpa⟩
    obtain ⟨hva, hza⟩ := HGd.out _ _ _ HNok.out HNh.out.all (fun o ho _ => HNh.out.one o ho) hNa
    have HL11 := Lib.hid (HL10.out.go hfa hpa)
    obtain ⟨hcw, hvy⟩ := HFin.out w11 va za HL11.out (HW10.out.past hpa) hva hza
    rw [hvy, hza]
    clear hNa hfa hpa hva hza hvy HNe HL10 HW10 HE10
    go_wp2_with (go_at_call 27; (with_reducible refine (works_calls PS Z _).mono ?_); rintro e wz ⟨rfl, HZ⟩)
    go_ret
    exact ⟨rfl, HL11.out.bel.trans (HZ.mono HL11.out.bel.size)⟩
   ·have hcm : ((d1 : Int) != (d2 : Int)) = true := by simp; omega
    obtain ⟨hok2, hfar2⟩ := HSame.out hdd
    have HOk2 := Lib.hid hok2
    have HFar2 := Lib.hid hfar2
    clear hdd HSame hok2 hfar2
    go_wp2_with fail
    go_quiet (fail)
    have hbq := Below.drewN' (Below.refl w9.heap.size w9) nq
    have HL10 := Lib.hid (HL9.out.below hbq)
    have HW10 := Lib.hid (HW9.out.below hbq)
    have HE10 := Lib.hid (HE9.out.below hbq)
    obtain ⟨w10, hw10⟩ : ∃ w10, w9.drewN nq = w10 := ⟨_, rfl⟩
    rw [hw10] at HL10 HW10 HE10 ⊢
    clear hw10 hbq HL9 HW9 HE9
    have HOs := Lib.hid (ownS_calls S.g (some ⟨b8, o8, none⟩) E rn c8 w10 HEl.out (by omega) HE10.out (fun e he => by rw [HNh.out.sh e he]; show 1 ≤ 1000; omega))
    go_wp2_with fail
    with_reducible refine HOs.out.mono ?_
    rintro e w11 ⟨Ab, cb, E2, rfl, hcb, hOb, hTb, hSb, hbb⟩
    rw [HEl.out] at hcb hOb ⊢
    obtain ⟨wa, hwa⟩ : ∃ wa, w11.alloc (.cells #[.int .u8 (bb.n : Nat)] 5) = wa := ⟨_, rfl⟩
    obtain ⟨wb, hwb⟩ : ∃ wb, wa.alloc (.cells #[.int .i64 (fr : Int), .slice (some ⟨w11.heap.size, 0, none⟩) 1 1] 49) = wb := ⟨_, rfl⟩
    have hza : wa.heap.size = w11.heap.size + 1 := by rw [← hwa, World.size_alloc]
    have hba : Below w11.heap.size w11 wa := by rw [← hwa]; exact (Below.refl _ _).alloc (Nat.le_refl _) _
    have hbb2 : Below wa.heap.size wa wb := by rw [← hwb]; exact (Below.refl _ _).alloc (Nat.le_refl _) _
    have hrb : Below w11.heap.size w11 wb := hba.trans (hbb2.mono hba.size)
    have hsz := hbb.size
    have hzb := hrb.size
    have hrow : Row wb (some ⟨wa.heap.size, 0, none⟩) (cells2 [⟨(fr : Int), some ⟨w11.heap.size, 0, none⟩, [bb], 1⟩]) := by
     rw [← hwb]
     exact Row.new wa #[.int .i64 (fr : Int), .slice (some ⟨w11.heap.size, 0, none⟩) 1 1] 49 (0, 0)
    rw [hza] at hrow
    have hblk : Block wa w11.heap.size 5 #[.int .u8 (bb.n : Nat)] := by rw [← hwa]; exact Block.new w11 _ _
    have hOn : Own wa w10.heap.size 5 (.slice (some ⟨w11.heap.size, 0, none⟩) 1 1) (bv (bs [bb])) := Own.of_block hblk hsz rfl (by decide)
    have HOw := Lib.hid (hOb.below hrb)
    have hz9 : w10.heap.size ≤ wb.heap.size := by omega
    obtain ⟨v7, w7, hrun, hown, hg7, -⟩ := run_appK (P := Tryz.prog) wb 2 w10.heap.size 37 37 49 _ 32 Tryz.underlying37 info_sym rfl (by omega) _ rn (cells2 E2) HOw.out ⟨w11.heap.size + 1, 0, none⟩ 1 1 _ rfl hrow (cells2_one _) (by omega) (by omega) hz9
    rw [← cells2_append] at hown
    have hB7 : Below w10.heap.size w10 w7 := (hbb.trans (hrb.mono hsz)).trans (HOw.out.grew hz9 hg7)
    have HL7 := Lib.hid (HL10.out.below hB7)
    have HW7 := Lib.hid (HW10.out.below hB7)
    have hls : Lst S.g w7 (E2 ++ [⟨(fr : Int), some ⟨w11.heap.size, 0, none⟩, [bb], 1⟩]) :=
     (te_lst ((hTb.below hrb).grown HOw.out hg7) HL10.out.ok.fld.fld.lt).append (((LstO.one (e := ⟨(fr : Int), some ⟨w11.heap.size, 0, none⟩, [bb], 1⟩) (hOn.below hbb2)).grown HOw.out (by decide) hg7).lst HL7.out.ok.fld)
    obtain ⟨A7, c7, rfl, hc7, -⟩ := hown.shape
    have hE7 : Els S.g w7 A7 (E2 ++ [⟨(fr : Int), some ⟨w11.heap.size, 0, none⟩, [bb], 1⟩]) := hown.els hls
    have hsh : shE (E2 ++ [(⟨(fr : Int), some ⟨w11.heap.size, 0, none⟩, [bb], 1⟩ : El)]) = shE E ++ [((fr : Int), [bb])] := by
     rw [← hSb]; simp [shE]
    have hlen : (E2 ++ [(⟨(fr : Int), some ⟨w11.heap.size, 0, none⟩, [bb], 1⟩ : El)]).length = rn + 1 := by
     have h1 := congrArg List.length hSb
     rw [shE_length, shE_length, HEl.out] at h1
     simp [h1]
    have hNe := near_calls PS HL7.out.ok (j : Int) A7 _ (rn + 1) c7 hlen (by omega) hE7
    rw [hsh] at hNe
    have HNe := Lib.hid hNe
    have hw9' : IntKind.i64.wrap ((rn : Int) + 1) = (s1 : Int) := by rw [hx3]; exact hs1'
    have hcs : ((rn + 1 : Nat) : Int) = (s1 : Int) := by omega
    clear hOb hTb hSb hbb hba hbb2 hrb hrow hblk hOn hown hg7 hB7 hls hE7 hsh hlen hNe HL10 HW10 HE10
    go_wp2_with fail
    with_reducible refine HNe.out.mono ?_
    rintro e w12 ⟨va, za, hNa, rfl, hfa, hpa⟩
    obtain ⟨hva, hza⟩ := HGd.out _ _ _ HOk2.out (fun x hx => by
     have h1 := HNh.out.all x hx
     unfold plS at h1 ⊢
     rw [List.map_append]
     exact List.mem_append_left _ h1) (fun o ho hgr => by
     rcases List.mem_append.1 ho with ho | ho
     ·exact HNh.out.one o ho
     ·rw [List.mem_singleton.1 ho] at hgr
      exact absurd (by simpa using hgr) HFar2.out) hNa
    have HL11 := Lib.hid (HL7.out.go hfa hpa)
    obtain ⟨hcw, hvy⟩ := HFin.out w12 va za HL11.out (HW7.out.past hpa) hva hza
    rw [hvy, hza]
    clear hNa hfa hpa hva hza hvy HNe HL7 HW7
    go_wp2_with (go_at_call 27; (with_reducible refine (works_calls PS Z _).mono ?_); rintro e wz ⟨rfl, HZ⟩)
    go_ret
    exact ⟨rfl, HL11.out.bel.trans (HZ.mono HL11.out.bel.size)⟩
theorem walk (PS : Poly.Spec) (Z : Wl.Spec) (w : World) (n0 : Int) (hl0 : -9223372036854775808 ≤ n0) (_hn0 : n0 < 9223372036854775808) (n1 : Int) (_hl1 : -9223372036854775808 ≤ n1) (_hn1 : n1 < 9223372036854775808) (n2 : Int) (_hl2 : -9223372036854775808 ≤ n2) (hn2 : n2 < 9223372036854775808) (A3 : Option Addr) (l3 : List Nat) (c3 : Nat) (hb3 : Bytes w A3 l3) (_ : l3.length ≤ c3) (_ : c3 ≤ 9223372036854775807) (n4 : Nat) (hn4 : n4 < 256) (n5 : Nat) (hn5 : n5 < 256) :
  Calls Tryz.prog 9 #[.int .i64 n0, .int .i64 n1, .int .i64 n2, .slice A3 l3.length c3, .int .u8 (n4 : Nat), .int .u8 (n5 : Nat)] w fun e w' => e = .returned (.bool true) ∧ Below w.heap.size w w' := by
 obtain ⟨q, rfl⟩ := F8.of_bytes l3 hb3.lt
 obtain ⟨bb, rfl⟩ := F8.of_byte n5 hn5
 exact core PS Z w n0 n1 n2 hl0 hn2 A3 q _ c3 (bs_length q).symm hb3 n4 hn4 bb
end Go.Proofs.YtofihklinkpbiaaGreat.localNear

namespace Go.Proofs.YtofihklinkpbiaaGreat.localNear
open Go.ChangeShapes Go.WideShapes Go.ChangeAt Go.RowKit
open Go.ChangeMaps (open_string shut_string)
set_option linter.unusedVariables false
theorem own : ownKnob Tryz.prog.godebug = none := by kernel_rfl
theorem laidOut : laidOutB Tryz.prog = true := by kernel_rfl

set_option maxRecDepth 100000 in
theorem contract (H : Type) (enc : TypeId × Value → H) (W : World) (base : Nat) (args : Array Value) (ds gs : List (DataW H)) (before : List MemPlace)
  (hval : ∀ (j : Nat) t v, Tryz.f9.params[j]? = some t → args[j]? = some v → Value.okWide Tryz.prog W .any base t v)
  (hW : DataW.Whole enc Tryz.prog Tryz.f9.params.toList Rows.localNearSpec.vars false W args.toList ds gs before)
  (hsz : (DataW.weightsEach Tryz.prog (Tryz.f9.params.toList ++ Rows.localNearSpec.plain.varTypes Tryz.prog) (ds ++ gs)).all (· ≤ reachBytes) = true) :
  Calls Tryz.prog 9 args W fun e W' => ∃ v, e = .returned v ∧ Rows.localNearSpec.post enc Tryz.prog Tryz.f9 false true false false W args v W' := by
 have hW' := hW
 obtain ⟨p, q, hA0, hV, rfl, hfz, hnd⟩ := hW
 have hA : DataW.TrodAll enc Tryz.prog W 0 (fun _ => true) true Tryz.f9.params.toList args.toList ds p := hA0
 rw [Tryz.params9] at hA hval hsz
 obtain ⟨v0, vs0, d0, ds0, p0, q0, hargs, rfl, rfl, h0, r0⟩ := trodAll_cons hA
 obtain ⟨v1, vs1, d1, ds1, p1, q1, rfl, rfl, rfl, h1, r1⟩ := trodAll_cons r0
 obtain ⟨v2, vs2, d2, ds2, p2, q2, rfl, rfl, rfl, h2, r2⟩ := trodAll_cons r1
 obtain ⟨v3, vs3, d3, ds3, p3, q3, rfl, rfl, rfl, h3, r3⟩ := trodAll_cons r2
 obtain ⟨v4, vs4, d4, ds4, p4, q4, rfl, rfl, rfl, h4, r4⟩ := trodAll_cons r3
 obtain ⟨v5, vs5, d5, ds5, p5, q5, rfl, rfl, rfl, h5, r5⟩ := trodAll_cons r4
 obtain ⟨rfl, rfl, rfl⟩ := trodAll_nil r5
 obtain rfl : args = #[v0, v1, v2, v3, v4, v5] := by cases args; simp_all
 obtain ⟨rfl, rfl⟩ := trodVars_none hV
 obtain ⟨n0, rfl, rfl, rfl, w0⟩ := open_int Tryz.underlying3 (hval 0 3 v0 rfl rfl) h0
 have b0 := wf_bounds_i64 w0
 obtain ⟨n1, rfl, rfl, rfl, w1⟩ := open_int Tryz.underlying3 (hval 1 3 v1 rfl rfl) h1
 have b1 := wf_bounds_i64 w1
 obtain ⟨n2, rfl, rfl, rfl, w2⟩ := open_int Tryz.underlying3 (hval 2 3 v2 rfl rfl) h2
 have b2 := wf_bounds_i64 w2
 obtain ⟨A3, len3, c3, rfl⟩ := okWide_slice Tryz.underlying22 (hval 3 22 v3 rfl rfl)
 have k3 := h3
 have lt3 : ∀ x ∈ p3, x.block < W.heap.size := by obtain ⟨m, hm⟩ := k3; exact DataW.trod_lt m _ _ _ hm
 obtain ⟨l3, rfl, hb3, hc3, hm3⟩ : ∃ l : List Nat, len3 = l.length ∧ Bytes W A3 l ∧ l.length ≤ c3 ∧ c3 ≤ 9223372036854775807 := by
  obtain ⟨fuel, hf⟩ := h3
  rcases open_ints Tryz.underlying22 Tryz.underlying5 (by kernel_rfl) hf with ⟨hcs, _⟩ | ⟨x, l, c, zs, hcs, _, hl, hm, hz, _, hcell, hwz⟩
  ·simp [Value.cells] at hcs
   obtain ⟨rfl, rfl, rfl⟩ := hcs
   exact ⟨[], rfl, Bytes.nil _ _, by simp, by simp⟩
  ·simp [Value.cells] at hcs
   obtain ⟨rfl, rfl, rfl⟩ := hcs
   obtain ⟨h1, h2⟩ := bytes_of hl (by simpa using hz) hcell hwz
   exact ⟨_, h2.symm, h1, by rw [h2]; exact hl, by have h := hm; simp only [maxLen] at h; omega⟩
 obtain ⟨a4, rfl, rfl, rfl, w4⟩ := open_int Tryz.underlying5 (hval 4 5 v4 rfl rfl) h4
 have b4 := wf_bounds_u8 w4
 obtain ⟨n4, rfl⟩ := Int.eq_ofNat_of_zero_le b4.1
 have hn4 : n4 < 256 := by omega
 obtain ⟨a5, rfl, rfl, rfl, w5⟩ := open_int Tryz.underlying5 (hval 5 5 v5 rfl rfl) h5
 have b5 := wf_bounds_u8 w5
 obtain ⟨n5, rfl⟩ := Int.eq_ofNat_of_zero_le b5.1
 have hn5 : n5 < 256 := by omega
 clear hA0
 refine (walk Poly.spec (Wl.spec Poly.spec) W n0 b0.1 b0.2 n1 b1.1 b1.2 n2 b2.1 b2.2 A3 l3 c3 hb3 hc3 hm3 n4 hn4 n5 hn5 ).mono fun e W' ⟨he, bel⟩ => ?_
 subst he
 exact ⟨_, rfl, _, _, _, [], _, [], hW', trodAll_mk1 (shut_bool Tryz.underlying4 _), (trodAll_cons_mk (shut_int Tryz.underlying3 w0) (trodAll_cons_mk (shut_int Tryz.underlying3 w1) (trodAll_cons_mk (shut_int Tryz.underlying3 w2) (trodAll_cons_mk (Below.trod laidOut (by kernel_rfl) (of_decide_eq_true (by kernel_rfl)) k3 bel lt3) (trodAll_cons_mk (shut_int Tryz.underlying5 w4) (trodAll_cons_mk (shut_int Tryz.underlying5 w5) trodAll_mk0)))))), rfl, bel.frame _, fun h => by cases h⟩

set_option maxRecDepth 100000 in
theorem lifted (os : Os) (started : os.Started) (H : Type) (enc : TypeId × Value → H) :
  ReturnsInHanded {} Tryz.checked os 9 .any (Rows.localNearSpec.pre6 enc Tryz.prog Tryz.f9 Rows.localNearRow.domain false) (Rows.localNearSpec.post enc Tryz.prog Tryz.f9 false true false false) := by
 refine returnsInHanded_of_change_sized (C := Tryz.checked) own started (by kernel_rfl) Tryz.func9
  (ChangeSpec.witness6 (enc := enc) (C := Tryz.checked) false ⟨#[], #[.int .i64 0, .int .i64 0, .int .i64 0, .slice none 0 0, .int .u8 0, .int .u8 0], []⟩ 8 (by kernel_rfl) (by kernel_rfl) (by kernel_rfl) (by kernel_rfl)) ?_
 intro W base args ds gs before hval hW _ hsz _
 exact contract H enc W base args ds gs before hval hW hsz


theorem proved : Rows.LocalNearSaid :=
 OpenClaim.holds_of_wide 9 Tryz.f9 rfl rfl rfl rfl rfl rfl rfl ⟨rfl, rfl, rfl, rfl, rfl⟩ rfl rfl rfl rfl rfl (by kernel_rfl) Tryz.func9 (by kernel_rfl)
  (of_decide_eq_true (by kernel_rfl)) (by unfold Func.isWrapper; first | (rw [if_pos (by decide +kernel)]; kernel_rfl) | (rw [if_neg (by decide +kernel)]; exact ⟨rfl, rfl⟩))
  (fun os started H enc _ => lifted os started H enc)
end Go.Proofs.YtofihklinkpbiaaGreat.localNear
