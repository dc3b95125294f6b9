/- Of the program, joined: PtGroup, PtOps, PtUnlike, RdMath2, WlMath, WlMath2, WlMath3, ElMath. -/
import Derived.Test.YtofihklinkpbiaaGreatPl03
import Derived.Test.YtofihklinkpbiaaGreatPl04
import Derived.Test.YtofihklinkpbiaaGreatPl05
namespace Go.Proofs.YtofihklinkpbiaaGreat.Pt
open Go.RowKit Go.Shelf Poly GF
attribute [local go_sem] Oper.semAt_some
def gidx (s t k : Nat) : Nat := k / s + k % s * t
def gpts (s t G : Nat) : List Nat := (List.range (G * s)).map fun k => gp (gidx s t k)
theorem gpts_length (s t G : Nat) : (gpts s t G).length = G * s := by simp [gpts]
theorem gpts_at {s t G c e : Nat} (hc : c < G) (he : e < s) : (bv (gpts s t G))[c * s + e]? = some (.int .u8 (gp (c + e * t) : Nat)) := by
 have h1 : c * s + e < G * s := by
  have : (c + 1) * s ≤ G * s := Nat.mul_le_mul_right s (by omega)
  rw [Nat.add_mul] at this; omega
 have hg : gidx s t (c * s + e) = c + e * t := by
  unfold gidx
  rw [Nat.add_comm (c * s) e, Nat.add_mul_div_right _ _ (by omega), Nat.div_eq_of_lt he, Nat.add_mul_mod_self_right, Nat.mod_eq_of_lt he, Nat.zero_add]
 simp only [bv, gpts, List.getElem?_map, List.getElem?_range h1, Option.map_some, hg]
structure Grp (b1 b2 b3 b4 g G s t : Nat) (W : World) : Prop where
 c1 : Block W b1 3 #[.int .i64 (G : Nat)]
 c2 : Block W b2 3 #[.int .i64 (s : Nat)]
 c3 : Block W b3 30 #[.pointer (some ⟨g, 0, none⟩)]
 c4 : Block W b4 3 #[.int .i64 (t : Nat)]
 fld : Fld W g
theorem fld_ne {W : World} {g b : Nat} {t : TypeId} {u : Value} (h : Fld W g) (hb : Block W b t #[u]) : b ≠ g := fun e => by
 subst e
 rcases h with hf | hf
 all_goals
  have h1 := hb.cell 1
  rw [hf.cell 1, fcells_get _ _ _ _ (by decide)] at h1
  simp at h1
theorem fld_far {W : World} {g : Nat} {p : Addr} (h : Fld W g) (hp : g ≠ p.block) (u : Value) : Fld (W.setCell p u) g := h.imp (fun h => h.far hp u) (fun h => h.far hp u)
theorem block_last (W : World) (p : Addr) (u : Value) (t : TypeId) (cs : Array Value) : Block ((W.setCell p u).alloc (.cells cs t)) W.heap.size t cs := by
 have h := Block.new (W.setCell p u) t cs
 rwa [show (W.setCell p u).heap.size = W.heap.size by simp [World.setCell]] at h
theorem Grp.ne {b1 b2 b3 b4 g G s t : Nat} {W : World} (h : Grp b1 b2 b3 b4 g G s t W) : b1 ≠ g ∧ b2 ≠ g ∧ b3 ≠ g ∧ b4 ≠ g := by
 exact ⟨fld_ne h.fld h.c1, fld_ne h.fld h.c2, fld_ne h.fld h.c3, fld_ne h.fld h.c4⟩
theorem Grp.past {b1 b2 b3 b4 g G s t : Nat} {W W' : World} (h : Grp b1 b2 b3 b4 g G s t W) (hp : Past W.heap.size g W W') (hf : Fld W' g) : Grp b1 b2 b3 b4 g G s t W' :=
 have n := h.ne
 ⟨h.c1.past hp h.c1.lt n.1, h.c2.past hp h.c2.lt n.2.1, h.c3.past hp h.c3.lt n.2.2.1, h.c4.past hp h.c4.lt n.2.2.2, hf⟩
theorem Grp.below {b1 b2 b3 b4 g G s t B : Nat} {W W' : World} (h : Grp b1 b2 b3 b4 g G s t W) (hp : Below B W W') (h1 : b1 < B) (h2 : b2 < B) (h3 : b3 < B) (h4 : b4 < B) (h5 : g < B) : Grp b1 b2 b3 b4 g G s t W' :=
 ⟨h.c1.below hp h1, h.c2.below hp h2, h.c3.below hp h3, h.c4.below hp h4, h.fld.below hp h5⟩
set_option maxRecDepth 100000 in
set_option maxHeartbeats 2000000 in
theorem grouped_visits (b1 b2 b3 b4 g G s t : Nat) (hG : G ≤ 1000) (hs : s ≤ 1000) (ht : t ≤ 1000) :
  Visits 165 #[.pointer (some ⟨b1, 0, none⟩), .pointer (some ⟨b2, 0, none⟩), .pointer (some ⟨b3, 0, none⟩), .pointer (some ⟨b4, 0, none⟩)] g (Grp b1 b2 b3 b4 g G s t) (bv (gpts s t G)) := by
 intro n hn l J Jx hJ hT hY W h0
 rw [bv_length, gpts_length]
 refine callsIn_of_wp Tryz.func165 rfl trivial ?_ rfl
 simp only [Tryz.ntmps165, List.size_toArray, List.length_cons, List.length_nil, Nat.reduceAdd, Nat.reduceSub, Array.replicate_succ, Array.replicate_zero, List.push_toArray, List.append_toArray, List.nil_append, List.cons_append]
 have hb0 := (hJ _ _ h0).c1.cell 0
 gi_wp2
 gi_loopw [9] (fun i wr => ∃ c : Nat, c ≤ G ∧ i = .int .i64 c ∧ J (c * s) wr) (fun i _ => G - (intOf i).toNat)
 case atStart => exact ⟨0, Nat.zero_le _, rfl, by rw [Nat.zero_mul]; exact h0⟩
 case round =>
  obtain ⟨c, hc, rfl, hj⟩ := hrel
  by_cases hcG : c < G
  ·have hb1 := (hJ _ _ hj).c2.cell 0
   gi_wp2
   gi_loopw [13] (fun i wr2 => ∃ e : Nat, e ≤ s ∧ i = .int .i64 e ∧ J (c * s + e) wr2) (fun i _ => s - (intOf i).toNat)
   case atStart => exact ⟨0, Nat.zero_le _, rfl, hj⟩
   case round =>
    obtain ⟨e, he, rfl, hj2⟩ := hrel
    by_cases hes : e < s
    ·have hK := hJ _ _ hj2
     have d3 := hK.c3.cell 0
     have d4 := hK.c4.cell 0
     obtain ⟨p, hp⟩ : ∃ p, e * t = p := ⟨_, rfl⟩
     have hpt : (e : Int) * (t : Int) = (p : Int) := by rw [← hp]; simp
     have hpb : p ≤ 1000000 := by rw [← hp]; exact Nat.mul_le_mul (show e ≤ 1000 by omega) ht
     have hv := gpts_at (t := t) hcG hes
     rw [hp] at hv
     have HG : Hid (ge ((c : Int) + (p : Int)) = gp (c + p)) := Lib.hid (by rw [← ge_nat, Int.natCast_add])
     clear hp
     gi_wp2_with fail
     refine ⟨trivial, (callsIn_wide.2 (exp_calls (some ⟨g, 0, none⟩) ((c : Int) + (p : Int)) (by omega) (by omega) _ (FldP.of hK.fld))).mono ?_⟩
     rintro ee W2 ⟨rfl, hf2, hP2⟩
     rw [HG.out]
     clear hpt
     have hj3 := hT _ _ _ hj2 hP2 (hK.past hP2 hf2.fld)
     obtain ⟨fn, tmps, assign, body, hy, hR⟩ := hY _ _ _ hv hj3
     gi_wp2
     refine hR.mono ?_
     rintro ee W3 (⟨rfl, hJ3⟩ | ⟨rfl, hJx3⟩)
     ·gi_wp2
      go_roundw
      case rel => exact ⟨e + 1, by omega, by go_num, hJ3⟩
      case measure => simp [intOf]; omega
     ·gi_wp2
      refine bodyPost_ret (results_none rfl _ _ _) rfl ?_
      exact ⟨⟨_, rfl⟩, .inr hJx3⟩
    ·obtain rfl : e = s := by omega
     rw [show c * e + e = (c + 1) * e by rw [Nat.add_mul, Nat.one_mul]] at hj2
     gi_wp2
     go_roundw
     case rel => exact ⟨c + 1, by omega, by go_num, hj2⟩
     case measure => simp [intOf]; omega
  ·obtain rfl : c = G := by omega
   gi_wp2
   go_end0
   exact ⟨⟨_, rfl⟩, .inl hj⟩
def NewF (pf : Option Addr) (w : World) (e : Ending) (w' : World) : Prop :=
 ∃ g, e = .returned (.pointer (some ⟨g, 0, none⟩)) ∧ ((pf = none ∧ w.heap.size ≤ g) ∨ pf = some ⟨g, 0, none⟩) ∧ Fld w' g ∧ Below w.heap.size w w'
theorem orNew_p (pf : Option Addr) (w : World) (hf : FldP w pf) : Calls Tryz.prog 164 #[.pointer pf] w (NewF pf w) := by
 rcases hf with rfl | ⟨g, rfl, hg⟩
 ·go_enter Tryz.func164, Tryz.ntmps164
  go_wp2_with (go_at_call 15; refine (new_calls _).mono ?_; rintro e w' ⟨rfl, rfl⟩)
  go_ret
  exact ⟨w.heap.size, rfl, .inl ⟨rfl, Nat.le_refl _⟩, Fld.new w, (Below.refl _ _).alloc (Nat.le_refl _) _⟩
 ·go_enter Tryz.func164, Tryz.ntmps164
  go_wp2
  go_ret
  exact ⟨g, rfl, .inr rfl, hg, Below.refl _ _⟩
set_option maxRecDepth 100000 in
set_option maxHeartbeats 2000000 in
theorem grouped_calls (pf : Option Addr) (s G : Nat) (hs : 1 ≤ s) (hs2 : s ≤ 255) (w : World) (hf : FldP w pf) :
  Calls Tryz.prog 123 #[.pointer pf, .int .i64 s, .int .i64 G] w fun e w' => ∃ g b1 b2 b3 b4,
   e = .returned (.func (.func 165) #[] #[.pointer (some ⟨b1, 0, none⟩), .pointer (some ⟨b2, 0, none⟩), .pointer (some ⟨b3, 0, none⟩), .pointer (some ⟨b4, 0, none⟩)]) ∧
   Grp b1 b2 b3 b4 g G s (255 / s) w' ∧ ((pf = none ∧ w.heap.size ≤ g) ∨ pf = some ⟨g, 0, none⟩) ∧ Below w.heap.size w w' := by
 have hq : (255 : Int).tdiv (s : Int) = ((255 / s : Nat) : Int) := by rw [Int.tdiv_eq_ediv_of_nonneg (by decide)]; simp
 have hq2 : 255 / s ≤ 255 := Nat.div_le_self _ _
 obtain ⟨t, ht⟩ : ∃ t, 255 / s = t := ⟨_, rfl⟩
 rw [ht] at hq hq2 ⊢
 clear ht
 have hne : (s : Int) ≠ 0 := by omega
 go_enter Tryz.func123, Tryz.ntmps123
 have hB0 := (((Below.refl w.heap.size w).alloc (Nat.le_refl _) (.cells #[Value.pointer pf] 30)).alloc (by simp) (.cells #[Value.int .i64 s] 3)).alloc (by simp; omega) (.cells #[Value.int .i64 G] 3)
 have e1 := ((Block.new w 30 #[Value.pointer pf]).alloc (.cells #[Value.int .i64 s] 3)).alloc (.cells #[Value.int .i64 G] 3)
 have e2 := (Block.new (w.alloc (.cells #[Value.pointer pf] 30)) 3 #[Value.int .i64 s]).alloc (.cells #[Value.int .i64 G] 3)
 have e3 := Block.new ((w.alloc (.cells #[Value.pointer pf] 30)).alloc (.cells #[Value.int .i64 s] 3)) 3 #[Value.int .i64 G]
 simp only [World.size_alloc] at e2 e3
 go_wp2_with (go_at_call 164; refine (orNew_p pf _ (hf.below hB0)).mono ?_; rintro e w1 ⟨g, rfl, hg, hF, hB⟩; replace e1 := e1.below hB e1.lt; replace e2 := e2.below hB e2.lt; replace e3 := e3.below hB e3.lt; have c1 := e1.cell 0; have f1 := e1.frozen 0; have c2 := e2.cell 0; have f2 := e2.frozen 0; have c3 := e3.cell 0)
 go_ret
 have hg0 : w.heap.size ≠ g := fld_ne hF e1
 have hsz := hB.size
 simp only [World.size_alloc] at hsz hg
 refine ⟨g, _, _, _, _, rfl, ⟨(e3.far (by simp; omega) _).alloc _, (e2.far (by simp) _).alloc _, (e1.set_ 0 _).alloc _, block_last _ _ _ _ _, (fld_far hF (by simp; omega) _).alloc _⟩, hg.imp (fun h => ⟨h.1, by omega⟩) id, ?_⟩
 exact ((hB0.trans (hB.mono (by simp; omega))).setCell (p := ⟨w.heap.size, 0, none⟩) (Nat.le_refl _) _).alloc (by simp [World.setCell]; omega) _
def othersL (a q r : Nat) : List Nat := (List.range r).map fun k => if k < q then a + k else a + k + 1
def oi (q e : Nat) : Nat := if e ≤ q then e else e - 1
theorem othersL_at {a q r e : Nat} (he : e < r + 1) (hne : e ≠ q) (hq : q < r + 1) : (nv (othersL a q r))[oi q e]? = some (.int .i64 ((a : Int) + (e : Int))) := by
 have hlt : oi q e < r := by unfold oi; split <;> omega
 simp only [nv, othersL, List.getElem?_map, List.getElem?_range hlt, Option.map_some, Option.some.injEq, Value.int.injEq, true_and]
 unfold oi
 split
 ·rw [if_pos (by omega)]; omega
 ·rw [if_neg (by omega)]; omega
structure Oth (b1 b2 b3 n a i : Nat) (W : World) : Prop where
 c1 : Block W b1 3 #[.int .i64 (n : Nat)]
 c2 : Block W b2 3 #[.int .i64 (a : Nat)]
 c3 : Block W b3 3 #[.int .i64 (i : Nat)]
theorem Oth.below {b1 b2 b3 n a i B : Nat} {W W' : World} (h : Oth b1 b2 b3 n a i W) (hp : Below B W W') (h1 : b1 < B) (h2 : b2 < B) (h3 : b3 < B) : Oth b1 b2 b3 n a i W' :=
 ⟨h.c1.below hp h1, h.c2.below hp h2, h.c3.below hp h3⟩
set_option maxRecDepth 100000 in
set_option maxHeartbeats 2000000 in
theorem others_visits (b1 b2 b3 g a q r : Nat) (ha : a ≤ 1099511627776) (hr : r ≤ 1000) (hq : q < r + 1) :
  Visits 166 #[.pointer (some ⟨b1, 0, none⟩), .pointer (some ⟨b2, 0, none⟩), .pointer (some ⟨b3, 0, none⟩)] g (Oth b1 b2 b3 (r + 1) a (a + q)) (nv (othersL a q r)) := by
 intro n hn l J Jx hJ hT hY W h0
 have hlen : (nv (othersL a q r)).length = oi q (r + 1) := by unfold oi othersL; rw [if_neg (by omega)]; simp [nv]
 rw [hlen]
 refine callsIn_of_wp Tryz.func166 rfl trivial ?_ rfl
 simp only [Tryz.ntmps166, List.size_toArray, List.length_cons, List.length_nil, Nat.reduceAdd, Nat.reduceSub, Array.replicate_succ, Array.replicate_zero, List.push_toArray, List.append_toArray, List.nil_append, List.cons_append]
 have hb0 := (hJ _ _ h0).c1.cell 0
 gi_wp2
 gi_loopw [7] (fun i wr => ∃ e : Nat, e ≤ r + 1 ∧ i = .int .i64 e ∧ J (oi q e) wr) (fun i _ => r + 1 - (intOf i).toNat)
 case atStart => exact ⟨0, Nat.zero_le _, rfl, h0⟩
 case round =>
  obtain ⟨e, he, rfl, hj⟩ := hrel
  by_cases hlt : e < r + 1
  ·have hK := hJ _ _ hj
   have d2 := hK.c2.cell 0
   have d3 := hK.c3.cell 0
   by_cases hne : e = q
   ·subst hne
    have hnext : oi e (e + 1) = oi e e := by unfold oi; rw [if_neg (by omega), if_pos (by omega)]; omega
    rw [← hnext] at hj
    gi_wp2
    refine ⟨fun _ h => (by cases h), ?_⟩
    gi_wp2
    go_roundw
    case rel => exact ⟨e + 1, by omega, by go_num, hj⟩
    case measure => simp [intOf]; omega
   ·have hnext : oi q (e + 1) = oi q e + 1 := by unfold oi; split <;> split <;> omega
    obtain ⟨fn, tmps, assign, body, hy, hR⟩ := hY _ _ _ (othersL_at (a := a) hlt hne hq) hj
    gi_wp2
    refine hR.mono ?_
    rintro ee W3 (⟨rfl, hJ3⟩ | ⟨rfl, hJx3⟩)
    ·rw [← hnext] at hJ3
     gi_wp2
     go_roundw
     case rel => exact ⟨e + 1, by omega, by go_num, hJ3⟩
     case measure => simp [intOf]; omega
    ·gi_wp2
     refine bodyPost_ret (results_none rfl _ _ _) rfl ?_
     exact ⟨⟨_, rfl⟩, .inr hJx3⟩
  ·obtain rfl : e = r + 1 := by omega
   gi_wp2
   go_end0
   exact ⟨⟨_, rfl⟩, .inl hj⟩
end Go.Proofs.YtofihklinkpbiaaGreat.Pt

namespace Go.Proofs.YtofihklinkpbiaaGreat.Pt
open Go.RowKit Go.Shelf Poly GF
attribute [local go_sem] Oper.semAt_some
set_option maxRecDepth 100000 in
set_option maxHeartbeats 2000000 in
theorem others_calls (s i a q : Nat) (hs : 2 ≤ s) (hs2 : s ≤ 256) (hi : i ≤ 1099511627776) (ha : i / s * s = a) (hq : i % s = q) (w : World) :
  Calls Tryz.prog 125 #[.int .i64 s, .int .i64 i] w fun e w' => ∃ b1 b2 b3,
   e = .returned (.func (.func 166) #[] #[.pointer (some ⟨b1, 0, none⟩), .pointer (some ⟨b2, 0, none⟩), .pointer (some ⟨b3, 0, none⟩)]) ∧
   Oth b1 b2 b3 s a i w' ∧ w.heap.size ≤ b3 ∧ Below w.heap.size w w' := by
 have hm : (i : Int).tmod (s : Int) = (q : Int) := by rw [← hq, Int.tmod_eq_emod_of_nonneg (by omega)]; simp
 have hai : (i : Int) - (q : Int) = (a : Int) := by
  have h1 := Nat.div_add_mod i s
  rw [Nat.mul_comm, ha, hq] at h1
  omega
 have hale : a ≤ i := by omega
 have hqle : q ≤ i := by omega
 have hne : (s : Int) ≠ 0 := by omega
 clear ha hq
 have hle : (s : Int) - 1 ≤ 9223372036854775807 - (a : Int) := by omega
 have e1 := Block.new w 3 #[Value.int .i64 i]
 have d1 := e1.cell 0
 go_enter Tryz.func125, Tryz.ntmps125
 go_wp2
 go_region
 have e2 := (Block.new (w.alloc (.cells #[Value.int .i64 i] 3)) 3 #[Value.int .i64 a]).drew
 rw [World.size_alloc] at e2
 have e3 := (e1.alloc (.cells #[Value.int .i64 a] 3)).drew
 have hB := (((Below.refl w.heap.size w).alloc (Nat.le_refl _) (.cells #[Value.int .i64 i] 3)).alloc (by simp) (.cells #[Value.int .i64 a] 3)).drew
 have hsz : (((w.alloc (.cells #[Value.int .i64 i] 3)).alloc (.cells #[Value.int .i64 a] 3)).drew).heap.size = w.heap.size + 2 := by simp
 generalize ((w.alloc (.cells #[Value.int .i64 i] 3)).alloc (.cells #[Value.int .i64 a] 3)).drew = w2 at e2 e3 hB hsz ⊢
 clear d1 e1
 have d2 := e2.cell 0
 have d3 := e3.cell 0
 have hle2 : ¬ (9223372036854775807 - (a : Int) < (s : Int) - 1) := by omega
 go_wp2
 go_ret
 have e4 := Block.new w2 3 #[Value.int .i64 s]
 rw [hsz] at e4
 exact ⟨_, _, _, rfl, ⟨e4, e2.alloc _, e3.alloc _⟩, Nat.le_refl _, hB.alloc (by omega) _⟩
def Pts (pf : Option Addr) (w : World) (r : List Nat × Int) (e : Ending) (w' : World) : Prop :=
 ∃ v, e = .returned (.tuple #[v, .int .i64 r.2]) ∧ Own w' w.heap.size 5 v (bv r.1) ∧ FldP w' pf ∧ Past w.heap.size (rb w pf) w w'
theorem Pts.bad {pf : Option Addr} {w w' : World} (hf : FldP w' pf) (hP : Past w.heap.size (rb w pf) w w') : Pts pf w ([], 2) (.returned (.tuple #[.slice none 0 0, .int .i64 2])) w' :=
 ⟨_, rfl, Own.nil _ _ _, hf, hP⟩
theorem grp_list (pf : Option Addr) (s G : Nat) (hs : 1 ≤ s) (hs2 : s ≤ 255) (hG : G ≤ 255) (hl : G * s ≤ 255) {w w1 : World} {g b1 b2 b3 b4 : Nat} (hf : FldP w pf)
  (hK : Grp b1 b2 b3 b4 g G s (255 / s) w1) (hg : (pf = none ∧ w.heap.size ≤ g) ∨ pf = some ⟨g, 0, none⟩) (hB : Below w.heap.size w w1) :
  Calls Tryz.prog 122 #[.func (.func 165) #[] #[.pointer (some ⟨b1, 0, none⟩), .pointer (some ⟨b2, 0, none⟩), .pointer (some ⟨b3, 0, none⟩), .pointer (some ⟨b4, 0, none⟩)]] w1 fun e w' =>
   ∃ v, e = .returned v ∧ Own w' w.heap.size 5 v (bv (gpts s (255 / s) G)) ∧ FldP w' pf ∧ Past w.heap.size (rb w pf) w w' := by
 have hd : 255 / s ≤ 255 := Nat.div_le_self _ _
 have hsz := hB.size
 refine (listB_calls _ g _ (Grp b1 b2 b3 b4 g G s (255 / s)) _ (by rw [gpts_length]; omega) w1 (grouped_visits b1 b2 b3 b4 g G s (255 / s) (by omega) (by omega) (by omega)) (fun _ _ => by kernel_rfl) hK.fld.lt
  (fun W W' h hb => h.below hb hK.c1.lt hK.c2.lt hK.c3.lt hK.c4.lt hK.fld.lt) hK).mono ?_
 rintro e w' ⟨v, rfl, hO, hP, hK2⟩
 refine ⟨v, rfl, hO.more hsz, ?_⟩
 rcases hg with ⟨rfl, hg⟩ | rfl
 ·exact ⟨.inl rfl, Past.of_below (hB.trans ((hP.mono hsz).below hg)) _⟩
 ·exact ⟨FldP.of hK2.fld, (Past.of_below hB _).trans (hP.mono hsz)⟩
def cosetsR (r G : Int) : List Nat × Int := if 1 ≤ r ∧ r ≤ 254 ∧ 255 % (r + 1) = 0 ∧ 0 ≤ G ∧ G ≤ 255 / (r + 1) then (gpts (r.toNat + 1) (255 / (r.toNat + 1)) G.toNat, 0) else ([], 2)
theorem rem_big {x : Int} (h : 255 < x ∨ x < -255) : (255 : Int).tmod x = 255 := by
 rcases h with h | h
 ·rw [Int.tmod_eq_emod_of_nonneg (by decide), Int.emod_eq_of_lt (by decide) h]
 ·rw [← Int.tmod_neg, Int.tmod_eq_emod_of_nonneg (by decide), Int.emod_eq_of_lt (by decide) (by omega)]
set_option maxRecDepth 100000 in
set_option maxHeartbeats 2000000 in
theorem cosets_calls (pf : Option Addr) (r G : Int) (hr : r < 9223372036854775808) (w : World) (hf : FldP w pf) : Calls Tryz.prog 63 #[.pointer pf, .int .i64 r, .int .i64 G] w (Pts pf w (cosetsR r G)) := by
 by_cases h0 : r < 1
 ·have e1 : cosetsR r G = ([], 2) := if_neg (by omega)
  rw [e1]
  go_enter Tryz.func63, Tryz.ntmps63
  go_wp2
  go_ret2
  exact Pts.bad hf (Past.refl _ _ _)
 by_cases h1 : r = 9223372036854775807
 ·have e1 : cosetsR r G = ([], 2) := if_neg (by omega)
  rw [e1]
  subst h1
  have h3 : wrap64 9223372036854775808 = -9223372036854775808 := by decide +kernel
  have h4 : (255 : Int) % (-9223372036854775808) = 255 := by decide
  have h5 : (255 : Int).tmod (-9223372036854775808) = 255 := by decide
  go_enter Tryz.func63, Tryz.ntmps63
  go_wp2
  go_ret2
  exact Pts.bad hf (Past.refl _ _ _)
 by_cases h2 : 254 < r
 ·have e1 : cosetsR r G = ([], 2) := if_neg (by omega)
  rw [e1]
  have h3 := rem_big (x := r + 1) (.inl (by omega))
  have h4 : ¬ (r + 1 = 0) := by omega
  go_enter Tryz.func63, Tryz.ntmps63
  go_wp2
  go_ret2
  exact Pts.bad hf (Past.refl _ _ _)
 obtain ⟨m, rfl⟩ : ∃ m : Nat, r = (m : Int) := ⟨r.toNat, by omega⟩
 obtain ⟨s, hs⟩ : ∃ s : Nat, m + 1 = s := ⟨_, rfl⟩
 have hs1 : (m : Int) + 1 = (s : Int) := by omega
 have hsn : ¬ ((s : Int) = 0) := by omega
 have hmod : (255 : Int).tmod (s : Int) = ((255 % s : Nat) : Int) := by rw [Int.tmod_eq_emod_of_nonneg (by decide)]; simp
 have hmod2 : (255 : Int) % (s : Int) = ((255 % s : Nat) : Int) := by simp
 have hdiv : (255 : Int).tdiv (s : Int) = ((255 / s : Nat) : Int) := by rw [Int.tdiv_eq_ediv_of_nonneg (by decide)]; simp
 have hdiv2 : (255 : Int) / (s : Int) = ((255 / s : Nat) : Int) := by simp
 have hR : cosetsR (m : Int) G = if 255 % s = 0 ∧ 0 ≤ G ∧ G ≤ ((255 / s : Nat) : Int) then (gpts s (255 / s) G.toNat, 0) else ([], 2) := by
  unfold cosetsR
  rw [hs1, hmod2, hdiv2, Int.toNat_natCast, hs]
  by_cases h : 255 % s = 0 ∧ 0 ≤ G ∧ G ≤ ((255 / s : Nat) : Int)
  ·rw [if_pos h, if_pos (by omega)]
  ·rw [if_neg h, if_neg (by omega)]
 have hdle : 255 / s ≤ 255 := Nat.div_le_self _ _
 have hmle : 255 % s ≤ 255 := Nat.mod_le _ _
 have hprod : 255 / s * s ≤ 255 := Nat.div_mul_le_self _ _
 rw [hR]
 clear hR hmod2 hdiv2
 obtain ⟨t, ht⟩ : ∃ t, 255 / s = t := ⟨_, rfl⟩
 obtain ⟨q, hq⟩ : ∃ q, 255 % s = q := ⟨_, rfl⟩
 have HT := Lib.hid ht
 rw [ht] at hdiv hdle hprod ⊢
 rw [hq] at hmod hmle ⊢
 clear ht hq
 by_cases h3 : q = 0
 ·subst h3
  by_cases h4 : G < 0
  ·rw [if_neg (by omega)]
   go_enter Tryz.func63, Tryz.ntmps63
   go_wp2
   go_ret2
   exact Pts.bad hf (Past.refl _ _ _)
  by_cases h5 : (t : Int) < G
  ·rw [if_neg (by omega)]
   go_enter Tryz.func63, Tryz.ntmps63
   go_wp2
   go_ret2
   exact Pts.bad hf (Past.refl _ _ _)
  obtain ⟨k, rfl⟩ : ∃ k : Nat, G = (k : Int) := ⟨G.toNat, by omega⟩
  rw [if_pos (by omega), Int.toNat_natCast]
  have hkt : k ≤ t := by omega
  have hks : k * s ≤ 255 := Nat.le_trans (Nat.mul_le_mul_right s hkt) hprod
  clear hkt hprod
  rw [← HT.out]
  go_enter Tryz.func63, Tryz.ntmps63
  go_wp2_with (go_at_call 123; refine (grouped_calls pf s k (by omega) (by omega) _ hf).mono ?_; rintro e w1 ⟨g, b1, b2, b3, b4, rfl, hK, hg, hB⟩)
  go_wp2_with (go_at_call 122; refine (grp_list pf s k (by omega) (by omega) (by omega) hks hf hK hg hB).mono ?_; rintro e w2 ⟨v, rfl, hO, hF, hP⟩)
  go_ret2
  exact ⟨v, rfl, hO, hF, hP⟩
 ·rw [if_neg (by omega)]
  have h6 : ¬ ((q : Int) = 0) := by omega
  go_enter Tryz.func63, Tryz.ntmps63
  go_wp2
  go_ret2
  exact Pts.bad hf (Past.refl _ _ _)
def groupR (r i : Int) : List Nat := if 1 ≤ r ∧ r ≤ 255 ∧ 0 ≤ i then othersL (i.toNat / (r.toNat + 1) * (r.toNat + 1)) (i.toNat % (r.toNat + 1)) r.toNat else []
def Nums (w : World) (l : List Nat) (e : Ending) (w' : World) : Prop := ∃ v, e = .returned v ∧ Own w' w.heap.size 3 v (nv l) ∧ Below w.heap.size w w'
set_option maxRecDepth 100000 in
set_option maxHeartbeats 2000000 in
theorem group_calls (r i : Int) (hi2 : i ≤ 1099511627776) (w : World) : Calls Tryz.prog 67 #[.int .i64 r, .int .i64 i] w (Nums w (groupR r i)) := by
 by_cases h : 1 ≤ r ∧ r ≤ 255 ∧ 0 ≤ i
 ·unfold groupR
  rw [if_pos h]
  obtain ⟨h1, h2, h3⟩ := h
  obtain ⟨m, rfl⟩ : ∃ m : Nat, r = (m : Int) := ⟨r.toNat, by omega⟩
  obtain ⟨k, rfl⟩ : ∃ k : Nat, i = (k : Int) := ⟨i.toNat, by omega⟩
  rw [Int.toNat_natCast, Int.toNat_natCast]
  obtain ⟨s, hs⟩ : ∃ s : Nat, m + 1 = s := ⟨_, rfl⟩
  have hs1 : (m : Int) + 1 = (s : Int) := by omega
  rw [hs]
  obtain ⟨a, ha⟩ : ∃ a, k / s * s = a := ⟨_, rfl⟩
  obtain ⟨q, hq⟩ : ∃ q, k % s = q := ⟨_, rfl⟩
  have hkq : k = a + q := by
   have h1 := Nat.div_add_mod k s
   rw [Nat.mul_comm, ha, hq] at h1
   omega
  have hqs : q < m + 1 := by rw [← hq, hs]; exact Nat.mod_lt _ (by omega)
  rw [ha, hq]
  have HO := others_calls s k a q (by omega) (by omega) (by omega) ha hq w
  have HKQ := Lib.hid hkq
  have HS := Lib.hid hs
  clear ha hq hkq hs
  go_enter Tryz.func67, Tryz.ntmps67
  go_wp2_with (go_at_call 125; refine HO.mono ?_; rintro e w1 ⟨b1, b2, b3, rfl, hK, hb3', hB⟩)
  have hsz := hB.size
  have hKs : Oth b1 b2 b3 (m + 1) a (a + q) w1 := by rw [HS.out, ← HKQ.out]; exact hK
  have hL := listI_calls _ b3 _ (Oth b1 b2 b3 (m + 1) a (a + q)) (othersL a q m) (by unfold othersL; rw [List.length_map, List.length_range]; omega) w1 (others_visits b1 b2 b3 b3 a q m (by have := HKQ.out; omega) (by omega) hqs) (fun _ _ => by kernel_rfl) hKs.c3.lt (fun W W' h hb => h.below hb hKs.c1.lt hKs.c2.lt hKs.c3.lt) hKs
  go_wp2_with (go_at_call 124; refine hL.mono ?_; rintro e w2 ⟨v, rfl, hO, hP, hK2⟩)
  have hb3 : w.heap.size ≤ b3 := hb3'
  go_ret
  exact ⟨_, rfl, hO.more hsz, hB.trans ((hP.mono hsz).below hb3)⟩
 ·have e1 : groupR r i = [] := if_neg h
  rw [e1]
  by_cases h0 : r < 1
  ·go_enter Tryz.func67, Tryz.ntmps67
   go_wp2
   go_ret
   exact ⟨_, rfl, Own.nil _ _ _, Below.refl _ _⟩
  by_cases h1 : 255 < r
  ·go_enter Tryz.func67, Tryz.ntmps67
   go_wp2
   go_ret
   exact ⟨_, rfl, Own.nil _ _ _, Below.refl _ _⟩
  have h2 : i < 0 := by omega
  go_enter Tryz.func67, Tryz.ntmps67
  go_wp2
  go_ret
  exact ⟨_, rfl, Own.nil _ _ _, Below.refl _ _⟩
end Go.Proofs.YtofihklinkpbiaaGreat.Pt

namespace Go.Proofs.YtofihklinkpbiaaGreat.Pt
open GF
section
variable {s t G : Nat} (hst : s * t = 255) (hG : G ≤ t)
include hst
theorem gidx_lt {k : Nat} (hG : G ≤ t) (hk : k < G * s) : gidx s t k < 255 := by
 have hs : 0 < s := by
  rcases Nat.eq_zero_or_pos s with h | h
  ·subst h; simp at hst
  ·exact h
 unfold gidx
 have h1 : k / s < G := (Nat.div_lt_iff_lt_mul hs).2 hk
 have h2 : k % s < s := Nat.mod_lt _ hs
 have h3 : k % s * t + t ≤ s * t := by
  have := Nat.mul_le_mul_right t (show k % s + 1 ≤ s by omega)
  rwa [Nat.add_mul, Nat.one_mul] at this
 omega
theorem gidx_inj {i k : Nat} (hG : G ≤ t) (hi : i < G * s) (hk : k < G * s) (h : gidx s t i = gidx s t k) : i = k := by
 have hs : 0 < s := by
  rcases Nat.eq_zero_or_pos s with h | h
  ·subst h; simp at hst
  ·exact h
 unfold gidx at h
 have h1 : i / s < t := Nat.lt_of_lt_of_le ((Nat.div_lt_iff_lt_mul hs).2 hi) hG
 have h2 : k / s < t := Nat.lt_of_lt_of_le ((Nat.div_lt_iff_lt_mul hs).2 hk) hG
 have ht : 0 < t := Nat.lt_of_le_of_lt (Nat.zero_le _) h1
 have e1 : (i / s + i % s * t) / t = i % s := by rw [Nat.add_mul_div_right _ _ ht, Nat.div_eq_of_lt h1, Nat.zero_add]
 have e2 : (k / s + k % s * t) / t = k % s := by rw [Nat.add_mul_div_right _ _ ht, Nat.div_eq_of_lt h2, Nat.zero_add]
 have e3 : i % s = k % s := by rw [← e1, ← e2, h]
 have e4 : i / s = k / s := by rw [e3] at h; omega
 rw [← Nat.div_add_mod i s, ← Nat.div_add_mod k s, e3, e4]
theorem pts_unlike {i k : Nat} (hG : G ≤ t) (hi : i < G * s) (hk : k < G * s) (h : gp (gidx s t i) = gp (gidx s t k)) : i = k :=
 gidx_inj hst hG hi hk (gp_inj (gidx_lt hst hG hi) (gidx_lt hst hG hk) h)
end
theorem othersL_mem {m s i j : Nat} (hs : m + 1 = s) : j ∈ othersL (i / s * s) (i % s) m ↔ j / s = i / s ∧ j ≠ i := by
 have hm : i % s < s := Nat.mod_lt _ (by omega)
 have hd := Nat.div_add_mod i s
 have hdj := Nat.div_add_mod j s
 have hmj : j % s < s := Nat.mod_lt _ (by omega)
 rw [Nat.mul_comm] at hd hdj
 unfold othersL
 rw [List.mem_map]
 constructor
 ·rintro ⟨k, hk, e⟩
  rw [List.mem_range] at hk
  have key : ∀ e, e < s → (i / s * s + e) / s = i / s := fun e he => by
   rw [Nat.add_comm, Nat.add_mul_div_right _ _ (by omega), Nat.div_eq_of_lt he, Nat.zero_add]
  split at e
  ·subst e
   exact ⟨key _ (by omega), by omega⟩
  ·subst e
   rw [Nat.add_assoc]
   exact ⟨key _ (by omega), by omega⟩
 ·rintro ⟨h1, h2⟩
  rw [h1] at hdj
  by_cases h3 : j % s < i % s
  ·exact ⟨j % s, List.mem_range.2 (by omega), by rw [if_pos h3]; omega⟩
  ·have h4 : j % s ≠ i % s := by
    intro e
    rw [e] at hdj
    omega
   exact ⟨j % s - 1, List.mem_range.2 (by omega), by rw [if_neg (by omega)]; omega⟩
theorem othersL_length (a q r : Nat) : (othersL a q r).length = r := by simp [othersL]
end Go.Proofs.YtofihklinkpbiaaGreat.Pt

namespace Go.Proofs.YtofihklinkpbiaaGreat.Wl
open F8 Poly Rd
def wr (m xs ys : List F8) : Nat := ((xs.zip ys).filter fun p => decide (eval m p.1 ≠ p.2)).length
theorem wr_cons (m : List F8) (x y : F8) (xs ys : List F8) : wr m (x :: xs) (y :: ys) = (if eval m x ≠ y then 1 else 0) + wr m xs ys := by
 by_cases h : eval m x = y <;> simp [wr, h, Nat.add_comm]
theorem wr_zero {m : List F8} : ∀ {xs ys : List F8}, xs.length = ys.length → (wr m xs ys = 0 ↔ word m xs = ys)
 | [], [], _ => by simp [wr, word]
 | x :: xs, y :: ys, h => by
  have ih := wr_zero (m := m) (xs := xs) (ys := ys) (by simpa using h)
  rw [wr_cons]
  by_cases e : eval m x = y
  ·rw [if_neg (by simpa using e), Nat.zero_add, ih]; simp [word, e]
  ·rw [if_pos (by simpa using e)]
   simp [word, e]
 | [], _ :: _, h => by simp at h
 | _ :: _, [], h => by simp at h
theorem both {m m' : List F8} : ∀ {xs ys : List F8}, xs.length = ys.length → xs.length ≤ wr m xs ys + wr m' xs ys + alike m m' xs
 | [], [], _ => by simp
 | x :: xs, y :: ys, h => by
  have ih := both (m := m) (m' := m') (xs := xs) (ys := ys) (by simpa using h)
  rw [wr_cons, wr_cons]
  have ha : alike m m' (x :: xs) = (if eval m x = eval m' x then 1 else 0) + alike m m' xs := by
   by_cases e : eval m x = eval m' x <;> simp [alike, e, Nat.add_comm]
  rw [ha, List.length_cons]
  by_cases e1 : eval m x = y
  ·by_cases e2 : eval m' x = y
   ·rw [if_pos (e1.trans e2.symm)]; split <;> split <;> omega
   ·rw [if_pos (c := eval m' x ≠ y) e2]; split <;> split <;> omega
  ·rw [if_pos (c := eval m x ≠ y) e1]; split <;> split <;> omega
 | [], _ :: _, h => by simp at h
 | _ :: _, [], h => by simp at h
theorem wr_only {m m' xs ys : List F8} {k t : Nat} (hm : m.length = k) (hm' : m'.length = k) (hn : xs.Nodup) (hl : xs.length = ys.length) (hk : k + 2 * t ≤ xs.length) (h : wr m xs ys ≤ t) (h' : wr m' xs ys ≤ t) : m = m' := by
 rcases Classical.em (m = m') with e | e
 ·exact e
 ·have h1 := both (m := m) (m' := m') hl
  have h2 := alike_lt hm hm' hn e
  omega
theorem bw {m xs ys Q E : List F8} {k e d : Nat} (hm : m.length = k) (hn : xs.Nodup) (hl : xs.length = ys.length) (hd : wr m xs ys ≤ d) (hk : k + e + d ≤ xs.length) (hQ : Bdd Q (k + e)) (hE : Bdd E (e + 1)) (h : ∀ i, i < xs.length → eval Q (coef xs i) = coef ys i * eval E (coef xs i)) : Eqv Q (pmul m E) := by
 obtain ⟨zs, hz1, hz2, hz3⟩ : ∃ zs : List F8, zs.Nodup ∧ xs.length ≤ zs.length + d ∧ ∀ x ∈ zs, ∃ i, i < xs.length ∧ x = coef xs i ∧ eval m x = coef ys i := by
  have hgen : ∀ (us vs : List F8), us.length = vs.length → us.length ≤ ((us.zip vs).filter fun p => decide (eval m p.1 = p.2)).length + wr m us vs := by
   intro us
   induction us with
   | nil => intro vs _; simp
   | cons u us ih =>
    intro vs hv
    cases vs with
    | nil => simp at hv
    | cons v vs =>
     have := ih vs (by simpa using hv)
     rw [wr_cons]
     by_cases e : eval m u = v <;> simp [e] <;> omega
  refine ⟨((xs.zip ys).filter fun p => decide (eval m p.1 = p.2)).map Prod.fst, ?_, ?_, ?_⟩
  ·have h1 : ((xs.zip ys).map Prod.fst).Nodup := by rw [List.map_fst_zip (by omega)]; exact hn
   exact h1.sublist (List.filter_sublist.map _)
  ·rw [List.length_map]
   have := hgen xs ys hl
   omega
  ·intro x hx
   obtain ⟨⟨a, b⟩, hp, rfl⟩ := List.mem_map.1 hx
   obtain ⟨hp1, hp2⟩ := List.mem_filter.1 hp
   obtain ⟨i, hi, he⟩ := List.mem_iff_getElem.1 hp1
   rw [List.length_zip] at hi
   rw [List.getElem_zip] at he
   injection he with he1 he2
   have hp3 : eval m a = b := by simpa using hp2
   refine ⟨i, by omega, ?_, ?_⟩
   ·rw [coef_of_lt (by omega)]; exact he1.symm
   ·rw [coef_of_lt (by omega)]; exact hp3.trans he2.symm
 have hb : Bdd (pmul m E) (k + e) := fun i hi => bdd_pmul (hm ▸ bdd_length m) hE i (by omega)
 refine Poly.only (n := k + e) (xs := zs) hQ hb (by omega) hz1 fun x hx => ?_
 obtain ⟨i, hi, rfl, he⟩ := hz3 x hx
 rw [h i hi, eval_pmul, he]
def wrong (xs : List F8) (m : List F8) (pl : List Int) (ys : List F8) : List Int :=
 (List.range xs.length).flatMap fun p : Nat => ((List.range pl.length).filter fun i => decide (pl.getD i 0 = (p : Int) ∧ eval m (coef xs p) ≠ coef ys i)).map fun _ => (p : Int)
theorem sum_filter (l : List Nat) (P : Nat → Bool) : (l.filter P).length = (l.map fun x => if P x then 1 else 0).sum := by
 induction l with
 | nil => rfl
 | cons x l ih => by_cases h : P x <;> simp [h, ih, Nat.add_comm]
theorem sum_zero (l : List Nat) (f : Nat → Nat) (h : ∀ x ∈ l, f x = 0) : (l.map f).sum = 0 := by
 induction l with
 | nil => rfl
 | cons x l ih => simp [h x (by simp), ih (fun y hy => h y (by simp [hy]))]
theorem sum_add (l : List Nat) (f g : Nat → Nat) : (l.map fun x => f x + g x).sum = (l.map f).sum + (l.map g).sum := by
 induction l with
 | nil => rfl
 | cons x l ih => simp [ih]; omega
theorem sum_swap (l r : List Nat) (f : Nat → Nat → Nat) : (l.map fun x => (r.map (f x)).sum).sum = (r.map fun y => (l.map fun x => f x y).sum).sum := by
 induction l with
 | nil => simp [sum_zero]
 | cons x l ih => simp only [List.map_cons, List.sum_cons]; rw [ih, sum_add]
theorem sum_one {n q : Nat} (hq : q < n) (b : Nat) : ((List.range n).map fun p => if p = q then b else 0).sum = b := by
 induction n with
 | zero => omega
 | succ n ih =>
  rw [List.range_succ, List.map_append, List.sum_append]
  by_cases e : q = n
  ·subst e
   rw [sum_zero _ _ (fun x hx => by rw [if_neg]; have := List.mem_range.1 hx; omega)]
   simp
  ·rw [ih (by omega)]
   simp
   omega
theorem wrong_length {xs m ys : List F8} {pl : List Int} (hok : OkP xs.length pl) (hl : pl.length = ys.length) : (wrong xs m pl ys).length = wr m (ptsAt xs pl) ys := by
 unfold wrong
 rw [List.length_flatMap]
 have e1 : ((List.range xs.length).map fun p : Nat => (((List.range pl.length).filter fun i => decide (pl.getD i 0 = (p : Int) ∧ eval m (coef xs p) ≠ coef ys i)).map fun _ => (p : Int)).length) =
   (List.range xs.length).map fun p : Nat => ((List.range pl.length).map fun i => if pl.getD i 0 = (p : Int) ∧ eval m (coef xs p) ≠ coef ys i then 1 else 0).sum := by
  refine List.map_congr_left fun p _ => ?_
  rw [List.length_map, sum_filter]
  simp
 rw [e1, sum_swap]
 have e2 : ∀ i ∈ List.range pl.length, ((List.range xs.length).map fun p : Nat => if pl.getD i 0 = (p : Int) ∧ eval m (coef xs p) ≠ coef ys i then 1 else 0).sum = if eval m (coef (ptsAt xs pl) i) ≠ coef ys i then 1 else 0 := by
  intro i hi
  have hi := List.mem_range.1 hi
  have hg : pl.getD i 0 = pl[i] := by simp [List.getD_eq_getElem?_getD, hi]
  have hb := hok.1 pl[i] (List.getElem_mem hi)
  obtain ⟨q, hq⟩ : ∃ q : Nat, pl[i] = (q : Int) := ⟨pl[i].toNat, by omega⟩
  have hpt : coef (ptsAt xs pl) i = coef xs q := by
   rw [coef_of_lt (by rw [ptsAt_length]; exact hi)]
   simp [ptsAt, hq]
  rw [hpt, ← sum_one (n := xs.length) (q := q) (by omega) (if eval m (coef xs q) ≠ coef ys i then 1 else 0)]
  congr 1
  refine List.map_congr_left fun p _ => ?_
  rw [hg, hq]
  by_cases e : p = q
  ·subst e; simp
  ·have : ¬ ((q : Int) = (p : Int)) := by omega
   simp [e, this]
 rw [List.map_congr_left e2]
 have hgen : ∀ (us vs : List F8), us.length = vs.length → ((List.range us.length).map fun i => if eval m (coef us i) ≠ coef vs i then 1 else 0).sum = wr m us vs := by
  intro us
  induction us with
  | nil => intro vs _; simp [wr]
  | cons u us ih =>
   intro vs hv
   cases vs with
   | nil => simp at hv
   | cons v vs =>
    rw [wr_cons, ← ih vs (by simpa using hv), List.length_cons, List.range_succ_eq_map]
    simp only [List.map_cons, List.map_map, List.sum_cons, coef_cons_zero]
    congr 1
 have := hgen (ptsAt xs pl) ys (by rw [ptsAt_length, hl])
 rw [ptsAt_length] at this
 exact this
def WIs (xs : List F8) (k : Nat) (pl : List Int) (ys : List F8) (t : Int) (m : List F8) (wl : List Int) (z : Int) : Prop :=
 (¬ ((pl.length = ys.length ∧ OkP xs.length pl) ∧ 0 ≤ t) ∧ m = [] ∧ wl = [] ∧ z = 2) ∨
 (((pl.length = ys.length ∧ OkP xs.length pl) ∧ 0 ≤ t) ∧ (pl.length : Int) < k + 2 * t ∧ m = [] ∧ wl = [] ∧ z = 70) ∨
 (((pl.length = ys.length ∧ OkP xs.length pl) ∧ 0 ≤ t) ∧ k + 2 * t ≤ (pl.length : Int) ∧ z = 0 ∧ m.length = k ∧ (wr m (ptsAt xs pl) ys : Int) ≤ t ∧ wl = wrong xs m pl ys) ∨
 (((pl.length = ys.length ∧ OkP xs.length pl) ∧ 0 ≤ t) ∧ k + 2 * t ≤ (pl.length : Int) ∧ z = 80 ∧ m = [] ∧ wl = [] ∧ ∀ m' : List F8, m'.length = k → t < (wr m' (ptsAt xs pl) ys : Int))
theorem WIs.only {xs : List F8} {k : Nat} {pl : List Int} {ys m m' : List F8} {t z z' : Int} {wl wl' : List Int} (hn : xs.Nodup) (h : WIs xs k pl ys t m wl z) (h' : WIs xs k pl ys t m' wl' z') : m = m' ∧ wl = wl' ∧ z = z' := by
  rcases h with ⟨a, h1, h2, h3⟩ | ⟨a, b, h1, h2, h3⟩ | ⟨a, b, h1, h2, h3, h4⟩ | ⟨a, b, h1, h2, h3, h4⟩ <;>
  rcases h' with ⟨a', h1', h2', h3'⟩ | ⟨a', b', h1', h2', h3'⟩ | ⟨a', b', h1', h2', h3', h4'⟩ | ⟨a', b', h1', h2', h3', h4'⟩ <;>
  first
    | exact absurd a' a
    | exact absurd a a'
    | exact absurd b (by omega)
    | exact absurd b' (by omega)
    | exact ⟨h1.trans h1'.symm, h2.trans h2'.symm, h3.trans h3'.symm⟩
    | exact ⟨h2.trans h2'.symm, h3.trans h3'.symm, h1.trans h1'.symm⟩
    | exact absurd h3 (by have := h4' m h2; omega)
    | exact absurd h3' (by have := h4 m' h2'; omega)
    | (have hm : m = m' := by
        obtain ⟨T, rfl⟩ : ∃ T : Nat, t = (T : Int) := ⟨t.toNat, by omega⟩
        exact wr_only (xs := ptsAt xs pl) (ys := ys) (k := k) (t := T) h2 h2' (ptsAt_nodup hn a.1.2) (by rw [ptsAt_length]; exact a.1.1) (by rw [ptsAt_length]; omega) (by omega) (by omega)
       subst hm
       exact ⟨rfl, h4.trans h4'.symm, h1.trans h1'.symm⟩)
end Go.Proofs.YtofihklinkpbiaaGreat.Wl

namespace Go.Proofs.YtofihklinkpbiaaGreat.Wl
open F8 Poly Rd
theorem sorted_ext : ∀ {l r : List Int}, l.Pairwise (· < ·) → r.Pairwise (· < ·) → (∀ x, x ∈ l ↔ x ∈ r) → l = r
 | [], [], _, _, _ => rfl
 | [], y :: r, _, _, h => by have := (h y).2 (by simp); simp at this
 | x :: l, [], _, _, h => by have := (h x).1 (by simp); simp at this
 | x :: l, y :: r, h1, h2, h => by
  obtain ⟨a1, a2⟩ := List.pairwise_cons.1 h1
  obtain ⟨b1, b2⟩ := List.pairwise_cons.1 h2
  have hxy : x = y := by
   rcases List.mem_cons.1 ((h x).1 (by simp)) with e | e
   ·exact e
   ·rcases List.mem_cons.1 ((h y).2 (by simp)) with e2 | e2
    ·exact e2.symm
    ·have := b1 x e; have := a1 y e2; omega
  subst hxy
  rw [sorted_ext a2 b2 fun z => ?_]
  have hz := h z
  simp only [List.mem_cons] at hz
  constructor
  ·intro hzl
   have := a1 z hzl
   rcases hz.1 (.inr hzl) with e | e
   ·omega
   ·exact e
  ·intro hzr
   have := b1 z hzr
   rcases hz.2 (.inr hzr) with e | e
   ·omega
   ·exact e
theorem mem_wrong {xs m ys : List F8} {pl : List Int} {z : Int} (hok : OkP xs.length pl) : z ∈ wrong xs m pl ys ↔ ∃ i, i < pl.length ∧ pl.getD i 0 = z ∧ eval m (coef (ptsAt xs pl) i) ≠ coef ys i := by
 have hpt : ∀ i, i < pl.length → ∃ q : Nat, q < xs.length ∧ pl.getD i 0 = (q : Int) ∧ coef (ptsAt xs pl) i = coef xs q := by
  intro i hi
  have hg : pl.getD i 0 = pl[i] := by simp [List.getD_eq_getElem?_getD, hi]
  have hb := hok.1 pl[i] (List.getElem_mem hi)
  refine ⟨pl[i].toNat, by omega, by rw [hg]; omega, ?_⟩
  rw [coef_of_lt (by rw [ptsAt_length]; exact hi)]
  simp [ptsAt]
 unfold wrong
 rw [List.mem_flatMap]
 constructor
 ·rintro ⟨p, hp, hz⟩
  obtain ⟨i, hi, rfl⟩ := List.mem_map.1 hz
  obtain ⟨h1, h2⟩ := List.mem_filter.1 hi
  have h1 := List.mem_range.1 h1
  have h2 : pl.getD i 0 = (p : Int) ∧ eval m (coef xs p) ≠ coef ys i := by simpa using h2
  obtain ⟨q, _, hq, he⟩ := hpt i h1
  have hqp : q = p := by have := h2.1; omega
  exact ⟨i, h1, h2.1, by rw [he, hqp]; exact h2.2⟩
 ·rintro ⟨i, hi, rfl, h⟩
  obtain ⟨q, hq1, hq, he⟩ := hpt i hi
  refine ⟨q, List.mem_range.2 hq1, List.mem_map.2 ⟨i, List.mem_filter.2 ⟨List.mem_range.2 hi, ?_⟩, hq.symm⟩⟩
  rw [he] at h
  simpa using ⟨hq, h⟩
theorem filter_one (n : Nat) (P : Nat → Bool) (h : ∀ i j, i < n → j < n → P i = true → P j = true → i = j) : ((List.range n).filter P).length ≤ 1 := by
 induction n with
 | zero => simp
 | succ n ih =>
  rw [List.range_succ, List.filter_append, List.length_append]
  have h1 := ih fun i j hi hj => h i j (by omega) (by omega)
  by_cases e : P n = true
  ·have : (List.range n).filter P = [] := by
    rw [List.filter_eq_nil_iff]
    intro i hi hp
    have hi := List.mem_range.1 hi
    have := h i n (by omega) (by omega) hp e
    omega
   simp [this, e]
  ·simp [e]; exact h1
theorem wrong_sorted {xs m ys : List F8} {pl : List Int} (hok : OkP xs.length pl) : (wrong xs m pl ys).Pairwise (· < ·) := by
 unfold wrong
 rw [List.pairwise_flatMap]
 refine ⟨fun p _ => ?_, ?_⟩
 ·have h1 := filter_one pl.length (fun i => decide (pl.getD i 0 = (p : Int) ∧ eval m (coef xs p) ≠ coef ys i)) fun i j hi hj h1 h2 => by
   have h1 := of_decide_eq_true h1
   have h2 := of_decide_eq_true h2
   have e : pl[i] = pl[j] := by
    have a := h1.1.trans h2.1.symm
    simpa [List.getD_eq_getElem?_getD, hi, hj] using a
   exact (List.getElem_inj hok.2).1 e
  generalize (List.range pl.length).filter (fun i => decide (pl.getD i 0 = (p : Int) ∧ eval m (coef xs p) ≠ coef ys i)) = l at h1
  match l, h1 with
  | [], _ => simp
  | [a], _ => simp
 ·refine List.pairwise_lt_range.imp fun {a b} hab x hx y hy => ?_
  obtain ⟨_, _, rfl⟩ := List.mem_map.1 hx
  obtain ⟨_, _, rfl⟩ := List.mem_map.1 hy
  omega
theorem mem_wrong_zip {xs m ys : List F8} {pl : List Int} {z : Int} (hok : OkP xs.length pl) (hl : pl.length = ys.length) : z ∈ wrong xs m pl ys ↔ ∃ y, (z, y) ∈ pl.zip ys ∧ eval m (coef xs z.toNat) ≠ y := by
 rw [mem_wrong hok]
 constructor
 ·rintro ⟨i, hi, rfl, h⟩
  refine ⟨coef ys i, List.mem_iff_getElem.2 ⟨i, by rw [List.length_zip]; omega, ?_⟩, ?_⟩
  ·rw [List.getElem_zip, coef_of_lt (by omega)]
   simp [List.getD_eq_getElem?_getD, hi]
  ·rw [coef_of_lt (by rw [ptsAt_length]; exact hi)] at h
   simpa [ptsAt, List.getD_eq_getElem?_getD, hi] using h
 ·rintro ⟨y, hy, h⟩
  obtain ⟨i, hi, e⟩ := List.mem_iff_getElem.1 hy
  rw [List.length_zip] at hi
  rw [List.getElem_zip] at e
  injection e with e1 e2
  have hi1 : i < pl.length := by omega
  refine ⟨i, hi1, by simp [List.getD_eq_getElem?_getD, hi1, e1], ?_⟩
  rw [coef_of_lt (by rw [ptsAt_length]; exact hi1), coef_of_lt (p := ys) (by omega), e2]
  simpa [ptsAt, e1] using h
end Go.Proofs.YtofihklinkpbiaaGreat.Wl

namespace Go.Proofs.YtofihklinkpbiaaGreat.Wl
open F8 Poly Rd
section
variable {xs : List F8} {k : Nat} {pl : List Int} {ys m r : List F8} {t z : Int} {wl : List Int}
theorem wis_ok (hl : pl.length = ys.length) (hok : OkP xs.length pl) (ht : 0 ≤ t) (hk : (k : Int) + 2 * t ≤ (pl.length : Int)) (hm : m.length = k) (hw : (wr m (ptsAt xs pl) ys : Int) ≤ t) : WIs xs k pl ys t m (wrong xs m pl ys) 0 :=
 .inr (.inr (.inl ⟨⟨⟨hl, hok⟩, ht⟩, hk, rfl, hm, hw, rfl⟩))
theorem WIs.few (h : WIs xs k pl ys t r wl z) (hz : z = 0) : (wr r (ptsAt xs pl) ys : Int) ≤ t ∧ r.length = k ∧ wl = wrong xs r pl ys := by
 rcases h with ⟨_, _, _, h⟩ | ⟨_, _, _, _, h⟩ | ⟨_, _, _, h1, h2, h3⟩ | ⟨_, _, h, _⟩
 ·omega
 ·omega
 ·exact ⟨h2, h1, h3⟩
 ·omega
end
end Go.Proofs.YtofihklinkpbiaaGreat.Wl

namespace Go.Proofs.YtofihklinkpbiaaGreat.Ms
open F8
def wrongs (n : Nat) (S : Nat → List F8) (sh : List (Int × List F8)) : List Int := ((List.range n).filter fun j : Nat => sh.any fun o => decide (o.1 = (j : Int) ∧ o.2 ≠ S j)).map fun j : Nat => (j : Int)
def offB (S : Nat → List F8) (j : Nat) (o : Int × List F8) : Bool := decide (o.1 = (j : Int) ∧ o.2 ≠ S j)
def nb (S : Nat → List F8) (sh : List (Int × List F8)) : Nat := (sh.filter fun o => decide (o.2 ≠ S o.1.toNat)).length
theorem filter_one {n : Nat} {p : Nat → Bool} {i : Nat} (h : ∀ j, p j = true → j = i) : ((List.range n).filter p).length ≤ 1 := by
 induction n with
 | zero => simp
 | succ n ih =>
  rw [List.range_succ, List.filter_append, List.length_append]
  by_cases hp : p n = true
  ·have hn := h n hp
   have e0 : (List.range n).filter p = [] := List.filter_eq_nil_iff.2 fun j hj hpj => by
    have := h j hpj; have := List.mem_range.1 hj; omega
   rw [e0]
   simp [hp]
  ·have e1 : [n].filter p = [] := by simp [hp]
   rw [e1]
   simpa using ih
theorem filter_or {l : List Nat} {p q : Nat → Bool} : (l.filter fun j => p j || q j).length ≤ (l.filter p).length + (l.filter q).length := by
 induction l with
 | nil => simp
 | cons x l ih =>
  simp only [List.filter_cons]
  cases hp : p x <;> cases hq : q x <;> simp <;> omega
theorem wrongs_le (n : Nat) (S : Nat → List F8) (sh : List (Int × List F8)) : (wrongs n S sh).length ≤ nb S sh := by
 unfold wrongs nb
 rw [List.length_map]
 induction sh with
 | nil => simp
 | cons o sh ih =>
  have e : ((List.range n).filter fun j : Nat => (o :: sh).any fun o => decide (o.1 = (j : Int) ∧ o.2 ≠ S j)) = (List.range n).filter fun j : Nat => offB S j o || sh.any fun o => decide (o.1 = (j : Int) ∧ o.2 ≠ S j) := List.filter_congr fun j _ => by rw [List.any_cons]; rfl
  rw [e]
  refine Nat.le_trans filter_or ?_
  by_cases hb : o.2 ≠ S o.1.toNat
  ·rw [List.filter_cons_of_pos (by simpa using hb), List.length_cons]
   have h1 : ((List.range n).filter fun j => offB S j o).length ≤ 1 := filter_one (i := o.1.toNat) fun j hj => by
    unfold offB at hj
    have := (of_decide_eq_true hj).1
    omega
   omega
  ·rw [List.filter_cons_of_neg (by simpa using hb)]
   have h0 : (List.range n).filter (fun j => offB S j o) = [] := List.filter_eq_nil_iff.2 fun j _ hj => by
    unfold offB at hj
    have h := of_decide_eq_true hj
    apply hb
    have : o.1.toNat = j := by omega
    rw [this]
    exact h.2
   rw [h0]
   simpa using ih
theorem nb_set (S : Nat → List F8) : ∀ (sh : List (Int × List F8)) (i : Nat) (o : Int × List F8), nb S (sh.set i o) ≤ nb S sh + 1
 | [], i, o => by simp [nb]
 | x :: sh, 0, o => by
  simp only [nb, List.set_cons_zero, List.filter_cons]
  split <;> split <;> simp <;> omega
 | x :: sh, i + 1, o => by
  have ih := nb_set S sh i o
  simp only [nb, List.set_cons_succ, List.filter_cons] at ih ⊢
  split <;> (try simp only [List.length_cons]) <;> omega
theorem nb_nil {S : Nat → List F8} {sh : List (Int × List F8)} (h : ∀ o ∈ sh, o.2 = S o.1.toNat) : nb S sh = 0 := by
 unfold nb
 rw [List.filter_eq_nil_iff.2 fun o ho => by simpa using h o ho]
 rfl
def oth (S : Nat → List F8) (sh : List (Int × List F8)) (j : Nat) : List Int := wrongs j S sh
def oneO (S : Nat → List F8) (sh : List (Int × List F8)) (j i : Nat) : List Int := if (sh.take i).any (offB S j) then [(j : Int)] else []
theorem oth_succ (S : Nat → List F8) (sh : List (Int × List F8)) (j : Nat) : oth S sh (j + 1) = oth S sh j ++ oneO S sh j sh.length := by
 unfold oth oneO wrongs
 rw [List.range_succ, List.filter_append, List.map_append, List.take_length]
 congr 1
 by_cases h : sh.any (offB S j) = true
 ·have e : ([j].filter fun j : Nat => sh.any fun o => decide (o.1 = (j : Int) ∧ o.2 ≠ S j)) = [j] := List.filter_cons_of_pos h
  rw [if_pos h, e]
  rfl
 ·have e : ([j].filter fun j : Nat => sh.any fun o => decide (o.1 = (j : Int) ∧ o.2 ≠ S j)) = [] := List.filter_cons_of_neg h
  rw [if_neg h, e]
  rfl
theorem oneO_zero (S : Nat → List F8) (sh : List (Int × List F8)) (j : Nat) : oneO S sh j 0 = [] := rfl
theorem oneO_skip {S : Nat → List F8} {sh : List (Int × List F8)} {j i : Nat} (hi : i < sh.length) (h : offB S j sh[i] = false) : oneO S sh j (i + 1) = oneO S sh j i := by
 unfold oneO
 have e : (sh.take (i + 1)).any (offB S j) = (sh.take i).any (offB S j) := by
  rw [List.take_add_one, List.getElem?_eq_getElem hi, List.any_append]
  show ((sh.take i).any (offB S j) || (offB S j sh[i] || false)) = _
  rw [h]
  simp
 rw [e]
theorem oneO_hit {S : Nat → List F8} {sh : List (Int × List F8)} {j i : Nat} (hn : (sh.map Prod.fst).Nodup) (hi : i < sh.length) (h : offB S j sh[i] = true) : oneO S sh j i = [] ∧ oneO S sh j (i + 1) = [(j : Int)] := by
 have h1 : (sh[i]).1 = (j : Int) := (of_decide_eq_true h).1
 constructor
 ·unfold oneO
  refine if_neg fun hany => ?_
  obtain ⟨o, ho, hoj⟩ := List.any_eq_true.1 hany
  have h2 : o.1 = (j : Int) := (of_decide_eq_true hoj).1
  obtain ⟨q, hq, rfl⟩ := List.getElem_of_mem ho
  rw [List.length_take] at hq
  rw [List.getElem_take] at h2
  have hnd := List.pairwise_iff_getElem.1 hn q i (by simp; omega) (by simpa using hi) (by omega)
  simp only [List.getElem_map] at hnd
  exact hnd (by rw [h1, h2])
 ·unfold oneO
  refine if_pos ?_
  rw [List.take_add_one, List.getElem?_eq_getElem hi, List.any_append]
  show ((sh.take i).any (offB S j) || (offB S j sh[i] || false)) = _
  rw [h]
  simp
end Go.Proofs.YtofihklinkpbiaaGreat.Ms
