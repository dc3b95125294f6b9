/- Of the program, joined: WcSort. -/
import Derived.Shelf.Sort.Plain
import Derived.Shelf.Slices.In.SortNone
import Derived.Sort.OwnSortedInts
import Derived.Test.YtjoghbmedfmioaaGreatPb02
import Derived.Test.YtjoghbmedfmioaaGreatPb04
namespace Go.Proofs
open Go.Shelf
def Tryz.lays189_ren : Go.Shelf.Ren := ⟨fun | 189 => 47 | 125 => 82 | 257 => 81 | 128 => 123 | 129 => 124 | 294 => 114 | 295 => 115 | 296 => 116 | 297 => 117 | 298 => 118 | 299 => 119 | 216 => 120 | 300 => 121 | 301 => 122 | 328 => 148 | 329 => 149 | 330 => 150 | 331 => 151 | 332 => 152 | 215 => 153 | 343 => 173 | n => n, fun | 28 => 44 | 3 => 3 | 46 => 147 | 0 => 0 | 51 => 69 | 53 => 42 | 4 => 4 | 183 => 184 | 182 => 183 | 131 => 188 | 5 => 5 | 9 => 9 | 218 => 211 | 222 => 215 | 228 => 232 | 229 => 233 | n => n, fun | n => n⟩
theorem Tryz.lays189 : Lays.n189 Tryz.prog Tryz.lays189_ren := {
 mixed := by kernel_rfl
 f125 := Tryz.func82.trans (congrArg some (by kernel_rfl))
 f128 := Tryz.func123.trans (congrArg some (by kernel_rfl))
 f129 := Tryz.func124.trans (congrArg some (by kernel_rfl))
 f189 := Tryz.func47.trans (congrArg some (by kernel_rfl))
 f215 := Tryz.func153.trans (congrArg some (by kernel_rfl))
 f216 := Tryz.func120.trans (congrArg some (by kernel_rfl))
 f257 := Tryz.func81.trans (congrArg some (by kernel_rfl))
 f294 := Tryz.func114.trans (congrArg some (by kernel_rfl))
 f295 := Tryz.func115.trans (congrArg some (by kernel_rfl))
 f296 := Tryz.func116.trans (congrArg some (by kernel_rfl))
 f297 := Tryz.func117.trans (congrArg some (by kernel_rfl))
 f298 := Tryz.func118.trans (congrArg some (by kernel_rfl))
 f299 := Tryz.func119.trans (congrArg some (by kernel_rfl))
 f300 := Tryz.func121.trans (congrArg some (by kernel_rfl))
 f301 := Tryz.func122.trans (congrArg some (by kernel_rfl))
 f328 := Tryz.func148.trans (congrArg some (by kernel_rfl))
 f329 := Tryz.func149.trans (congrArg some (by kernel_rfl))
 f330 := Tryz.func150.trans (congrArg some (by kernel_rfl))
 f331 := Tryz.func151.trans (congrArg some (by kernel_rfl))
 f332 := Tryz.func152.trans (congrArg some (by kernel_rfl))
 f343 := Tryz.func173.trans (congrArg some (by kernel_rfl))
 t0 := Tryz.underlying0
 a0 := Tryz.isAgg0
 z0 := Tryz.sizeOf0
 v0 := Tryz.zeroValue0
 t3 := Tryz.underlying3
 a3 := Tryz.isAgg3
 z3 := Tryz.sizeOf3
 v3 := Tryz.zeroValue3
 t4 := Tryz.underlying4
 a4 := Tryz.isAgg4
 z4 := Tryz.sizeOf4
 v4 := Tryz.zeroValue4
 t5 := Tryz.underlying5
 a5 := Tryz.isAgg5
 z5 := Tryz.sizeOf5
 v5 := Tryz.zeroValue5
 t9 := Tryz.underlying9
 a9 := Tryz.isAgg9
 z9 := Tryz.sizeOf9
 v9 := Tryz.zeroValue9
 t28 := Tryz.underlying44
 a28 := Tryz.isAgg44
 z28 := Tryz.sizeOf44
 v28 := Tryz.zeroValue44
 t46 := Tryz.underlying147
 a46 := Tryz.isAgg147
 z46 := Tryz.sizeOf147
 v46 := Tryz.zeroValue147
 t51 := Tryz.underlying69
 a51 := Tryz.isAgg69
 z51 := Tryz.sizeOf69
 v51 := Tryz.zeroValue69
 t53 := Tryz.underlying42
 a53 := Tryz.isAgg42
 z53 := Tryz.sizeOf42
 v53 := Tryz.zeroValue42
 t131 := Tryz.underlying188
 a131 := Tryz.isAgg188
 z131 := Tryz.sizeOf188
 v131 := Tryz.zeroValue188
 t182 := Tryz.underlying183
 a182 := Tryz.isAgg183
 z182 := Tryz.sizeOf183
 v182 := Tryz.zeroValue183
 t183 := Tryz.underlying184
 a183 := Tryz.isAgg184
 z183 := Tryz.sizeOf184
 v183 := Tryz.zeroValue184
 t218 := Tryz.underlying211
 a218 := Tryz.isAgg211
 z218 := Tryz.sizeOf211
 v218 := Tryz.zeroValue211
 t222 := Tryz.underlying215
 a222 := Tryz.isAgg215
 z222 := Tryz.sizeOf215
 v222 := Tryz.zeroValue215
 t228 := Tryz.underlying232
 a228 := Tryz.isAgg232
 z228 := Tryz.sizeOf232
 v228 := Tryz.zeroValue232
 t229 := Tryz.underlying233
 a229 := Tryz.isAgg233
 z229 := Tryz.sizeOf233
 v229 := Tryz.zeroValue233 }

end Go.Proofs
namespace Go.Proofs.YtjoghbmedfmioaaGreat.Wl
open Go.RowKit Go.Shelf F8 Poly GF Rd Pt
attribute [local go_sem] Oper.semAt_some


def srt (l : List Int) : List Int := l.mergeSort fun x y => decide (x ≤ y)
theorem srt_length (l : List Int) : (srt l).length = l.length := by simp [srt]
theorem srt_perm (l : List Int) : (srt l).Perm l := List.mergeSort_perm _ _
theorem srt_sorted (l : List Int) : (srt l).Pairwise (· ≤ ·) := by
 have h := List.pairwise_mergeSort (le := fun x y : Int => decide (x ≤ y)) (fun a b c h1 h2 => by simp at h1 h2 ⊢; omega) (fun a b => by simp; omega) l
 exact h.imp fun h => of_decide_eq_true h
theorem zs_cells (l : List Int) : ∀ u ∈ zs l, u.oneCell' = true := by
 intro u hu; obtain ⟨z, _, rfl⟩ := List.mem_map.1 hu; rfl
theorem zs_app (a b : List Int) : zs (a ++ b) = zs a ++ zs b := by simp [zs]
open Go.Sort in

theorem sort_calls (B : Nat) (A : Option Addr) (l : List Int) (n c : Nat) (w : World) (hl : l.length = n) (hn : n ≤ 1000000000) (ho : Own w B 3 (.slice A n c) (zs l)) :
  Calls Tryz.prog 47 #[.slice A n c] w fun e w' => e = .returned (.tuple #[]) ∧ Own w' B 3 (.slice A n c) (zs (srt l)) ∧ w.grownBy w' (Value.slice A n c).ownBlock := by
 have hz : (zs l).length = l.length := zs_length l
 rcases ho.2 with ⟨h1, h2⟩ | ⟨g, cap, cur, h1, hg, hgb, r1, r2, r3, r4⟩
 ·injection h1 with e1 e2 e3
  subst e1 e2 e3
  obtain rfl : l = [] := List.eq_nil_of_length_eq_zero hl
  refine (Any.slices_Sort_int_none Tryz.lays189 none 0 w).mono ?_
  rintro e w' ⟨rfl, rfl⟩
  exact ⟨rfl, by simpa [srt] using ho, rfl, rfl, rfl, Nat.le_refl _, fun _ _ _ => rfl⟩
 ·injection h1 with e1 e2 e3
  subst e1 e3
  rw [hz] at r1 r4 e2
  rw [Nat.mul_one] at r4
  obtain rfl : l.length = n := hl
  have hH : Holds (Value.int .i64) w g 0 l.toArray := holds_of_blockI hgb r4
  refine (Any.slices_Sort_int Tryz.lays189 g 0 c l w hH (Array.getElem?_eq_some_iff.1 hgb).1 (by omega)).mono ?_
  rintro e w' ⟨rfl, nn, os, rfl⟩
  refine ⟨rfl, ?_, grownBy_sortedI _⟩
  have h := ownsRow_sortedI (n := nn) (os := os) (ts := srt l) (srt_length l) hg hgb r1 r2 r3
  unfold Own
  rw [zs_length, srt_length]
  exact h

structure Vls (B bx : Nat) (P : Option Addr) (m d : Nat) (pl : List Int) (W : World) : Prop where
 blk : Block W bx 44 #[.slice P m d]
 row : Row W P (zs pl)
 lt : bx < B
 rlt : zs pl ≠ [] → ∀ a, P = some a → a.block < B
theorem Vls.below {B bx m d : Nat} {P : Option Addr} {pl : List Int} {W W' : World} (h : Vls B bx P m d pl W) (hb : Below B W W') : Vls B bx P m d pl W' :=
 ⟨(hb.block bx h.lt).trans h.blk, fun k u hk => by
  obtain ⟨b, off, rfl, hc⟩ := h.row k u hk
  exact ⟨b, off, rfl, (hb.cell (p := ⟨b, off + k, none⟩) (h.rlt (by rintro e; rw [e] at hk; cases hk) ⟨b, off, none⟩ rfl)).trans hc⟩, h.lt, h.rlt⟩
set_option maxRecDepth 100000 in
set_option maxHeartbeats 2000000 in

theorem values_visits (B bx g : Nat) (P : Option Addr) (m d : Nat) (pl : List Int) (hl : pl.length = m) (hm : m ≤ 1000000) :
  Visits 175 #[.pointer (some ⟨bx, 0, none⟩)] g (Vls B bx P m d pl) (zs pl) := by
 intro n hn l J Jx hJ hT hY W h0
 rw [zs_length, hl]
 refine callsIn_of_wp Tryz.func175 rfl trivial ?_ rfl
 simp only [Tryz.ntmps175, List.size_toArray, List.length_cons, List.length_nil, Nat.reduceAdd, Nat.reduceSub, Array.replicate_succ, Array.replicate_zero, List.push_toArray, List.append_toArray, List.nil_append, List.cons_append]
 have hb0 := (hJ _ _ h0).blk.cell 0
 gi_wp2
 gi_loopw [7] (fun i wr => ∃ e : Nat, e ≤ m ∧ i = .int .i64 e ∧ J e wr) (fun i _ => m - (intOf i).toNat)
 case atStart => exact ⟨0, Nat.zero_le _, rfl, h0⟩
 case round =>
  obtain ⟨e, he, rfl, hj⟩ := hrel
  by_cases hlt : e < m
  ·have hK := hJ _ _ hj
   have hep : e < pl.length := by omega
   obtain ⟨b, off, rfl, hcell⟩ := zs_at hK.row (k := e) hep
   have hget : (zs pl)[e]? = some (.int .i64 pl[e]) := by simp [zs, hep]
   obtain ⟨z, hz⟩ : ∃ z, pl[e] = z := ⟨_, rfl⟩
   rw [hz] at hcell hget
   obtain ⟨fn, tmps, assign, body, hy, hR⟩ := hY _ _ _ hget hj
   clear hget hz hK
   gi_wp2
   refine hR.mono ?_
   rintro ee W3 (⟨rfl, hJ3⟩ | ⟨rfl, hJx3⟩)
   ·gi_wp2
    go_roundw
    case rel => exact ⟨e + 1, by omega, by go_num, hJ3⟩
    case measure => simp [intOf]; omega
   ·gi_wp2
    refine bodyPost_ret (results_none rfl _ _ _) rfl ?_
    exact ⟨⟨_, rfl⟩, .inr hJx3⟩
  ·obtain rfl : e = m := by omega
   gi_wp2
   go_end0
   exact ⟨⟨_, rfl⟩, .inl hj⟩
theorem zs_get' (l : List Int) (k : Nat) (hk : k < (zs l).length) : (zs l)[k] = .int .i64 (l[k]'(by rwa [zs_length] at hk)) := by simp [zs]
set_option maxRecDepth 100000 in
set_option maxHeartbeats 2000000 in
theorem appendSeq_calls (gf g : Nat) (lb : Array Value) (Kp : World → Prop) (l : List Int) (hlen : l.length ≤ 1000000) (w : World) (hV : Visits gf lb g Kp (zs l)) (hen : ∀ args W, (callFunc gf args).run Tryz.prog W = .ok (.enter gf args) W)
  (hgw : g < w.heap.size) (hKp : ∀ W W', Kp W → Below w.heap.size W W' → Kp W') (h0 : Kp w) :
  Calls Tryz.prog 186 #[.slice none 0 0, .func (.func gf) #[] lb] w fun e w' => ∃ v, e = .returned v ∧ Own w' w.heap.size 3 v (zs l) ∧ Past w.heap.size g w w' ∧ Kp w' := by
 refine (callsIn_wide (n := 9)).1 (callsIn_of_wp_marks Tryz.func186 rfl trivial ?_ rfl)
 simp only [Tryz.ntmps186, List.size_toArray, List.length_cons, List.length_nil, Nat.reduceAdd, Nat.reduceSub, Array.replicate_succ, Array.replicate_zero, List.push_toArray, List.append_toArray, List.nil_append, List.cons_append]
 refine wpIn_wide.2 ?_
 go_wp2_with fail
 refine wpIn_wide.1 (wpIn_visits (n := 9) (by omega) hV (by simp; omega) hen rfl
  (fun k W => Kp W ∧ Past w.heap.size g w W ∧ Held W w.heap.size w.heap.size 44 3 ((zs l).take k))
  (fun _ _ => False)
  (fun k W W' ⟨h1, h2, v, h3, h4, h5⟩ t => ⟨hKp _ _ h1 (t.below.mono (by simp)), t.past h2 (by simp), v, t.block h3, t.own h4, h5⟩)
  (fun _ _ _ h _ => h)
  (fun k W h => h.1)
  (fun k W W' ⟨h1, h2, v, h3, h4, h5⟩ t hk hs => by
   simp only [World.size_alloc] at hs
   refine ⟨hk, h2.trans (t.mono (by omega)), v, h3.past t h3.lt (by omega), ?_, h5⟩
   refine h4.grown (row := some g) ⟨t.os, t.tape, t.output, t.size, fun k hk hne => t.block k hk (by simpa using hne)⟩ (.inr ?_)
   intro e
   have := h4.lt g e
   omega)
  ⟨hKp _ _ h0 ((Below.refl _ w).alloc (Nat.le_refl _) _), Past.of_below ((Below.refl _ w).alloc (Nat.le_refl _) _) g, .slice none 0 0, Block.new _ _ _, Own.nil _ _ _, by simp [Value.ownBlock]⟩
  ?a1 ?assign ?body ?done (fun _ _ h => h.elim))
 case assign =>
  intro l k v W K hk hK
  gi_wp2
  exact hK
 case body =>
  rintro l' k v W hk ⟨k1, k2, v0, k3, k4, k5⟩ hsz
  simp only [World.size_alloc] at hsz
  obtain ⟨hkl, hkv⟩ := List.getElem?_eq_some_iff.1 hk
  obtain ⟨x, rfl⟩ : ∃ x : Int, v = .int .i64 x := ⟨_, by rw [← hkv, zs_get']⟩
  have htk : (zs l).take (k + 1) = (zs l).take k ++ [.int .i64 x] := by rw [take_succ' _ hkl, hkv]
  obtain ⟨A, c, rfl, hrow, _⟩ := k4.form
  have hc := k3.cell 0
  have hf := k3.frozen 0
  have hm : ((zs l).take k).length ≤ l.length := by rw [List.length_take, zs_length]; omega
  obtain ⟨m, hmm⟩ : ∃ m, ((zs l).take k).length = m := ⟨_, rfl⟩
  rw [hmm] at hm hc k5 k4 k3
  have HM := Lib.hid hmm
  clear hmm
  gi_wp2_with (gi_at_builtin; refine wpListIn_app _ rfl _ _ 44 rfl w.heap.size 3 (.int .i64 0) 8 Tryz.underlying44 info_i rfl (by decide) _ _ rfl (k4.alloc _) _ 1 1 [.int .i64 x] rfl rfl (Row.new _ _ _ _) (by intro u hu; obtain rfl := List.mem_singleton.1 hu; rfl) (by rw [HM.out]; omega) (by simp; omega) ?_; rintro v2 w2 hO hgr hb; replace hgr : (W.alloc _).grownBy w2 (Value.slice A m c).ownBlock := hgr; replace hb : _ = (Value.slice A m c).ownBlock ∨ _ := hb; have hbx := block_grown (k3.alloc _) hgr k5; have hc2 := hbx.cell 0; have hf2 := hbx.frozen 0; obtain ⟨A2, c2, rfl, _, _⟩ := hO.form; generalize hn2 : (List.take k (zs l) ++ [Value.int .i64 x]).length = n2 at hO hb ⊢)
  have hne : (Value.slice A2 n2 c2).ownBlock ≠ some w.heap.size := by
   rcases hb with e | e
   ·rw [e]; exact k5
   ·rw [e]; simp; omega
  have hbel : Below w.heap.size W (w2.setCell ⟨w.heap.size, 0, none⟩ (.slice A2 n2 c2)) :=
   (((Below.refl _ W).alloc (by omega) _).trans ((k4.alloc _).grew (by simp; omega) hgr)).setCell (p := ⟨w.heap.size, 0, none⟩) (Nat.le_refl _) _
  refine ⟨((KeepsOthers.alloc _ _).from _).trans ((keeps_grown (k4.alloc _) hgr).trans ((KeepsOthers.setCell _ _ _).from _)), hKp _ _ k1 hbel, k2.trans (Past.of_below hbel g), _, hbx.set_ 0 _, ?_, hne⟩
  rw [htk]
  exact hO.far (by exact hne) _
 case done =>
  rintro W ⟨k1, k2, v, k3, k4, k5⟩ hD
  rw [List.take_length] at k4
  obtain ⟨A, c, rfl, hrow, _⟩ := k4.form
  have hc := k3.cell 0
  have hf := k3.frozen 0
  generalize hn2 : (zs l).length = m at *
  go_wp2
  refine ⟨by simp, .inl ⟨_, _, rfl, run_takeDeferred hD, ?_⟩⟩
  have ht : Turn w.heap.size W _ := Turn.put hD rfl (by simp) (.deferred none)
  exact ⟨.slice A m c, by simp [results, Tryz.results186, go_sem], _, rfl, ht.own k4, ht.past k2 (Nat.le_refl _), hKp _ _ k1 ht.below⟩
theorem enter_values (args : Array Value) (W : World) : (callFunc 175 args).run Tryz.prog W = .ok (.enter 175 args) W := by kernel_rfl
set_option maxHeartbeats 2000000 in
theorem values_calls (P : Option Addr) (m d : Nat) (w : World) :
  Calls Tryz.prog 155 #[.slice P m d] w fun e w' => e = .returned (.func (.func 175) #[] #[.pointer (some ⟨w.heap.size, 0, none⟩)]) ∧ w' = w.alloc (.cells #[.slice P m d] 44) := by
 go_enter Tryz.func155, Tryz.ntmps155
 go_wp2
 go_ret
 exact ⟨rfl, rfl⟩
theorem own_shapeI {w : World} {B : Nat} {e : TypeId} {v : Value} {l : List Int} (h : Own w B e v (zs l)) : ∃ A c, v = .slice A l.length c ∧ l.length ≤ c := by
 have hl := zs_length l
 rcases h.2 with ⟨rfl, hn⟩ | ⟨g, cap, cur, rfl, _, _, h3, _⟩
 ·exact ⟨none, 0, by rw [← hl, hn], by omega⟩
 ·exact ⟨some ⟨g, 0, none⟩, cap, by rw [hl], by omega⟩

def Clt (pl : List Int) (w : World) (e : Ending) (w' : World) : Prop := ∃ v, e = .returned v ∧ Own w' w.heap.size 3 v (zs pl) ∧ Below w.heap.size w w'
set_option maxRecDepth 100000 in
set_option maxHeartbeats 2000000 in
theorem collect_calls (bx : Nat) (P : Option Addr) (m d : Nat) (pl : List Int) (hl : pl.length = m) (hm : m ≤ 1000000) (w : World) (hv : Vls w.heap.size bx P m d pl w) :
  Calls Tryz.prog 174 #[.func (.func 175) #[] #[.pointer (some ⟨bx, 0, none⟩)]] w (Clt pl w) := by
 have HC : Hid (Calls Tryz.prog 186 #[.slice none 0 0, .func (.func 175) #[] #[.pointer (some ⟨bx, 0, none⟩)]] w (Clt pl w)) := Lib.hid ((appendSeq_calls 175 bx #[.pointer (some ⟨bx, 0, none⟩)] (Vls w.heap.size bx P m d pl) pl (by omega) w (values_visits _ bx bx P m d pl hl hm) enter_values hv.lt (fun _ _ h hb => h.below hb) hv).mono fun e w' ⟨v, h1, h2, h3, h4⟩ =>
  ⟨v, h1, h2, h3.os, h3.tape, h3.output, h3.size, fun k hk => by
   by_cases e : k = bx
   ·subst e; exact h4.blk.trans hv.blk.symm
   ·exact h3.block k hk e⟩)
 clear hv
 go_enter Tryz.func174, Tryz.ntmps174
 go_wp2_with (go_at_call 186; (with_reducible refine HC.out.mono ?_); rintro e w' ⟨v, rfl, hO, hB⟩; obtain ⟨A, c, rfl, hc⟩ := own_shapeI hO; rw [hl] at hO ⊢)
 go_ret
 exact ⟨_, rfl, hO, hB⟩
set_option maxRecDepth 100000 in
set_option maxHeartbeats 2000000 in

theorem sorted_calls (bx : Nat) (P : Option Addr) (m d : Nat) (pl : List Int) (hl : pl.length = m) (hm : m ≤ 1000000) (w : World) (hv : Vls w.heap.size bx P m d pl w) :
  Calls Tryz.prog 154 #[.func (.func 175) #[] #[.pointer (some ⟨bx, 0, none⟩)]] w fun e w' => ∃ A c, e = .returned (.slice A m c) ∧ m ≤ c ∧ Own w' w.heap.size 3 (.slice A m c) (zs (srt pl)) ∧ Below w.heap.size w w' := by
 have HC := Lib.hid (collect_calls bx P m d pl hl hm w hv)
 have HM := Lib.hid hl
 clear hv hl
 go_enter Tryz.func154, Tryz.ntmps154
 go_wp2_with (first
  | (go_at_call 174; (with_reducible refine HC.out.mono ?_); rintro e w1 ⟨v, rfl, hO, hB⟩; obtain ⟨A, c, rfl, hc⟩ := own_shapeI hO; rw [HM.out] at hO hc ⊢; have HO := Lib.hid hO; have HB := Lib.hid hB; clear hO hB)
  | (go_at_call 47; (with_reducible refine (sort_calls w.heap.size A pl m c w1 HM.out (by omega) HO.out).mono ?_); rintro e w2 ⟨rfl, hO2, hg⟩))
 go_ret
 exact ⟨A, c, rfl, hc, hO2, HB.out.trans (HO.out.grew HB.out.size hg)⟩
end Go.Proofs.YtjoghbmedfmioaaGreat.Wl
