/- Of the program, joined: LoTwo, PolyWorks, PolyRefSt, RdSt, RdLaw, RdLaw2, WlFar, WlSpec, LoCode4, LoCode5. -/
import Derived.Test.YtofihklinkpbiaaGreatPl12
import Derived.Test.YtofihklinkpbiaaGreatPl08
import Derived.Test.YtofihklinkpbiaaGreatPl05
import Derived.Test.YtofihklinkpbiaaGreatPl07
namespace Go.Proofs.YtofihklinkpbiaaGreat.Lo
open Go.RowKit Go.Shelf F8 Poly GF Rd Ms
attribute [local go_sem] Oper.semAt_some
attribute [-go_sem] Builtin.append_
theorem app_one {V : World} {B : Nat} {t e : TypeId} {z : Value} {bytes : Nat} {pv u : Value} {xs : List Value} {b : Nat} (ht : Tryz.prog.underlying t = some (.slice e)) (hi : (Tryz.prog.info? e).map (fun i => (i.zero, i.size, i.bytes)) = some (some z, 1, bytes)) (hz : z.cells.size = 1) (hb0 : 0 < bytes) (hb9 : bytes ≤ 8)
  (ho : Own V B e pv xs) (hB : B ≤ V.heap.size) (hb : Block V b e #[u]) (hu : u.oneCell' = true) (hl : xs.length ≤ 1000000) :
  ∃ pv' V', (Builtin.append_ #[t, t] t #[pv, .slice (some ⟨b, 0, none⟩) 1 1]).run Tryz.prog V = .ok pv' V' ∧ Own V' B e pv' (xs ++ [u]) ∧ V.grownBy V' pv.ownBlock ∧ (pv'.ownBlock = pv.ownBlock ∨ pv'.ownBlock = some V.heap.size) ∧ (∀ c t cs, Block V c t cs → pv.ownBlock ≠ some c → Block V' c t cs) := by
 have hK : OwnK 1 V B e pv xs.length xs := ho
 obtain ⟨v', V', hrun, hown, hg, hloc⟩ := run_appK (P := Tryz.prog) V 1 B t t e z bytes ht hi hz (by omega) pv xs.length xs hK ⟨b, 0, none⟩ 1 1 [u] rfl (fun k v hv => by
  have hk : k = 0 := by
   have := (List.getElem?_eq_some_iff.1 hv).1
   simp at this
   omega
  subst hk
  refine ⟨b, 0, rfl, ?_⟩
  have := hb.cell 0
  rw [Nat.zero_add]
  rw [this]
  simpa using hv) (fun v hv => by obtain rfl := List.mem_singleton.1 hv; exact hu) hb0 (by
   have h1 : (xs.length + 1) * bytes ≤ 1000001 * 8 := Nat.mul_le_mul (by omega) hb9
   omega) hB
 obtain ⟨ho1, -⟩ := own1_of hown
 exact ⟨v', V', hrun, ho1, hg, hloc, fun c t cs hc hne => (hg.block _ hc.lt hne.symm).trans hc⟩
theorem own_nb {w : World} {B : Nat} {e t : TypeId} {v : Value} {xs : List Value} {b : Nat} {cs : Array Value} (h : Own w B e v xs) (hm : Block w b t cs) (hne : e ≠ t) : v.ownBlock ≠ some b := fun hv => by
 rcases h.2 with ⟨rfl, -⟩ | ⟨g, cap, cur, rfl, -, hh, -⟩
 ·simp [Value.ownBlock] at hv
 ·simp only [Value.ownBlock, Option.some.injEq] at hv
  subst hv
  unfold Block at hm
  rw [hm] at hh
  injection hh with hh
  injection hh with _ hh
  exact hne hh.symm
structure TA (w : World) (B sb : Nat) (st : Array Value) (pv yv : Value) (P : List Int) (Y : List F8) (V : World) : Prop where
 own1 : Own V B 3 pv (zs P)
 own2 : Own V B 5 yv (bv (bs Y))
 blk : Block V sb 49 st
 bel : Below B w V
section
variable {w V V' : World} {B sb : Nat} {st : Array Value} {pv yv : Value} {P : List Int} {Y : List F8}
theorem TA.below (h : TA w B sb st pv yv P Y V) (hB : B ≤ V.heap.size) (hb : Below V.heap.size V V') : TA w B sb st pv yv P Y V' :=
 ⟨h.own1.below hb, h.own2.below hb, h.blk.below hb h.blk.lt, h.bel.trans (hb.mono hB)⟩
theorem TA.appP (h : TA w B sb st pv yv P Y V) (hB : B ≤ V.heap.size) {b : Nat} {p : Int} (hb : Block V b 3 #[.int .i64 p]) (hl : P.length ≤ 1000000) :
  ∃ pv' V', (Builtin.append_ #[38, 38] 38 #[pv, .slice (some ⟨b, 0, none⟩) 1 1]).run Tryz.prog V = .ok pv' V' ∧ TA w B sb st pv' yv (P ++ [p]) Y V' ∧ V.heap.size ≤ V'.heap.size ∧ ∀ c cs, Block V c 5 cs → Block V' c 5 cs := by
 obtain ⟨v', V', hrun, hown, hg, hloc, hk⟩ := app_one (t := 38) (e := 3) Tryz.underlying38 info_i rfl (by omega) (by omega) h.own1 hB hb rfl (by rw [zs_length]; exact hl)
 rw [show zs P ++ [Value.int .i64 p] = zs (P ++ [p]) by simp [zs]] at hown
 exact ⟨v', V', hrun, ⟨hown, h.own2.grown hg (Ms.own_apart h.own2 (show OwnK 1 V B _ _ _ _ from h.own1) (by decide)), hk _ _ _ h.blk (own_nb h.own1 h.blk (by decide)), h.bel.grown hg hB (fun k hk => (h.own1.lt k hk).1)⟩, hg.size, fun c cs hc => hk _ _ _ hc (own_nb h.own1 hc (by decide))⟩
theorem TA.appY (h : TA w B sb st pv yv P Y V) (hB : B ≤ V.heap.size) {b : Nat} {y : F8} (hb : Block V b 5 #[.int .u8 (y.n : Nat)]) (hl : Y.length ≤ 1000000) :
  ∃ yv' V', (Builtin.append_ #[22, 22] 22 #[yv, .slice (some ⟨b, 0, none⟩) 1 1]).run Tryz.prog V = .ok yv' V' ∧ TA w B sb st pv yv' P (Y ++ [y]) V' ∧ V.heap.size ≤ V'.heap.size ∧ ∀ c cs, Block V c 3 cs → Block V' c 3 cs := by
 obtain ⟨v', V', hrun, hown, hg, hloc, hk⟩ := app_one (t := 22) (e := 5) Tryz.underlying22 info_u8 rfl (by omega) (by omega) h.own2 hB hb rfl (by rw [bvs_length]; exact hl)
 rw [show bv (bs Y) ++ [Value.int .u8 (y.n : Nat)] = bv (bs (Y ++ [y])) from (bvs_snoc Y y).symm] at hown
 exact ⟨v', V', hrun, ⟨h.own1.grown hg (Ms.own_apart h.own1 (show OwnK 1 V B _ _ _ _ from h.own2) (by decide)), hown, hk _ _ _ h.blk (own_nb h.own2 h.blk (by decide)), h.bel.grown hg hB (fun k hk => (h.own2.lt k hk).1)⟩, hg.size, fun c cs hc => hk _ _ _ hc (own_nb h.own2 hc (by decide))⟩
end
theorem TA.apps {w V : World} {B sb : Nat} {st : Array Value} {pv yv : Value} {P : List Int} {Y : List F8} (h : TA w B sb st pv yv P Y V) (hB : B ≤ V.heap.size) (p : Int) (y : F8) (hP : P.length ≤ 1000000) (hY : Y.length ≤ 1000000) :
  (∃ v V1 u V2, (Builtin.append_ #[38, 38] 38 #[pv, .slice (some ⟨V.heap.size, 0, none⟩) 1 1]).run Tryz.prog (V.alloc (.cells #[.int .i64 p] 3)).drew = .ok v V1 ∧ (Builtin.append_ #[22, 22] 22 #[yv, .slice (some ⟨V1.heap.size, 0, none⟩) 1 1]).run Tryz.prog (V1.alloc (.cells #[.int .u8 (y.n : Nat)] 5)) = .ok u V2 ∧ TA w B sb st v u (P ++ [p]) (Y ++ [y]) V2 ∧ TA w B sb st v yv (P ++ [p]) Y V1 ∧ TA w B sb st v yv (P ++ [p]) Y (V1.alloc (.cells #[.int .u8 (y.n : Nat)] 5))) ∧
  (∃ v V1 u V2, (Builtin.append_ #[38, 38] 38 #[pv, .slice (some ⟨V.heap.size, 0, none⟩) 1 1]).run Tryz.prog ((V.alloc (.cells #[.int .i64 p] 3)).alloc (.cells #[.int .u8 (y.n : Nat)] 5)).drew = .ok v V1 ∧ (Builtin.append_ #[22, 22] 22 #[yv, .slice (some ⟨V.heap.size + 1, 0, none⟩) 1 1]).run Tryz.prog V1 = .ok u V2 ∧ TA w B sb st v u (P ++ [p]) (Y ++ [y]) V2 ∧ TA w B sb st v yv (P ++ [p]) Y V1) ∧
  (∃ v V1 u V2, (Builtin.append_ #[22, 22] 22 #[yv, .slice (some ⟨V.heap.size + 1, 0, none⟩) 1 1]).run Tryz.prog ((V.alloc (.cells #[.int .i64 p] 3)).alloc (.cells #[.int .u8 (y.n : Nat)] 5)).drew = .ok u V1 ∧ (Builtin.append_ #[38, 38] 38 #[pv, .slice (some ⟨V.heap.size, 0, none⟩) 1 1]).run Tryz.prog V1 = .ok v V2 ∧ TA w B sb st v u (P ++ [p]) (Y ++ [y]) V2 ∧ TA w B sb st pv u P (Y ++ [y]) V1) ∧
  (∃ v V1 u V2, (Builtin.append_ #[38, 38] 38 #[pv, .slice (some ⟨V.heap.size + 1, 0, none⟩) 1 1]).run Tryz.prog ((V.alloc (.cells #[.int .u8 (y.n : Nat)] 5)).alloc (.cells #[.int .i64 p] 3)).drew = .ok v V1 ∧ (Builtin.append_ #[22, 22] 22 #[yv, .slice (some ⟨V.heap.size, 0, none⟩) 1 1]).run Tryz.prog V1 = .ok u V2 ∧ TA w B sb st v u (P ++ [p]) (Y ++ [y]) V2 ∧ TA w B sb st v yv (P ++ [p]) Y V1) ∧
  (∃ v V1 u V2, (Builtin.append_ #[22, 22] 22 #[yv, .slice (some ⟨V.heap.size, 0, none⟩) 1 1]).run Tryz.prog ((V.alloc (.cells #[.int .u8 (y.n : Nat)] 5)).alloc (.cells #[.int .i64 p] 3)).drew = .ok u V1 ∧ (Builtin.append_ #[38, 38] 38 #[pv, .slice (some ⟨V.heap.size + 1, 0, none⟩) 1 1]).run Tryz.prog V1 = .ok v V2 ∧ TA w B sb st v u (P ++ [p]) (Y ++ [y]) V2 ∧ TA w B sb st pv u P (Y ++ [y]) V1) ∧
  (∃ v V1 u V2, (Builtin.append_ #[22, 22] 22 #[yv, .slice (some ⟨V.heap.size, 0, none⟩) 1 1]).run Tryz.prog (V.alloc (.cells #[.int .u8 (y.n : Nat)] 5)).drew = .ok u V1 ∧ (Builtin.append_ #[38, 38] 38 #[pv, .slice (some ⟨V1.heap.size, 0, none⟩) 1 1]).run Tryz.prog (V1.alloc (.cells #[.int .i64 p] 3)) = .ok v V2 ∧ TA w B sb st v u (P ++ [p]) (Y ++ [y]) V2 ∧ TA w B sb st pv u P (Y ++ [y]) V1 ∧ TA w B sb st pv u P (Y ++ [y]) (V1.alloc (.cells #[.int .i64 p] 3))) := by
 have e1 : (V.alloc (.cells #[.int .i64 p] 3)).heap.size = V.heap.size + 1 := World.size_alloc _ _
 have e2 : (V.alloc (.cells #[.int .u8 (y.n : Nat)] 5)).heap.size = V.heap.size + 1 := World.size_alloc _ _
 have bP := Block.new V 3 #[.int .i64 p]
 have bY := Block.new V 5 #[.int .u8 (y.n : Nat)]
 have bY2 : Block ((V.alloc (.cells #[.int .i64 p] 3)).alloc (.cells #[.int .u8 (y.n : Nat)] 5)) (V.heap.size + 1) 5 #[.int .u8 (y.n : Nat)] := by
  have := Block.new (V.alloc (.cells #[.int .i64 p] 3)) 5 #[.int .u8 (y.n : Nat)]
  rw [e1] at this; exact this
 have bP2 : Block ((V.alloc (.cells #[.int .u8 (y.n : Nat)] 5)).alloc (.cells #[.int .i64 p] 3)) (V.heap.size + 1) 3 #[.int .i64 p] := by
  have := Block.new (V.alloc (.cells #[.int .u8 (y.n : Nat)] 5)) 3 #[.int .i64 p]
  rw [e2] at this; exact this
 have b1 : Below V.heap.size V (V.alloc (.cells #[.int .i64 p] 3)).drew := ((Below.refl _ _).alloc (Nat.le_refl _) _).drew
 have b2 : Below V.heap.size V (V.alloc (.cells #[.int .u8 (y.n : Nat)] 5)).drew := ((Below.refl _ _).alloc (Nat.le_refl _) _).drew
 have b3 : Below V.heap.size V ((V.alloc (.cells #[.int .i64 p] 3)).alloc (.cells #[.int .u8 (y.n : Nat)] 5)).drew := (((Below.refl _ _).alloc (Nat.le_refl _) _).alloc (by omega) _).drew
 have b4 : Below V.heap.size V ((V.alloc (.cells #[.int .u8 (y.n : Nat)] 5)).alloc (.cells #[.int .i64 p] 3)).drew := (((Below.refl _ _).alloc (Nat.le_refl _) _).alloc (by omega) _).drew
 have nw : ∀ (X : World) (o : Obj), Below X.heap.size X (X.alloc o) := fun X o => (Below.refl _ _).alloc (Nat.le_refl _) o
 refine ⟨?_, ?_, ?_, ?_, ?_, ?_⟩
 ·have hz := Nat.le_trans hB b1.size
  obtain ⟨v, V1, r1, k1, z1, -⟩ := (h.below hB b1).appP hz bP.drew hP
  have k1' := k1.below (Nat.le_trans hz z1) (nw V1 (.cells #[.int .u8 (y.n : Nat)] 5))
  obtain ⟨u, V2, r2, k2, -, -⟩ := k1'.appY (Nat.le_trans (Nat.le_trans hz z1) (nw V1 (.cells #[.int .u8 (y.n : Nat)] 5)).size) (Block.new V1 5 #[.int .u8 (y.n : Nat)]) hY
  exact ⟨v, V1, u, V2, r1, r2, k2, k1, k1'⟩
 ·have hz := Nat.le_trans hB b3.size
  obtain ⟨v, V1, r1, k1, z1, q1⟩ := (h.below hB b3).appP hz (bP.alloc _).drew hP
  obtain ⟨u, V2, r2, k2, -, -⟩ := k1.appY (Nat.le_trans hz z1) (q1 _ _ bY2.drew) hY
  exact ⟨v, V1, u, V2, r1, r2, k2, k1⟩
 ·have hz := Nat.le_trans hB b3.size
  obtain ⟨u, V1, r1, k1, z1, q1⟩ := (h.below hB b3).appY hz bY2.drew hY
  obtain ⟨v, V2, r2, k2, -, -⟩ := k1.appP (Nat.le_trans hz z1) (q1 _ _ (bP.alloc _).drew) hP
  exact ⟨v, V1, u, V2, r1, r2, k2, k1⟩
 ·have hz := Nat.le_trans hB b4.size
  obtain ⟨v, V1, r1, k1, z1, q1⟩ := (h.below hB b4).appP hz bP2.drew hP
  obtain ⟨u, V2, r2, k2, -, -⟩ := k1.appY (Nat.le_trans hz z1) (q1 _ _ (bY.alloc _).drew) hY
  exact ⟨v, V1, u, V2, r1, r2, k2, k1⟩
 ·have hz := Nat.le_trans hB b4.size
  obtain ⟨u, V1, r1, k1, z1, q1⟩ := (h.below hB b4).appY hz (bY.alloc _).drew hY
  obtain ⟨v, V2, r2, k2, -, -⟩ := k1.appP (Nat.le_trans hz z1) (q1 _ _ bP2.drew) hP
  exact ⟨v, V1, u, V2, r1, r2, k2, k1⟩
 ·have hz := Nat.le_trans hB b2.size
  obtain ⟨u, V1, r1, k1, z1, -⟩ := (h.below hB b2).appY hz bY.drew hY
  have k1' := k1.below (Nat.le_trans hz z1) (nw V1 (.cells #[.int .i64 p] 3))
  obtain ⟨v, V2, r2, k2, -, -⟩ := k1'.appP (Nat.le_trans (Nat.le_trans hz z1) (nw V1 (.cells #[.int .i64 p] 3)).size) (Block.new V1 3 #[.int .i64 p]) hP
  exact ⟨v, V1, u, V2, r1, r2, k2, k1, k1'⟩
structure TB (w : World) (B : Nat) (xv yv : Value) (X Y : List F8) (V : World) : Prop where
 own1 : Own V B 5 xv (bv (bs X))
 own2 : Own V B 5 yv (bv (bs Y))
 ap : xv.ownBlock = none ∨ xv.ownBlock ≠ yv.ownBlock
 bel : Below B w V
theorem apart_symm {a b : Option Nat} (h : a = none ∨ a ≠ b) : b = none ∨ b ≠ a := by
 rcases h with h | h
 ·subst h
  cases b with
  | none => exact .inl rfl
  | some x => exact .inr (by simp)
 ·exact .inr h.symm
section
variable {w V V' : World} {B : Nat} {xv yv : Value} {X Y : List F8}
theorem TB.swap (h : TB w B xv yv X Y V) : TB w B yv xv Y X V := ⟨h.own2, h.own1, apart_symm h.ap, h.bel⟩
theorem TB.below (h : TB w B xv yv X Y V) (hB : B ≤ V.heap.size) (hb : Below V.heap.size V V') : TB w B xv yv X Y V' :=
 ⟨h.own1.below hb, h.own2.below hb, h.ap, h.bel.trans (hb.mono hB)⟩
theorem TB.appX (h : TB w B xv yv X Y V) (hB : B ≤ V.heap.size) {b : Nat} {x : F8} (hb : Block V b 5 #[.int .u8 (x.n : Nat)]) (hl : X.length ≤ 1000000) :
  ∃ xv' V', (Builtin.append_ #[22, 22] 22 #[xv, .slice (some ⟨b, 0, none⟩) 1 1]).run Tryz.prog V = .ok xv' V' ∧ TB w B xv' yv (X ++ [x]) Y V' ∧ V.heap.size ≤ V'.heap.size ∧ ∀ c cs, Block V c 5 cs → xv.ownBlock ≠ some c → Block V' c 5 cs := by
 obtain ⟨v', V', hrun, hown, hg, hloc, hk⟩ := app_one (t := 22) (e := 5) Tryz.underlying22 info_u8 rfl (by omega) (by omega) h.own1 hB hb rfl (by rw [bvs_length]; exact hl)
 rw [show bv (bs X) ++ [Value.int .u8 (x.n : Nat)] = bv (bs (X ++ [x])) from (bvs_snoc X x).symm] at hown
 refine ⟨v', V', hrun, ⟨hown, h.own2.grown hg (apart_symm h.ap), ?_, h.bel.grown hg hB (fun k hk => (h.own1.lt k hk).1)⟩, hg.size, fun c cs hc hne => hk _ _ _ hc hne⟩
 rcases hloc with e | e
 ·rw [e]; exact h.ap
 ·rw [e]
  refine .inr fun e2 => ?_
  have := (h.own2.lt _ e2.symm).2
  omega
end
theorem own_new {V : World} {B c : Nat} {e : TypeId} {v : Value} {xs : List Value} (h : Own V B e v xs) (hc : V.heap.size ≤ c) : v.ownBlock ≠ some c := fun hv => by
 have := (h.lt c hv).2
 omega
set_option maxHeartbeats 2000000 in
theorem TB.apps {w V : World} {B : Nat} {xv yv : Value} {X Y : List F8} (h : TB w B xv yv X Y V) (hB : B ≤ V.heap.size) (x y : F8) (hX : X.length ≤ 1000000) (hY : Y.length ≤ 1000000) :
  (∃ v V1 u V2, (Builtin.append_ #[22, 22] 22 #[xv, .slice (some ⟨V.heap.size, 0, none⟩) 1 1]).run Tryz.prog (V.alloc (.cells #[.int .u8 (x.n : Nat)] 5)).drew = .ok v V1 ∧ (Builtin.append_ #[22, 22] 22 #[yv, .slice (some ⟨V1.heap.size, 0, none⟩) 1 1]).run Tryz.prog (V1.alloc (.cells #[.int .u8 (y.n : Nat)] 5)) = .ok u V2 ∧ TB w B v u (X ++ [x]) (Y ++ [y]) V2 ∧ TB w B v yv (X ++ [x]) Y V1 ∧ TB w B v yv (X ++ [x]) Y (V1.alloc (.cells #[.int .u8 (y.n : Nat)] 5))) ∧
  (∃ v V1 u V2, (Builtin.append_ #[22, 22] 22 #[xv, .slice (some ⟨V.heap.size, 0, none⟩) 1 1]).run Tryz.prog ((V.alloc (.cells #[.int .u8 (x.n : Nat)] 5)).alloc (.cells #[.int .u8 (y.n : Nat)] 5)).drew = .ok v V1 ∧ (Builtin.append_ #[22, 22] 22 #[yv, .slice (some ⟨V.heap.size + 1, 0, none⟩) 1 1]).run Tryz.prog V1 = .ok u V2 ∧ TB w B v u (X ++ [x]) (Y ++ [y]) V2 ∧ TB w B v yv (X ++ [x]) Y V1) ∧
  (∃ v V1 u V2, (Builtin.append_ #[22, 22] 22 #[yv, .slice (some ⟨V.heap.size + 1, 0, none⟩) 1 1]).run Tryz.prog ((V.alloc (.cells #[.int .u8 (x.n : Nat)] 5)).alloc (.cells #[.int .u8 (y.n : Nat)] 5)).drew = .ok u V1 ∧ (Builtin.append_ #[22, 22] 22 #[xv, .slice (some ⟨V.heap.size, 0, none⟩) 1 1]).run Tryz.prog V1 = .ok v V2 ∧ TB w B v u (X ++ [x]) (Y ++ [y]) V2 ∧ TB w B xv u X (Y ++ [y]) V1) ∧
  (∃ v V1 u V2, (Builtin.append_ #[22, 22] 22 #[xv, .slice (some ⟨V.heap.size + 1, 0, none⟩) 1 1]).run Tryz.prog ((V.alloc (.cells #[.int .u8 (y.n : Nat)] 5)).alloc (.cells #[.int .u8 (x.n : Nat)] 5)).drew = .ok v V1 ∧ (Builtin.append_ #[22, 22] 22 #[yv, .slice (some ⟨V.heap.size, 0, none⟩) 1 1]).run Tryz.prog V1 = .ok u V2 ∧ TB w B v u (X ++ [x]) (Y ++ [y]) V2 ∧ TB w B v yv (X ++ [x]) Y V1) ∧
  (∃ v V1 u V2, (Builtin.append_ #[22, 22] 22 #[yv, .slice (some ⟨V.heap.size, 0, none⟩) 1 1]).run Tryz.prog ((V.alloc (.cells #[.int .u8 (y.n : Nat)] 5)).alloc (.cells #[.int .u8 (x.n : Nat)] 5)).drew = .ok u V1 ∧ (Builtin.append_ #[22, 22] 22 #[xv, .slice (some ⟨V.heap.size + 1, 0, none⟩) 1 1]).run Tryz.prog V1 = .ok v V2 ∧ TB w B v u (X ++ [x]) (Y ++ [y]) V2 ∧ TB w B xv u X (Y ++ [y]) V1) ∧
  (∃ v V1 u V2, (Builtin.append_ #[22, 22] 22 #[yv, .slice (some ⟨V.heap.size, 0, none⟩) 1 1]).run Tryz.prog (V.alloc (.cells #[.int .u8 (y.n : Nat)] 5)).drew = .ok u V1 ∧ (Builtin.append_ #[22, 22] 22 #[xv, .slice (some ⟨V1.heap.size, 0, none⟩) 1 1]).run Tryz.prog (V1.alloc (.cells #[.int .u8 (x.n : Nat)] 5)) = .ok v V2 ∧ TB w B v u (X ++ [x]) (Y ++ [y]) V2 ∧ TB w B xv u X (Y ++ [y]) V1 ∧ TB w B xv u X (Y ++ [y]) (V1.alloc (.cells #[.int .u8 (x.n : Nat)] 5))) := by
 have key : ∀ {xv yv : Value} {X Y : List F8} (_ : TB w B xv yv X Y V) (x y : F8) (_ : X.length ≤ 1000000) (_ : Y.length ≤ 1000000),
   (∃ v V1 u V2, (Builtin.append_ #[22, 22] 22 #[xv, .slice (some ⟨V.heap.size, 0, none⟩) 1 1]).run Tryz.prog (V.alloc (.cells #[.int .u8 (x.n : Nat)] 5)).drew = .ok v V1 ∧ (Builtin.append_ #[22, 22] 22 #[yv, .slice (some ⟨V1.heap.size, 0, none⟩) 1 1]).run Tryz.prog (V1.alloc (.cells #[.int .u8 (y.n : Nat)] 5)) = .ok u V2 ∧ TB w B v u (X ++ [x]) (Y ++ [y]) V2 ∧ TB w B v yv (X ++ [x]) Y V1 ∧ TB w B v yv (X ++ [x]) Y (V1.alloc (.cells #[.int .u8 (y.n : Nat)] 5))) ∧
   (∃ v V1 u V2, (Builtin.append_ #[22, 22] 22 #[xv, .slice (some ⟨V.heap.size, 0, none⟩) 1 1]).run Tryz.prog ((V.alloc (.cells #[.int .u8 (x.n : Nat)] 5)).alloc (.cells #[.int .u8 (y.n : Nat)] 5)).drew = .ok v V1 ∧ (Builtin.append_ #[22, 22] 22 #[yv, .slice (some ⟨V.heap.size + 1, 0, none⟩) 1 1]).run Tryz.prog V1 = .ok u V2 ∧ TB w B v u (X ++ [x]) (Y ++ [y]) V2 ∧ TB w B v yv (X ++ [x]) Y V1) ∧
   (∃ v V1 u V2, (Builtin.append_ #[22, 22] 22 #[yv, .slice (some ⟨V.heap.size + 1, 0, none⟩) 1 1]).run Tryz.prog ((V.alloc (.cells #[.int .u8 (x.n : Nat)] 5)).alloc (.cells #[.int .u8 (y.n : Nat)] 5)).drew = .ok u V1 ∧ (Builtin.append_ #[22, 22] 22 #[xv, .slice (some ⟨V.heap.size, 0, none⟩) 1 1]).run Tryz.prog V1 = .ok v V2 ∧ TB w B v u (X ++ [x]) (Y ++ [y]) V2 ∧ TB w B xv u X (Y ++ [y]) V1) := by
  intro xv yv X Y h x y hX hY
  have e1 : (V.alloc (.cells #[.int .u8 (x.n : Nat)] 5)).heap.size = V.heap.size + 1 := World.size_alloc _ _
  have bX := Block.new V 5 #[.int .u8 (x.n : Nat)]
  have bY2 : Block ((V.alloc (.cells #[.int .u8 (x.n : Nat)] 5)).alloc (.cells #[.int .u8 (y.n : Nat)] 5)) (V.heap.size + 1) 5 #[.int .u8 (y.n : Nat)] := by
   have := Block.new (V.alloc (.cells #[.int .u8 (x.n : Nat)] 5)) 5 #[.int .u8 (y.n : Nat)]
   rw [e1] at this; exact this
  have b1 : Below V.heap.size V (V.alloc (.cells #[.int .u8 (x.n : Nat)] 5)).drew := ((Below.refl _ _).alloc (Nat.le_refl _) _).drew
  have b3 : Below V.heap.size V ((V.alloc (.cells #[.int .u8 (x.n : Nat)] 5)).alloc (.cells #[.int .u8 (y.n : Nat)] 5)).drew := (((Below.refl _ _).alloc (Nat.le_refl _) _).alloc (by omega) _).drew
  have nw : ∀ (X : World) (o : Obj), Below X.heap.size X (X.alloc o) := fun X o => (Below.refl _ _).alloc (Nat.le_refl _) o
  have n1 : xv.ownBlock ≠ some (V.heap.size + 1) := own_new h.own1 (by omega)
  have n2 : yv.ownBlock ≠ some V.heap.size := own_new h.own2 (Nat.le_refl _)
  refine ⟨?_, ?_, ?_⟩
  ·have hz := Nat.le_trans hB b1.size
   obtain ⟨v, V1, r1, k1, z1, -⟩ := (h.below hB b1).appX hz bX.drew hX
   have k1' := k1.below (Nat.le_trans hz z1) (nw V1 (.cells #[.int .u8 (y.n : Nat)] 5))
   obtain ⟨u, V2, r2, k2, -, -⟩ := k1'.swap.appX (Nat.le_trans (Nat.le_trans hz z1) (nw V1 (.cells #[.int .u8 (y.n : Nat)] 5)).size) (Block.new V1 5 #[.int .u8 (y.n : Nat)]) hY
   exact ⟨v, V1, u, V2, r1, r2, k2.swap, k1, k1'⟩
  ·have hz := Nat.le_trans hB b3.size
   obtain ⟨v, V1, r1, k1, z1, q1⟩ := (h.below hB b3).appX hz (bX.alloc _).drew hX
   obtain ⟨u, V2, r2, k2, -, -⟩ := k1.swap.appX (Nat.le_trans hz z1) (q1 _ _ bY2.drew n1) hY
   exact ⟨v, V1, u, V2, r1, r2, k2.swap, k1⟩
  ·have hz := Nat.le_trans hB b3.size
   obtain ⟨u, V1, r1, k1, z1, q1⟩ := (h.below hB b3).swap.appX hz bY2.drew hY
   obtain ⟨v, V2, r2, k2, -, -⟩ := k1.swap.appX (Nat.le_trans hz z1) (q1 _ _ (bX.alloc _).drew n2) hX
   exact ⟨v, V1, u, V2, r1, r2, k2, k1.swap⟩
 obtain ⟨k1, k2, k3⟩ := key h x y hX hY
 obtain ⟨⟨u4, W4, v4, Z4, a4, b4, c4, d4, f4⟩, ⟨u5, W5, v5, Z5, a5, b5, c5, d5⟩, ⟨v6, W6, u6, Z6, a6, b6, c6, d6⟩⟩ := key h.swap y x hY hX
 exact ⟨k1, k2, k3, ⟨u6, W6, v6, Z6, a6, b6, c6.swap, d6.swap⟩, ⟨v5, W5, u5, Z5, a5, b5, c5.swap, d5.swap⟩, ⟨v4, W4, u4, Z4, a4, b4, c4.swap, d4.swap, f4.swap⟩⟩
end Go.Proofs.YtofihklinkpbiaaGreat.Lo

namespace Go.Proofs.YtofihklinkpbiaaGreat.Rd
open Go.RowKit Go.Shelf F8 Poly GF
attribute [local go_sem] Oper.semAt_some
section
variable {w0 w w' : World} {a b g B : Nat} {A : Option Addr} {xs : List F8} {n c k : Nat} {ls : List (Option Addr × List F8)}
theorem Cd.turn (h : Cd w b g A xs n c k) (hp : Past B a w w') (hB : w.heap.size ≤ B) (hb : b ≠ a) (hg : g ≠ a) (hA : ∀ x, A = some x → x.block ≠ a) : Cd w' b g A xs n c k :=
 { h with
  blk := h.blk.past hp (by have := h.blk.lt; omega) hb
  by_ := bytes_far h.by_ (fun _ => hA) (hp.mono hB)
  fld := FldP.of (h.fld.fld.imp (fun x => x.past hp (by have := x.lt; omega) hg) (fun x => x.past hp (by have := x.lt; omega) hg)) }
theorem Cd.alt (h : Cd w b g A xs n c k) : ∀ x, A = some x → x.block < w.heap.size := fun a ha => by
 have h0 : 0 < xs.length := by have := h.k1; have := h.kn; have := h.len; omega
 obtain ⟨b', off, e, hc⟩ := cellF h.by_ 0 h0
 rw [ha] at e; cases e
 exact cell_lt hc
theorem own_past {e : TypeId} {v : Value} {xs : List Value} (h : Own w B e v xs) (hg : g < B) (hp : Past w.heap.size g w w') : Own w' B e v xs :=
 h.grown (row := some g) ⟨hp.os, hp.tape, hp.output, hp.size, fun k hk hn => hp.block k hk (fun e => hn (by rw [e]))⟩ (.inr (fun e => by have := (h.lt g e).1; omega))
theorem conv_b (p : List F8) (n : Nat) (hn : p.length = n) (w : World) : (convert 9 22 (.string (str (bs p)))).run Tryz.prog w = .ok (.slice (some ⟨w.heap.size, 0, none⟩) n (grownCap w n 0 5)) (Lib.bytesWorld w 5 (str (bs p))) := by
 have h := conv_bytes (P := Tryz.prog) w (bs p) 9 22 5 Tryz.underlying9 Tryz.underlying22 Tryz.underlying5
 rw [bs_length, hn] at h; exact h
theorem bw_below (w : World) (p : List F8) : Below w.heap.size w (Lib.bytesWorld w 5 (str (bs p))) := bytesWorld_below w _ _
theorem bw_bytes (w : World) (p : List F8) : Bytes (Lib.bytesWorld w 5 (str (bs p))) (some ⟨w.heap.size, 0, none⟩) (bs p) := bytesWorld_bytes w _ (bs p) (bs_lt p)
def Conv (w : World) (a : Nat) (n : Nat) : Prop := ∃ cs : Array Value, w.heap[a]? = some (.cells cs 5 (cs.size, cs.size + 1)) ∧ n ≤ cs.size ∧ ∀ i, i < n → ∃ x : Int, cs[i]? = some (.int .u8 x)
theorem Conv.new (w : World) (p : List F8) (hn : p.length = n) : Conv (Lib.bytesWorld w 5 (str (bs p))) w.heap.size n := by
 refine ⟨_, Lib.bytesWorld_at_new w _ _, ?_, fun i hi => ?_⟩
 ·simp [Lib.bytesCells, ByteArray.size, str, bs, hn]
 ·have hs : i < (str (bs p)).data.size := by simp [str, bs, hn, hi]
  refine ⟨((str (bs p)).data[i]).toNat, ?_⟩
  simp only [Lib.bytesCells]
  rw [Array.getElem?_append_left (by simpa using hs)]
  simp only [Array.getElem?_map, Option.map_eq_some_iff]
  exact ⟨_, Array.getElem?_eq_getElem hs, rfl⟩
theorem Conv.cell (h : Conv w a n) {i : Nat} (hi : i < n) : (∃ x : Int, w.cell? ⟨a, i, none⟩ = some (.int .u8 x)) ∧ w.frozen? ⟨a, i, none⟩ = false := by
 obtain ⟨cs, h1, h2, h3⟩ := h
 obtain ⟨x, hx⟩ := h3 i hi
 refine ⟨⟨x, by simp [World.cell?, h1, hx]⟩, ?_⟩
 simp [World.frozen?, h1]
 omega
theorem Conv.set_ (h : Conv w a n) (i : Nat) (x : Int) : Conv (w.setCell ⟨a, i, none⟩ (.int .u8 x)) a n := by
 obtain ⟨cs, h1, h2, h3⟩ := h
 refine ⟨cs.setIfInBounds i (.int .u8 x), ?_, by simpa using h2, fun j hj => ?_⟩
 ·simp [World.setCell, Array.getElem?_modify, h1]
 ·rw [Array.getElem?_setIfInBounds]
  by_cases e : i = j
  ·rw [if_pos e, if_pos (by omega)]; exact ⟨x, rfl⟩
  ·rw [if_neg e]; exact h3 j hj
theorem Conv.below (h : Conv w a n) (hb : Below w.heap.size w w') : Conv w' a n := by
 obtain ⟨cs, h1, h2, h3⟩ := h
 refine ⟨cs, ?_, h2, h3⟩
 rw [hb.block a (by
  rcases Nat.lt_or_ge a w.heap.size with h | h
  ·exact h
  ·rw [Array.getElem?_eq_none h] at h1; cases h1)]
 exact h1
end
end Go.Proofs.YtofihklinkpbiaaGreat.Rd

namespace Go.Proofs.YtofihklinkpbiaaGreat.Rd
open Go.RowKit Go.Shelf F8 Poly GF
attribute [local go_sem] Oper.semAt_some
theorem own_row {w : World} {B n c : Nat} {e : TypeId} {A : Option Addr} {xs : List Value} (h : Own w B e (.slice A n c) xs) : Row w A xs := by
 obtain ⟨A', c', e1, hr, _⟩ := h.form
 injection e1 with e2 _ _
 subst e2
 exact hr
theorem own_apart {w : World} {B B' : Nat} {e e' : TypeId} {v v' : Value} {xs ys : List Value} (h : Own w B e v xs) (h' : Own w B' e' v' ys) (hne : e ≠ e') : v.ownBlock = none ∨ v.ownBlock ≠ v'.ownBlock := by
 rcases h.2 with ⟨rfl, _⟩ | ⟨b, cap, cur, rfl, _, hh, _⟩
 ·exact .inl rfl
 ·right
  rcases h'.2 with ⟨rfl, _⟩ | ⟨b', cap', cur', rfl, _, hh', _⟩
  ·simp [Value.ownBlock]
  ·intro e1
   obtain rfl : b = b' := by simpa [Value.ownBlock] using e1
   rw [hh] at hh'
   simp only [Option.some.injEq, Obj.cells.injEq] at hh'
   exact hne hh'.2.1
theorem own_other {w w' : World} {B B' : Nat} {e e' : TypeId} {v v' : Value} {xs ys : List Value} (h : Own w B e v xs) (h' : Own w B' e' v' ys) (hne : e ≠ e') (hg : w.grownBy w' v'.ownBlock) : Own w' B e v xs :=
 h.grown hg (own_apart h h' hne)
theorem cellI {w : World} {b off : Nat} {l : List Int} (h : Row w (some ⟨b, off, none⟩) (zs l)) {k : Nat} (hk : k < l.length) : w.cell? ⟨b, off + k, none⟩ = some (.int .i64 l[k]) := by
 obtain ⟨b', off', e, hc⟩ := zs_at h hk
 cases e
 exact hc
theorem bvs_put (ys : List F8) (i : Nat) (v : F8) : (bv (bs ys)).set i (.int .u8 (v.n : Nat)) = bv (bs (ys.set i v)) := by simp [bv, bs, List.map_set]
theorem f8_xor (x y : F8) : bits .xor .u8 (x.n : Int) (y.n : Int) = (((x + y).n : Nat) : Int) := u8_xor' x.n y.n x.h y.h
end Go.Proofs.YtofihklinkpbiaaGreat.Rd

namespace Go.Proofs.YtofihklinkpbiaaGreat.Wl
open Go.RowKit Go.Shelf F8 Poly GF Rd
def WRes (g : Nat) (w : World) (m : List F8) (wl : List Int) (z : Int) (e : Ending) (w' : World) : Prop :=
 ∃ A c B d, e = .returned (.tuple #[.slice A m.length c, .slice B wl.length d, .int .i64 z]) ∧ m.length ≤ c ∧ wl.length ≤ d ∧ Own w' w.heap.size 5 (.slice A m.length c) (bv (bs m)) ∧ Own w' w.heap.size 3 (.slice B wl.length d) (zs wl) ∧ FldP w' (some ⟨g, 0, none⟩) ∧ Past w.heap.size g w w'
structure Spec : Prop where
 decodeP : ∀ {w : World} {b g : Nat} {A : Option Addr} {xs : List F8} {n c k : Nat} (_ : Cd w b g A xs n c k) (P : Option Addr) (pl : List Int) (m d : Nat) (_ : pl.length = m) (_ : Row w P (zs pl)) (_ : m ≤ 1000) (B : Option Addr) (ys : List F8) (o e : Nat) (_ : ys.length = o) (_ : Bytes w B (bs ys)) (_ : o ≤ e) (_ : o ≤ 1000) (_ : Far (some ⟨g, 0, none⟩) B ys) (t : Int) (_ : -9223372036854775808 ≤ t) (_ : t < 9223372036854775808),
  Calls Tryz.prog 60 #[.pointer (some ⟨b, 0, none⟩), .slice P m d, .slice B o e, .int .i64 t] w fun e w' => ∃ msg wl z, WIs xs k pl ys t msg wl z ∧ WRes g w msg wl z e w'
 decode0 : ∀ (P : Option Addr) (m d : Nat) (B : Option Addr) (o e : Nat) (t : Int) (w : World),
  Calls Tryz.prog 60 #[.pointer none, .slice P m d, .slice B o e, .int .i64 t] w fun e w' => e = .returned (.tuple #[.slice none 0 0, .slice none 0 0, .int .i64 1]) ∧ Below w.heap.size w w'
end Go.Proofs.YtofihklinkpbiaaGreat.Wl

namespace Go.Proofs.YtofihklinkpbiaaGreat.Lo
open Go.RowKit Go.Shelf F8 Poly GF Rd Ms
attribute [local go_sem] Oper.semAt_some
def NeG (S : Lc) (sh : List (Int × List F8)) (t : Int) (w : World) (e : Ending) (w' : World) : Prop :=
 (LOk S.n sh ∧ ∃ p wl z, Wl.WIs S.xs S.T (plS sh) (ysS sh) t p wl z ∧ Wl.WRes S.g w p wl z e w') ∨
 (¬ LOk S.n sh ∧ e = .returned (.tuple #[.slice none 0 0, .slice none 0 0, .int .i64 2]) ∧ Below w.heap.size w w')
theorem plS_take {l : List El} {i : Nat} (h : i < l.length) : plS (shE (l.take (i + 1))) = plS (shE (l.take i)) ++ [(l[i]).p] := by
 rw [plS_shE, plS_shE, take_succ' _ h, List.map_append]; rfl
theorem ysS_take {l : List El} {i : Nat} (h : i < l.length) : ysS (shE (l.take (i + 1))) = ysS (shE (l.take i)) ++ [coef (l[i]).s 0] := by
 unfold ysS shE
 rw [take_succ' _ h, List.map_append, List.map_append]; rfl
theorem plS_len (l : List El) (i : Nat) : (plS (shE (l.take i))).length ≤ l.length := by rw [plS_length, shE_length, List.length_take]; omega
theorem ysS_len (l : List El) (i : Nat) : (ysS (shE (l.take i))).length ≤ l.length := by rw [ysS_length, shE_length, List.length_take]; omega
attribute [-go_sem] Builtin.append_
set_option maxRecDepth 100000 in
set_option maxHeartbeats 8000000 in
theorem nearest_calls (Z : Wl.Spec) {S : Lc} {w : World} (h : S.Ok w) (A : Option Addr) (l : List El) (m c : Nat) (t : Int) (ht1 : -9223372036854775808 ≤ t) (ht2 : t < 9223372036854775808) (hl : l.length = m) (hm : m ≤ 1000) (hE : Els S.g w A l) :
  Calls Tryz.prog 82 #[S.ex, .slice A m c, .int .i64 t] w (NeG S (shE l) t w) := by
 have hn := h.par.nums
 obtain ⟨V, hV⟩ : ∃ V, w.alloc (.cells #[.pointer (some ⟨S.g, 0, none⟩), .slice S.A S.n S.c, .pointer (some ⟨S.rb, 0, none⟩)] 118) = V := ⟨_, rfl⟩
 have hbV : Below w.heap.size w V := by rw [← hV]; exact (Below.refl _ _).alloc (Nat.le_refl _) _
 have hbl : Block V w.heap.size 118 #[.pointer (some ⟨S.g, 0, none⟩), .slice S.A S.n S.c, .pointer (some ⟨S.rb, 0, none⟩)] := by rw [← hV]; exact Block.new w _ _
 have c0 : V.cell? ⟨w.heap.size, 0, none⟩ = some (.pointer (some ⟨S.g, 0, none⟩)) := hbl.cell 0
 have c1 : V.cell? ⟨w.heap.size, 1, none⟩ = some (.slice S.A S.n S.c) := hbl.cell 1
 have c2 : V.cell? ⟨w.heap.size, 2, none⟩ = some (.pointer (some ⟨S.rb, 0, none⟩)) := hbl.cell 2
 have hfit := fit_calls S (by omega) A l m c V hl hm (hE.below hbV).row
 have HBv := Lib.hid hbV
 have HBl := Lib.hid hbl
 have H := Lib.hid h
 have HE := Lib.hid hE
 have HL := Lib.hid hl
 by_cases hok : LOk S.n (shE l)
 rotate_left
 ·rw [decide_eq_false (fun e => hok (lok_iff.2 e))] at hfit
  have HFit := Lib.hid hfit
  have HX : Hid (∀ w', Below w.heap.size w w' → NeG S (shE l) t w (.returned (.tuple #[.slice none 0 0, .slice none 0 0, .int .i64 2])) w') := Lib.hid fun w' hb => .inr ⟨hok, rfl, hb⟩
  clear hfit hok h hE hl hn hbV hbl
  unfold Lc.ex at HFit ⊢
  go_enter Tryz.func82, Tryz.ntmps82
  go_wp2_with (go_at_call 74; (with_reducible refine HFit.out.mono ?_); rintro e w1 ⟨rfl, hb1⟩)
  go_ret3
  exact HX.out _ (HBv.out.trans (hb1.mono HBv.out.size))
 rw [decide_eq_true (lok_iff.1 hok)] at hfit
 have HFit := Lib.hid hfit
 have HOk := Lib.hid hok
 have hN9 : S.n ≤ 255 := by omega
 clear hfit hok h hE hl hn hbV hbl
 unfold Lc.ex at HFit ⊢
 go_enter Tryz.func82, Tryz.ntmps82
 go_wp2_with (go_at_call 74; (with_reducible refine HFit.out.mono ?_); rintro e w1 ⟨rfl, hb1⟩)
 have HB1 := Lib.hid (HBv.out.trans (hb1.mono HBv.out.size))
 have HBl1 := Lib.hid (HBl.out.below hb1 HBl.out.lt)
 have HE1 := Lib.hid (HE.out.below HB1.out)
 have H1 := Lib.hid (H.out.below HB1.out)
 clear hb1 c0 c1 c2 HFit HBl hV
 go_loopw [9, 10, 19] (fun pv yv iv wr => ∃ i : Nat, i ≤ m ∧ iv = .int .i64 i ∧ Hid (Own wr w1.heap.size 3 pv (zs (plS (shE (l.take i))))) ∧ Hid (Own wr w1.heap.size 5 yv (bv (bs (ysS (shE (l.take i)))))) ∧ Hid (Below w1.heap.size w1 wr)) (fun _ _ iv _ => m - (intOf iv).toNat)
 case atStart => exact ⟨0, by omega, rfl, Lib.hid (Own.nil _ _ _), Lib.hid (Own.nil _ _ _), Lib.hid (Below.refl _ _)⟩
 case round =>
  obtain ⟨i, hi, rfl, HP, HY, HW⟩ := hrel
  by_cases him : i < m
  ·have hti : i < l.length := by rw [HL.out]; exact him
   obtain ⟨b, off, rfl, hc0, hc1⟩ := row2_at (HE1.out.below HW.out).row hti
   have hmem : l[i] ∈ l := List.getElem_mem hti
   have HPt := Lib.hid (plS_take hti)
   have HYt := Lib.hid (ysS_take hti)
   have hPl := plS_len l i
   have hYl := ysS_len l i
   rw [HL.out] at hPl hYl
   have h1s := (HOk.out.2 ((l[i]).p, (l[i]).s) (List.mem_map.2 ⟨l[i], hmem, rfl⟩)).2
   have hby0 : ∀ X : World, Below w1.heap.size w1 X → Bytes X (l[i]).A (bs (l[i]).s) := fun X hX => ((HE1.out.below hX).lst _ hmem).1.by_
   obtain ⟨e, he⟩ : ∃ e, l[i] = e := ⟨_, rfl⟩
   rw [he] at hc0 hc1 h1s hby0 HPt HYt
   obtain ⟨ep, eA, es, ec⟩ := e
   replace h1s : es.length = 1 := h1s
   replace hc0 : wr.cell? ⟨b, off + i * 2, none⟩ = some (.int .i64 ep) := hc0
   replace hc1 : wr.cell? ⟨b, off + i * 2 + 1, none⟩ = some (.slice eA es.length ec) := hc1
   replace hby0 : ∀ X : World, Below w1.heap.size w1 X → Bytes X eA (bs es) := hby0
   obtain ⟨b5, o5, rfl⟩ := where_ (hby0 wr HW.out) (by rw [h1s]; omega)
   rw [h1s] at hc1
   obtain ⟨y, hy⟩ : ∃ y, coef es 0 = y := ⟨_, rfl⟩
   have HCd : Hid (∀ X : World, Below w1.heap.size w1 X → X.cell? ⟨b5, o5, none⟩ = some (.int .u8 (y.n : Nat))) := Lib.hid fun X hX => by
    have := cellAt (hby0 X hX) 0 (by rw [h1s]; omega)
    rw [hy] at this
    exact this
   replace HYt : Hid (ysS (shE (l.take (i + 1))) = ysS (shE (l.take i)) ++ [y]) := Lib.hid (by rw [HYt.out]; show _ ++ [coef es 0] = _; rw [hy])
   replace HPt : Hid (plS (shE (l.take (i + 1))) = plS (shE (l.take i)) ++ [ep]) := HPt
   obtain ⟨X, hX⟩ : ∃ X, wr.alloc (.cells #[.int .i64 ep, .slice (some ⟨b5, o5, none⟩) 1 ec] 49) = X := ⟨_, rfl⟩
   obtain ⟨vb, hvb⟩ : ∃ vb, wr.heap.size = vb := ⟨_, rfl⟩
   have hbX : Below wr.heap.size wr X := by rw [← hX]; exact (Below.refl _ _).alloc (Nat.le_refl _) _
   have hblX : Block X vb 49 #[.int .i64 ep, .slice (some ⟨b5, o5, none⟩) 1 ec] := by rw [← hX, ← hvb]; exact Block.new wr _ _
   have hsz := HW.out.size
   have hzX := hbX.size
   have hk1 : TA w1 w1.heap.size vb #[.int .i64 ep, .slice (some ⟨b5, o5, none⟩) 1 ec] u9 u10 (plS (shE (l.take i))) (ysS (shE (l.take i))) X := ⟨HP.out.below hbX, HY.out.below hbX, hblX, HW.out.trans (hbX.mono hsz)⟩
   have HCell : Hid (∀ (X : World) pv yv P Y, TA w1 w1.heap.size vb #[.int .i64 ep, .slice (some ⟨b5, o5, none⟩) 1 ec] pv yv P Y X → X.cell? ⟨vb, 0, none⟩ = some (.int .i64 ep) ∧ X.cell? ⟨vb, 1, none⟩ = some (.slice (some ⟨b5, o5, none⟩) 1 ec) ∧ X.cell? ⟨b5, o5, none⟩ = some (.int .u8 (y.n : Nat))) := Lib.hid fun X pv yv P Y hk => ⟨hk.blk.cell 0, hk.blk.cell 1, HCd.out X hk.bel⟩
   obtain ⟨g1, g2, g3⟩ := HCell.out _ _ _ _ _ hk1
   have hkA := hk1.below (V' := (X.alloc (.cells #[.int .i64 ep] 3)).drew) (by omega) (((Below.refl _ _).alloc (Nat.le_refl _) _).drew)
   have hkB := hk1.below (V' := (X.alloc (.cells #[.int .u8 (y.n : Nat)] 5)).drew) (by omega) (((Below.refl _ _).alloc (Nat.le_refl _) _).drew)
   obtain ⟨f1, f2, f3⟩ := HCell.out _ _ _ _ _ hkA
   obtain ⟨e1, e2, e3⟩ := HCell.out _ _ _ _ _ hkB
   obtain ⟨⟨va, Va, ua, Wa, ra, sa, ka, kaa, kab⟩, ⟨vb', Vb, ub, Wb, rb, sb, kb, -⟩, ⟨vc, Vc, uc, Wc, rc, sc, kc, -⟩, ⟨vd, Vd, ud, Wd, rd, sd, kd, -⟩, ⟨ve, Ve, ue, We, re, se, ke, -⟩, ⟨vf, Vf, uf, Wf, rf, sf, kf, kfa, kfb⟩⟩ := hk1.apps (by omega) ep y (by omega) (by omega)
   obtain ⟨p1, p2, p3⟩ := HCell.out _ _ _ _ _ kaa
   obtain ⟨q1, q2, q3⟩ := HCell.out _ _ _ _ _ kfa
   rw [← HPt.out, ← HYt.out] at ka kb kc kd ke kf
   have Ka := Lib.hid ka
   have Kb := Lib.hid kb
   have Kc := Lib.hid kc
   have Kd := Lib.hid kd
   have Ke := Lib.hid ke
   have Kf := Lib.hid kf
   clear ka kaa kab kb kc kd ke kf kfa kfb hk1 hkA hkB hPl hYl h1s hby0 hy he hmem hbX hblX HP HY
   go_wp2
   go_region
   all_goals
    clear ra sa rb sb rc sc rd sd re se rf sf
    go_wp2
    go_roundw
    case rel => first | exact ⟨i + 1, by omega, by go_num, Lib.hid Ka.out.own1, Lib.hid Ka.out.own2, Lib.hid Ka.out.bel⟩ | exact ⟨i + 1, by omega, by go_num, Lib.hid Kb.out.own1, Lib.hid Kb.out.own2, Lib.hid Kb.out.bel⟩ | exact ⟨i + 1, by omega, by go_num, Lib.hid Kc.out.own1, Lib.hid Kc.out.own2, Lib.hid Kc.out.bel⟩ | exact ⟨i + 1, by omega, by go_num, Lib.hid Kd.out.own1, Lib.hid Kd.out.own2, Lib.hid Kd.out.bel⟩ | exact ⟨i + 1, by omega, by go_num, Lib.hid Ke.out.own1, Lib.hid Ke.out.own2, Lib.hid Ke.out.bel⟩ | exact ⟨i + 1, by omega, by go_num, Lib.hid Kf.out.own1, Lib.hid Kf.out.own2, Lib.hid Kf.out.bel⟩
    case measure => simp [intOf]; omega
  ·obtain rfl : i = m := by omega
   have ht : l.take i = l := List.take_of_length_le (by rw [HL.out]; exact Nat.le_refl _)
   rw [ht] at HP HY
   obtain ⟨A1, d1, rfl, -, -⟩ := HP.out.form
   obtain ⟨A2, d2, rfl, hd2⟩ := Own.shape HY.out
   have hl0 : (zs (plS (shE l))).length = i := by rw [zs_length, plS_length, shE_length, HL.out]
   rw [hl0] at HP ⊢
   have hl2 : (ysS (shE l)).length = i := by rw [ysS_length, shE_length, HL.out]
   have hl1 : (plS (shE l)).length = i := by rw [plS_length, shE_length, HL.out]
   rw [hl2] at HY hd2 ⊢
   have c2 : wr.cell? ⟨w.heap.size, 2, none⟩ = some (.pointer (some ⟨S.rb, 0, none⟩)) := (HBl1.out.below HW.out HBl1.out.lt).cell 2
   have hH := H1.out.below HW.out
   have hDe := Z.decodeP hH.cd A1 (plS (shE l)) i d1 hl1 (own_row HP.out) hm A2 (ysS (shE l)) i d2 hl2 (Own.bytes HY.out) hd2 hm (far_own hH.fld.fld HY.out) t ht1 ht2
   have HDe := Lib.hid hDe
   have HW0 := Lib.hid (HB1.out.trans (HW.out.mono HB1.out.size))
   have him2 : ¬ ((i : Int) < (i : Int)) := by omega
   clear ht hl2 hl1 hl0 hH hDe HP HY
   go_wp2_with fail
   refine HDe.out.mono ?_
   rintro e w2 ⟨p, wl, z, hw, A3, e3, B3, f3, rfl, he3, hf3, hO3, hO4, hF, hP⟩
   have HX : Hid (NeG S (shE l) t w (.returned (.tuple #[.slice A3 p.length e3, .slice B3 wl.length f3, .int .i64 z])) w2) := Lib.hid (.inl ⟨HOk.out, p, wl, z, hw, A3, e3, B3, f3, rfl, he3, hf3, hO3.more HW0.out.size, hO4.more HW0.out.size, hF, (Past.of_below HW0.out S.g).trans (hP.mono HW0.out.size)⟩)
   obtain ⟨pn, hpn⟩ : ∃ pn, p.length = pn := ⟨_, rfl⟩
   obtain ⟨wn, hwn⟩ : ∃ wn, wl.length = wn := ⟨_, rfl⟩
   rw [hpn, hwn] at HX ⊢
   clear hw he3 hf3 hO3 hO4 hF hP hpn hwn
   go_wp2
   go_ret3
   exact HX.out
end Go.Proofs.YtofihklinkpbiaaGreat.Lo

namespace Go.Proofs.YtofihklinkpbiaaGreat.Lo
open Go.RowKit Go.Shelf F8 Poly GF Rd Ms
attribute [local go_sem] Oper.semAt_some
def DeG (S : Lc) (sh : List (Int × List F8)) (t : Int) (w : World) (e : Ending) (w' : World) : Prop :=
 ∃ m wl z, LIs S.xs S.q S.r sh t m wl z ∧ Wl.WRes S.g w m wl z e w'
theorem DeG.err {S : Lc} {sh : List (Int × List F8)} {t z : Int} {w w' : World} (h : LIs S.xs S.q S.r sh t [] [] z) (hf : FldP w' (some ⟨S.g, 0, none⟩)) (hp : Past w.heap.size S.g w w') : DeG S sh t w (.returned (.tuple #[.slice none 0 0, .slice none 0 0, .int .i64 z])) w' :=
 ⟨[], [], z, h, none, 0, none, 0, rfl, Nat.le_refl _, Nat.le_refl _, Own.nil _ _ _, Own.nil _ _ _, hf, hp⟩
set_option maxRecDepth 100000 in
set_option maxHeartbeats 4000000 in
theorem decode_calls (Z : Wl.Spec) {S : Lc} {w : World} (h : S.Ok w) (A : Option Addr) (l : List El) (m c : Nat) (t : Int) (ht1 : -9223372036854775808 ≤ t) (ht2 : t < 9223372036854775808) (hl : l.length = m) (hm : m ≤ 1000) (hE : Els S.g w A l) :
  Calls Tryz.prog 38 #[.pointer (some ⟨S.b, 0, none⟩), .slice A m c, .int .i64 t] w (DeG S (shE l) t w) := by
 obtain ⟨c0, c1, c2, -, -⟩ := h.cells
 have HNone := Lib.hid (isNone_calls h)
 have hne := nearest_calls Z h A l m c t ht1 ht2 hl hm hE
 unfold Lc.ex at hne
 have HNe := Lib.hid hne
 have H := Lib.hid h
 clear h hne hE hl
 go_enter Tryz.func38, Tryz.ntmps38
 go_wp2_with (go_at_call 65; refine HNone.out.mono ?_; rintro e w1 ⟨rfl, rfl⟩)
 refine HNe.out.mono ?_
 rintro e w2 (⟨hok, p, wl, z, hw, A3, e3, B3, f3, rfl, he3, hf3, hO3, hO4, hF, hP⟩ | ⟨hok, rfl, hb⟩)
 rotate_left
 ·have HX : Hid (DeG S (shE l) t w (.returned (.tuple #[.slice none 0 0, .slice none 0 0, .int .i64 2])) w2) := Lib.hid (DeG.err (.inl ⟨fun e => hok (by rw [← H.out.len]; exact e.1), rfl, rfl, rfl⟩) (H.out.fld.below hb) (Past.of_below hb _))
  clear hok hb
  go_wp2
  go_ret3
  exact HX.out
 have hok' : LOk S.xs.length (shE l) := by rw [H.out.len]; exact hok
 obtain ⟨l1, l2, l3⟩ := lis_of (q := S.q) (r := S.r) (t := t) (wl := wl) (z := z) (p := p) H.out.par.r1 H.out.nd hok' hw
 by_cases hz : z = 0
 ·have hpl : p.length = S.T := (hw.few hz).2.1
  have hH2 := H.out.past hF hP
  have HMs := Lib.hid (msg_calls hH2 A3 p S.T e3 hpl rfl (Own.bytes hO3))
  have L2 := Lib.hid (l2 hz)
  have L3 := Lib.hid (l3 hz)
  have HF := Lib.hid hF
  have HP := Lib.hid hP
  have HO4 := Lib.hid hO4
  have hz2 : ((z : Int) != 0) = false := by simp [hz]
  rw [hpl]
  clear hw hok hok' l1 l2 l3 hz hO3 hpl hF hP hO4 hH2
  go_wp2_with fail
  refine HMs.out.mono ?_
  rintro e w3 (⟨hM, A4, c4, rfl, hc4, hO5, hb3⟩ | ⟨hM, rfl, hb3⟩)
  ·have HX : Hid (DeG S (shE l) t w (.returned (.tuple #[.slice A4 S.k c4, .slice B3 wl.length f3, .int .i64 0])) w3) := Lib.hid ⟨unpol S.q S.r p, wl, 0, L2.out hM, A4, c4, B3, f3, by rw [unpol_length, ← H.out.par.ek], by rw [unpol_length, ← H.out.par.ek]; exact hc4, hf3, by rw [unpol_length, ← H.out.par.ek]; exact hO5.more HP.out.size, HO4.out.below hb3, HF.out.below hb3, HP.out.trans ((Past.of_below hb3 S.g).mono HP.out.size)⟩
   obtain ⟨wn, hwn⟩ : ∃ wn, wl.length = wn := ⟨_, rfl⟩
   rw [hwn] at HX ⊢
   clear hM hc4 hO5 hb3 hwn
   go_wp2
   go_ret3
   exact HX.out
  ·have HX : Hid (DeG S (shE l) t w (.returned (.tuple #[.slice none 0 0, .slice none 0 0, .int .i64 80])) w3) := Lib.hid (DeG.err (L3.out hM) (HF.out.below hb3) (HP.out.trans ((Past.of_below hb3 S.g).mono HP.out.size)))
   clear hM hb3
   go_wp2
   go_ret3
   exact HX.out
 ·have HX : Hid (DeG S (shE l) t w (.returned (.tuple #[.slice none 0 0, .slice none 0 0, .int .i64 z])) w2) := Lib.hid (DeG.err (l1 hz) hF hP)
  have hz2 : ((z : Int) != 0) = true := by simpa using hz
  obtain ⟨pn, hpn⟩ : ∃ pn, p.length = pn := ⟨_, rfl⟩
  obtain ⟨wn, hwn⟩ : ∃ wn, wl.length = wn := ⟨_, rfl⟩
  rw [hpn, hwn]
  clear hw hok hok' l1 l2 l3 hz hO3 hO4 hF hP he3 hf3 hpn hwn
  go_wp2
  go_ret3
  exact HX.out
def ReG (S : Lc) (to : Int) (sh : List (Int × List F8)) (t : Int) (w : World) (e : Ending) (w' : World) : Prop :=
 ∃ v z, RepIs S.xs S.q S.r to sh t v z ∧ e = .returned (.tuple #[.int .u8 v.n, .int .i64 z]) ∧ FldP w' (some ⟨S.g, 0, none⟩) ∧ Past w.heap.size S.g w w'
set_option maxRecDepth 100000 in
set_option maxHeartbeats 4000000 in
theorem repair_calls (PS : Poly.Spec) (Z : Wl.Spec) {S : Lc} {w : World} (h : S.Ok w) (to : Int) (A : Option Addr) (l : List El) (m c : Nat) (t : Int) (ht1 : -9223372036854775808 ≤ t) (ht2 : t < 9223372036854775808) (hl : l.length = m) (hm : m ≤ 1000) (hE : Els S.g w A l) :
  Calls Tryz.prog 40 #[.pointer (some ⟨S.b, 0, none⟩), .int .i64 to, .slice A m c, .int .i64 t] w (ReG S to (shE l) t w) := by
 obtain ⟨c0, c1, c2, -, -⟩ := h.cells
 have HNone := Lib.hid (isNone_calls h)
 have hhas := has_calls S to w
 have H := Lib.hid h
 have HE := Lib.hid hE
 have HL := Lib.hid hl
 have hbad : ∀ {w'}, Below w.heap.size w w' → ¬ ((0 ≤ to ∧ to < (S.xs.length : Int)) ∧ to ∉ plS (shE l)) → ReG S to (shE l) t w (.returned (.tuple #[.int .u8 0, .int .i64 2])) w' := fun hb hno => ⟨0, 2, .inl ⟨hno, rfl, rfl⟩, rfl, H.out.fld.below hb, Past.of_below hb _⟩
 unfold Lc.ex at hhas
 by_cases hto : 0 ≤ to ∧ to < (S.n : Int)
 rotate_left
 ·rw [decide_eq_false hto] at hhas
  have HHas := Lib.hid hhas
  have HX : Hid (∀ w', Below w.heap.size w w' → ReG S to (shE l) t w (.returned (.tuple #[.int .u8 0, .int .i64 2])) w') := Lib.hid fun w' hb => hbad hb fun e => hto (by have := e.1; rw [h.len] at this; exact this)
  clear h hE hl hto hhas hbad
  go_enter Tryz.func40, Tryz.ntmps40
  go_wp2_with (first
   | (go_at_call 65; refine HNone.out.mono ?_; rintro e w1 ⟨rfl, rfl⟩)
   | (go_at_call 66; (with_reducible refine HHas.out.mono ?_); rintro e w1 ⟨rfl, hb1⟩))
  go_ret2
  exact HX.out _ hb1
 rw [decide_eq_true hto] at hhas
 have HHas := Lib.hid hhas
 have HTo := Lib.hid hto
 by_cases hin : to ∈ l.map El.p
 ·have HX : Hid (∀ w', Below w.heap.size w w' → ReG S to (shE l) t w (.returned (.tuple #[.int .u8 0, .int .i64 2])) w') := Lib.hid fun w' hb => hbad hb fun e => e.2 (by rw [plS_shE]; exact hin)
  have HC : Hid (∀ V, Below w.heap.size w V → Calls Tryz.prog 75 #[.slice A m c, .func (.func 76) #[.int .i64 to] #[]] V fun e w' => e = .returned (.bool true) ∧ Below V.heap.size V w') := Lib.hid fun V hV => by
   have := contains_calls to A l m c V HL.out hm (HE.out.below hV).row
   rwa [decide_eq_true hin] at this
  clear h hE hl hto hhas hbad hin
  go_enter Tryz.func40, Tryz.ntmps40
  go_wp2_with (first
   | (go_at_call 65; refine HNone.out.mono ?_; rintro e w1 ⟨rfl, rfl⟩)
   | (go_at_call 66; (with_reducible refine HHas.out.mono ?_); rintro e w1 ⟨rfl, hb1⟩)
   | (go_at_call 75; (with_reducible refine (HC.out _ hb1).mono ?_); rintro e w2 ⟨rfl, hb2⟩))
  go_ret2
  exact HX.out _ (hb1.trans (hb2.mono hb1.size))
 have HIn : Hid (to ∉ plS (shE l)) := Lib.hid (by rw [plS_shE]; exact hin)
 have HC : Hid (∀ V, Below w.heap.size w V → Calls Tryz.prog 75 #[.slice A m c, .func (.func 76) #[.int .i64 to] #[]] V fun e w' => e = .returned (.bool false) ∧ Below V.heap.size V w') := Lib.hid fun V hV => by
  have := contains_calls to A l m c V HL.out hm (HE.out.below hV).row
  rwa [decide_eq_false hin] at this
 clear h hE hl hto hhas hbad hin
 go_enter Tryz.func40, Tryz.ntmps40
 go_wp2_with (first
  | (go_at_call 65; refine HNone.out.mono ?_; rintro e w1 ⟨rfl, rfl⟩)
  | (go_at_call 66; (with_reducible refine HHas.out.mono ?_); rintro e w1 ⟨rfl, hb1⟩)
  | (go_at_call 75; (with_reducible refine (HC.out _ hb1).mono ?_); rintro e w2 ⟨rfl, hb2⟩))
 have HB2 := Lib.hid (hb1.trans (hb2.mono hb1.size))
 have HDe := Lib.hid (decode_calls Z (H.out.below HB2.out) A l m c t ht1 ht2 HL.out hm (HE.out.below HB2.out))
 clear hb1 hb2 HC HHas c0 c1 c2
 refine HDe.out.mono ?_
 rintro e w3 ⟨ms, wl, z, hD, A3, e3, B3, f3, rfl, he3, hf3, hO3, hO4, hF, hP⟩
 have hP' := (Past.of_below HB2.out S.g).trans (hP.mono HB2.out.size)
 obtain ⟨wn, hwn⟩ : ∃ wn, wl.length = wn := ⟨_, rfl⟩
 rw [hwn]
 clear hwn
 obtain ⟨i, rfl⟩ : ∃ i : Nat, to = (i : Int) := ⟨to.toNat, by have := HTo.out.1; omega⟩
 by_cases hz : z = 0
 ·subst hz
  have hml : ms.length = S.k := by rw [H.out.par.ek]; exact hD.ok
  have hK0 := (H.out.past hF hP').below (Below.refl _ _).drew
  have HK := Lib.hid hK0
  have HPo := Lib.hid (pol_calls hK0 A3 ms S.k e3 hml rfl (Own.bytes hO3).drew)
  have HSc : Hid (∀ V, S.Ok V → V.cell? ⟨S.b, 0, none⟩ = some (.pointer (some ⟨S.g, 0, none⟩)) ∧ V.cell? ⟨S.b, 1, none⟩ = some (.slice S.A S.n S.c) ∧ V.cell? ⟨S.b, 2, none⟩ = some (.pointer (some ⟨S.rb, 0, none⟩))) := Lib.hid fun V hV => ⟨hV.cells.1, hV.cells.2.1, hV.cells.2.2.1⟩
  have HX : Hid (∀ w', FldP w' (some ⟨S.g, 0, none⟩) → Past w.heap.size S.g w w' → ReG S (i : Int) (shE l) t w (.returned (.tuple #[.int .u8 (eval (pol S.q S.r ms) (coef S.xs i)).n, .int .i64 0])) w') := Lib.hid fun w' hf hp => ⟨_, 0, .inr ⟨⟨by rw [H.out.len]; exact HTo.out, HIn.out⟩, ms, wl, hD, .inl ⟨rfl, by rw [Int.toNat_natCast]⟩⟩, rfl, hf, hp⟩
  have HP3 := Lib.hid hP'
  have hin : i < S.n := by have := HTo.out.2; omega
  have hn := H.out.par.nums
  have hT9 : S.T ≤ 1000 := by unfold Lc.T; omega
  rw [hml]
  clear hD hml hK0 hO3 hO4 hF hP hP' he3 hf3 HDe HE hn
  go_wp2_with fail
  go_region_held (fun V => V.cell? ⟨S.b, 0, none⟩ = some (.pointer (some ⟨S.g, 0, none⟩)) ∧ V.cell? ⟨S.b, 1, none⟩ = some (.slice S.A S.n S.c) ∧ V.cell? ⟨S.b, 2, none⟩ = some (.pointer (some ⟨S.rb, 0, none⟩))) (exact HSc.out _ HK.out)
   (first
    | (go_at_call 70; (with_reducible refine HPo.out.mono ?_); rintro e w4 ⟨A1, c5, rfl, hc5, hO1, hb4⟩; replace HK := Lib.hid (HK.out.below hb4); have hVa := value_calls PS HK.out A1 (pol S.q S.r ms) S.T c5 (pol_length _ _ _) (BF.own HK.out.fld hO1) hc5 hT9 i hin; unfold Lc.ex at hVa; have HVa := Lib.hid hVa; have HB4 := Lib.hid hb4; clear hVa hO1 hb4)
    | (go_at_call 79; (with_reducible refine HVa.out.mono ?_); rintro e w5 ⟨rfl, hF5, hP5⟩; replace HK := Lib.hid (HK.out.past hF5 hP5)))
  all_goals
   go_wp2
   go_ret2
   have hb : Below w3.heap.size w3 w4 := (Below.refl _ _).drew.trans HB4.out
   exact HX.out _ hF5 (HP3.out.trans (((Past.of_below hb S.g).trans (hP5.mono hb.size)).mono HP3.out.size))
 ·have hz2 : ((z : Int) != 0) = true := by simpa using hz
  have HX : Hid (ReG S (i : Int) (shE l) t w (.returned (.tuple #[.int .u8 0, .int .i64 z])) w3) := Lib.hid ⟨0, z, .inr ⟨⟨by rw [H.out.len]; exact HTo.out, HIn.out⟩, ms, wl, hD, .inr ⟨hz, rfl⟩⟩, rfl, hF, hP'⟩
  obtain ⟨mn, hmn⟩ : ∃ mn, ms.length = mn := ⟨_, rfl⟩
  rw [hmn]
  clear hD hO3 hO4 hF hP hP' he3 hf3 HDe HE hz hmn
  go_wp2
  go_ret2
  exact HX.out
end Go.Proofs.YtofihklinkpbiaaGreat.Lo
