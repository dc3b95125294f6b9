/- What the program's list does: what a visitor hands on, in a slice of its own. -/
import Derived.Test.YtikfjbomogekbaaPtVisit
import Derived.Test.YtikfjbomogekbaaRound
namespace Go.Proofs.Ytikfjbomogekbaa.Pt
open Go.RowKit Go.Shelf Poly GF
attribute [local go_sem] Oper.semAt_some

theorem wpListIn_app {P : Program} (w : World) {l n : Nat} {ops : Array Oper} {rest : List Oper} {o : Oper} {a : Act} {Q : Exit → Act → World → Prop} (hgd : o.guard = none) (s x : Operand) (t : TypeId)
    (ho : o.op = .call { callee := .builtin .append, args := #[s, x], argTypes := #[t, t] })
    (B : Nat) (e : TypeId) (z : Value) (bytes : Nat) (ht : P.underlying t = some (.slice e)) (hinfo : (P.info? e).map (fun i => (i.zero, i.size, i.bytes)) = some (some z, 1, bytes)) (hz : z.cells.size = 1) (hb : 0 < bytes)
    (v : Value) (xs : List Value) (hs : a.eval s = v) (hown : Own w B e v xs) (A : Option Addr) (m c : Nat) (ys : List Value) (hx : a.eval x = .slice A m c) (hm : ys.length = m) (hr : Row w A ys) (h1 : ∀ u ∈ ys, u.oneCell' = true)
    (hlen : (xs.length + m) * bytes ≤ 140737488355328) (hB : B ≤ w.heap.size)
    (h : ∀ v' w', Own w' B e v' (xs ++ ys) → w.grownBy w' v.ownBlock → (v'.ownBlock = v.ownBlock ∨ v'.ownBlock = some w.heap.size) → wpListIn (Fence.wide.inRound l) n P ops Q rest (a.put o.dst v') w') : wpListIn (Fence.wide.inRound l) n P ops Q (o :: rest) a w :=
  wpListIn_plain hgd fun _ hK => oper_round (by rw [ho]; intro c hc; cases hc) (wp_app w s x t ho B e z bytes ht hinfo hz hb v xs hs hown A m c ys hx hm hr h1 hlen hB fun v' w' h2 h3 h4 => hK _ _ (h v' w' h2 h3 h4))

/-- Numbers as values. -/
def nv (l : List Nat) : List Value := l.map fun n : Nat => Value.int .i64 (n : Int)
theorem nv_length (l : List Nat) : (nv l).length = l.length := by simp [nv]
theorem info_b : (Try.prog.info? 5).map (fun i => (i.zero, i.size, i.bytes)) = some (some (.int .u8 0), 1, 1) := by kernel_rfl
theorem info_i : (Try.prog.info? 3).map (fun i => (i.zero, i.size, i.bytes)) = some (some (.int .i64 0), 1, 8) := by kernel_rfl
/-- What a slice variable holds. -/
def Held (W : World) (B bx : Nat) (st e : TypeId) (xs : List Value) : Prop := ∃ v, Block W bx st #[v] ∧ Own W B e v xs ∧ v.ownBlock ≠ some bx
theorem keeps_grown {W W' : World} {B l : Nat} {e : TypeId} {v : Value} {xs : List Value} (h : Own W B e v xs) (hg : W.grownBy W' v.ownBlock) : KeepsFrom l W W' := by
  obtain ⟨os, tape, output, size, hk⟩ := hg
  refine ⟨size, fun k o _ h1 ho => (hk k (Array.getElem?_eq_some_iff.1 h1).1 fun e => ?_).trans h1⟩
  rcases h.2 with ⟨rfl, _⟩ | ⟨g, cap, cur, rfl, _, h3, _⟩
  · cases e
  · have e2 : g = k := by simpa [Value.ownBlock] using e.symm
    subst e2
    rw [h3] at h1
    cases h1
    cases ho
theorem bv_cells (l : List Nat) : ∀ u ∈ bv l, u.oneCell' = true := bv_one l
theorem nv_cells (l : List Nat) : ∀ u ∈ nv l, u.oneCell' = true := by
  intro u hu; obtain ⟨n, _, rfl⟩ := List.mem_map.1 hu; rfl
theorem block_grown {w w' : World} {b : Nat} {t : TypeId} {cs : Array Value} {row : Option Nat} (h : Block w b t cs) (hg : w.grownBy w' row) (hn : row ≠ some b) : Block w' b t cs := by
  obtain ⟨_, _, _, _, hk⟩ := hg
  exact (hk b h.lt (fun e => hn e.symm)).trans h
theorem nv_get (l : List Nat) (k : Nat) (hk : k < (nv l).length) : (nv l)[k] = .int .i64 ((l[k]'(by rwa [nv_length] at hk) : Nat) : Int) := by simp [nv]
set_option maxRecDepth 100000 in
set_option maxHeartbeats 2000000 in
theorem listB_calls (gf g : Nat) (lb : Array Value) (Kp : World → Prop) (l : List Nat) (hlen : l.length ≤ 1000000) (w : World) (hV : Visits gf lb g Kp (bv l)) (hen : ∀ args W, (callFunc gf args).run Try.prog W = .ok (.enter gf args) W)
    (hgw : g < w.heap.size) (hKp : ∀ W W', Kp W → Below w.heap.size W W' → Kp W') (h0 : Kp w) :
    Calls Try.prog 67 #[.func (.func gf) #[] lb] w fun e w' => ∃ v, e = .returned v ∧ Own w' w.heap.size 5 v (bv l) ∧ Past w.heap.size g w w' ∧ Kp w' := by
  refine (callsIn_wide (n := 9)).1 (callsIn_of_wp_marks Try.func67 rfl trivial ?_ rfl)
  simp only [Try.ntmps67, List.size_toArray, List.length_cons, List.length_nil, Nat.reduceAdd, Nat.reduceSub, Array.replicate_succ, Array.replicate_zero, List.push_toArray, List.append_toArray, List.nil_append, List.cons_append]
  refine wpIn_wide.2 ?_
  go_wp2_with fail
  refine wpIn_wide.1 (wpIn_visits (n := 9) (by omega) hV (by simp; omega) hen rfl
    (fun k W => Kp W ∧ Past w.heap.size g w W ∧ Held W w.heap.size w.heap.size 32 5 ((bv l).take k))
    (fun _ _ => False)
    (fun k W W' ⟨h1, h2, v, h3, h4, h5⟩ t => ⟨hKp _ _ h1 (t.below.mono (by simp)), t.past h2 (by simp), v, t.block h3, t.own h4, h5⟩)
    (fun _ _ _ h _ => h)
    (fun k W h => h.1)
    (fun k W W' ⟨h1, h2, v, h3, h4, h5⟩ t hk hs => by
      simp only [World.size_alloc] at hs
      refine ⟨hk, h2.trans (t.mono (by omega)), v, h3.past t h3.lt (by omega), ?_, h5⟩
      refine h4.grown (row := some g) ⟨t.os, t.tape, t.output, t.size, fun k hk hne => t.block k hk (by simpa using hne)⟩ (.inr ?_)
      intro e
      have := h4.lt g e
      omega)
    ⟨hKp _ _ h0 ((Below.refl _ w).alloc (Nat.le_refl _) _), Past.of_below ((Below.refl _ w).alloc (Nat.le_refl _) _) g, .slice none 0 0, Block.new _ _ _, Own.nil _ _ _, by simp [Value.ownBlock]⟩
    ?a1 ?assign ?body ?done (fun _ _ h => h.elim))
  case assign =>
    intro l k v W K hk hK
    gi_wp2
    exact hK
  case body =>
    rintro l' k v W hk ⟨k1, k2, v0, k3, k4, k5⟩ hsz
    simp only [World.size_alloc] at hsz
    obtain ⟨hkl, hkv⟩ := List.getElem?_eq_some_iff.1 hk
    obtain ⟨x, rfl⟩ : ∃ x : Int, v = .int .u8 x := ⟨_, by rw [← hkv, bv_get]⟩
    have htk : (bv l).take (k + 1) = (bv l).take k ++ [.int .u8 x] := by rw [take_succ' _ hkl, hkv]
    obtain ⟨A, c, rfl, hrow, _⟩ := k4.form
    have hc := k3.cell 0
    have hf := k3.frozen 0
    have hm : ((bv l).take k).length ≤ l.length := by rw [List.length_take, bv_length]; omega
    obtain ⟨m, hmm⟩ : ∃ m, ((bv l).take k).length = m := ⟨_, rfl⟩
    rw [hmm] at hm hc k5 k4 k3
    have HM := Lib.hid hmm
    clear hmm
    gi_wp2_with (gi_at_builtin; refine wpListIn_app _ rfl _ _ 32 rfl w.heap.size 5 (.int .u8 0) 1 Try.underlying32 info_b rfl (by decide) _ _ rfl (k4.alloc _) _ 1 1 [.int .u8 x] rfl rfl (Row.new _ _ _ _) (by intro u hu; obtain rfl := List.mem_singleton.1 hu; rfl) (by rw [HM.out]; omega) (by simp; omega) ?_; rintro v2 w2 hO hgr hb; replace hgr : (W.alloc _).grownBy w2 (Value.slice A m c).ownBlock := hgr; replace hb : _ = (Value.slice A m c).ownBlock ∨ _ := hb; have hbx := block_grown (k3.alloc _) hgr k5; have hc2 := hbx.cell 0; have hf2 := hbx.frozen 0; obtain ⟨A2, c2, rfl, _, _⟩ := hO.form; generalize hn2 : (List.take k (bv l) ++ [Value.int .u8 x]).length = n2 at hO hb ⊢)
    have hne : (Value.slice A2 n2 c2).ownBlock ≠ some w.heap.size := by
      rcases hb with e | e
      · rw [e]; exact k5
      · rw [e]; simp; omega
    have hbel : Below w.heap.size W (w2.setCell ⟨w.heap.size, 0, none⟩ (.slice A2 n2 c2)) :=
      (((Below.refl _ W).alloc (by omega) _).trans ((k4.alloc _).grew (by simp; omega) hgr)).setCell (p := ⟨w.heap.size, 0, none⟩) (Nat.le_refl _) _
    refine ⟨((KeepsOthers.alloc _ _).from _).trans ((keeps_grown (k4.alloc _) hgr).trans ((KeepsOthers.setCell _ _ _).from _)), hKp _ _ k1 hbel, k2.trans (Past.of_below hbel g), _, hbx.set_ 0 _, ?_, hne⟩
    rw [htk]
    exact hO.far (by exact hne) _
  case done =>
    rintro W ⟨k1, k2, v, k3, k4, k5⟩ hD
    rw [List.take_length] at k4
    obtain ⟨A, c, rfl, hrow, _⟩ := k4.form
    have hc := k3.cell 0
    have hf := k3.frozen 0
    generalize hn2 : (bv l).length = m at *
    go_wp2
    refine ⟨by simp, .inl ⟨_, _, rfl, run_takeDeferred hD, ?_⟩⟩
    have ht : Turn w.heap.size W _ := Turn.put hD rfl (by simp) (.deferred none)
    exact ⟨.slice A m c, by simp [results, Try.results67, go_sem], _, rfl, ht.own k4, ht.past k2 (Nat.le_refl _), hKp _ _ k1 ht.below⟩
end Go.Proofs.Ytikfjbomogekbaa.Pt
